/- Layer 8: the document's End, string. Layer 8: a device's string that the document tells. Layer 8: the document's Byte, way by way (written by gen_evd.py). Layer 8: the document's Byte: Esc and Csi (written by gen_evd.py with PART=2). Layer 8: the document's Byte where a character may be printed. Layer 8: the document's Byte, whole; its All. Layer 8: the document's All. -/
import Derived.Test.YtfekjlajagoooaaDoorEvA
import Derived.Deep.RegionLaw
import Derived.Deep.RegionHeld3
import Derived.Test.YtfekjlajagoooaaDoorE6StDE
import Derived.LoopTactic
/-! ## Layer 8: the document's End, string. -/
namespace Go.Proofs.YtfekjlajagoooaaDoor
open Go.RowKit Ev

/-- What a call of the document's parser does: it tells E, and stands as q' then. -/
def RefStep (w0 w : World) (base a : Nat) (q' : Q) (L : List EV) (e : Ending) (w' : World) : Prop := e = .returned (.tuple #[]) ∧ ∃ A c, RefP w0 w' base a q' L A c ∧ w.heap.size ≤ w'.heap.size

theorem End_any {w0 w : World} {base a : Nat} {q : Q} {L : List EV} {A : Option Addr} {c : Nat} (h : RefP w0 w base a q L A c) (hL : L.length ≤ 1000000) :
    Calls Tryd.prog 36 #[.pointer (some ⟨a, 0, none⟩)] w (RefStep w0 w base a { q with kept := [] } (L ++ markE q)) := by
  have c1 : w.cell? ⟨a, 1, none⟩ = some (.string (strK q.kept)) := by rw [cell_at h.blk]; rfl
  by_cases hk : q.kept = []
  · have e0 : (strK q.kept).toList.isEmpty = true := by rw [hk]; exact D5.str_none
    have E : Hid (L ++ markE q = L ∧ { q with kept := [] } = q) := Lib.hid ⟨by simp [markE, hk], by rw [← hk]⟩
    have HR := Lib.hid h
    clear h hk
    go_enter Tryd.func36, Tryd.ntmps36
    go_wp2
    go_end0
    refine ⟨rfl, A, c, ?_, Nat.le_refl _⟩
    rw [E.out.1, E.out.2]
    exact HR.out
  · have e0 : (strK q.kept).toList.isEmpty = false := D5.str_some hk
    have E : Hid (markE q = [printE 65533]) := Lib.hid (by simp [markE, hk])
    have HP := Lib.hid (print_any h hL 65533)
    clear h hk
    go_enter Tryd.func36, Tryd.ntmps36
    go_wp2_with fail
    refine (show Calls _ _ _ _ _ from HP.out).mono ?_
    rintro e w1 ⟨rfl, A1, c1', hR, hs⟩
    have x1 : w1.cell? ⟨a, 1, none⟩ = some (.string (strK q.kept)) := by rw [cell_at hR.blk]; rfl
    have y1 : w1.frozen? ⟨a, 1, none⟩ = false := free_at hR.blk 1
    have HF : Hid (RefP w0 (w1.setCell ⟨a, 1, none⟩ (.string ⟨#[]⟩)) base a { q with kept := [] } (L ++ markE q) A1 c1') := Lib.hid (by
      rw [E.out]
      exact hR.put 1 _ rfl rfl hR.st)
    have HS := Lib.hid hs
    clear hR hs HP c1
    go_wp2
    go_end0
    exact ⟨rfl, _, _, HF.out, by simpa using HS.out⟩

theorem build_osc (X : ByteArray) (W : World) : (Instr.build 89 #[(0, .int .i64 5), (5, .string X)]).run Tryd.prog W = .ok (.agg #[.int .i64 5, .int .i32 0, .int .u8 0, .string ⟨#[]⟩, .slice none 0 0, .string X]) W := run_build W 89 #[(0, .int .i64 5), (5, .string X)] _ (by kernel_rfl)

theorem cell_kept {w w5 : World} {a : Nat} (h : ∃ C t, w.heap[a]? = some (.cells C t (0, 0)) ∧ 6 < C.size) (hb : w5.heap[a]? = w.heap[a]?) : ∃ u, w5.cell? ⟨a, 6, none⟩ = some u := by
  obtain ⟨C, t, h1, h2⟩ := h
  exact ⟨C[6], by rw [cell_at (hb.trans h1)]; exact Array.getElem?_eq_getElem h2⟩
theorem free_kept {w w5 : World} {a : Nat} (h : ∃ C t, w.heap[a]? = some (.cells C t (0, 0)) ∧ 6 < C.size) (hb : w5.heap[a]? = w.heap[a]?) : w5.frozen? ⟨a, 6, none⟩ = false := by
  obtain ⟨C, t, h1, h2⟩ := h
  exact free_at (hb.trans h1) 6
theorem grown_undrew {w w1 : World} {r : Option Nat} (h : w.drew.grownBy w1 r) : w.grownBy w1 r := ⟨h.os, h.tape, h.output, h.size, h.block⟩

/-- Behind the append and the store. -/
theorem tell_done {w0 w : World} {base a n : Nat} {q : Q} {L : List EV} {A : Option Addr} {c : Nat} {ls : List (List Value)} (h : RefP w0 w base a q L A c) (hls : Evs w L ls) (hn : n = L.length) (o : Obj) (e : EV) (l : List Value) (he : IsEv w e l) :
    ∀ (g c' : Nat) (w5 : World), w5.ownsRow base 89 6 (.slice (some ⟨g, 0, none⟩) (n + 1) c') (n + 1) (ls.flatten ++ l) → (w.alloc o).drew.grownBy w5 (Value.slice A n c).ownBlock →
      RefStep w0 w base a q (L ++ [e]) (.returned (.tuple #[])) (w5.setCell ⟨a, 6, none⟩ (.slice (some ⟨g, 0, none⟩) (n + 1) c')) := by
  subst hn
  intro g c' w5 hown hg
  obtain ⟨g', c'', e', hR, _, _, hsz⟩ := h.tell hls he hown (grown_undrew hg)
  exact ⟨rfl, _, _, hR, by simpa using hsz⟩
/-- The parser's block behind an append to what was told. -/
theorem tell_block {w0 w : World} {base a n : Nat} {q : Q} {L : List EV} {A : Option Addr} {c : Nat} (h : RefP w0 w base a q L A c) (hn : n = L.length) (o : Obj) : ∀ w5 : World, (w.alloc o).drew.grownBy w5 (Value.slice A n c).ownBlock → w5.heap[a]? = w.heap[a]? := by
  subst hn
  intro w5 hg
  refine (hg.block a (by simp; have := h.lt; omega) (fun e => ?_)).trans (heap_alloc_old w _ h.lt)
  obtain ⟨_, _, cur, hc⟩ := h.told.ge a e.symm
  rw [h.blk] at hc
  cases hc
/-- Facts for an event that is told in a region that draws. -/
theorem tell_own {w0 w : World} {base a : Nat} {q : Q} {L : List EV} {A : Option Addr} {c : Nat} (h : RefP w0 w base a q L A c) (o : Obj) : ∃ ls, Evs w L ls ∧ (w.alloc o).drew.ownsRow base 89 6 (.slice A L.length c) L.length ls.flatten := by
  obtain ⟨ls, h1, h2⟩ := h.told
  exact ⟨ls, h1, World.ownsRow.alloc h2 o⟩

set_option maxRecDepth 100000 in
set_option maxHeartbeats 1000000 in
theorem str_osc {w0 w : World} {base a : Nat} {q : Q} {L : List EV} {A : Option Addr} {c : Nat} (h : RefP w0 w base a q L A c) (hL : L.length ≤ 1000000) (b : Nat) (hb : ¬ (b = 24 ∨ b = 26)) (hs : q.st = 12) (ht : q.text.length ≤ 1024) :
    Calls Tryd.prog 37 #[.pointer (some ⟨a, 0, none⟩), .int .u8 (b : Int)] w (RefStep w0 w base a q (L ++ [⟨5, 0, 0, [], [], q.text⟩])) := by
  obtain ⟨i0, hi, hz0, hz1, hz2⟩ := info_parts info_ev
  have HI := Lib.hid hi; have HZ0 := Lib.hid hz0; have HZ1 := Lib.hid hz1; have HZ2 := Lib.hid hz2
  have HR := Lib.hid h
  obtain ⟨n, hn⟩ : ∃ n, n = L.length := ⟨_, rfl⟩
  obtain ⟨X, hX⟩ : ∃ X, X = strK q.text := ⟨_, rfl⟩
  have HN := Lib.hid hn
  have HX := Lib.hid hX
  have hXs : X.size = q.text.length := by rw [hX]; simp [D5.strK, ByteArray.size]
  have c0 : w.cell? ⟨a, 0, none⟩ = some (.int .i64 12) := by rw [cell_at h.blk]; simp [cellsQ, hs]
  have c5 : w.cell? ⟨a, 5, none⟩ = some (.string X) := by rw [cell_at h.blk, hX]; rfl
  have c6 : w.cell? ⟨a, 6, none⟩ = some (.slice A n c) := by rw [cell_at h.blk, hn]; rfl
  obtain ⟨ls, hls, hown0⟩ := tell_own h (.cells #[.int .i64 5, .int .i32 0, .int .u8 0, .string ⟨#[]⟩, .slice none 0 0, .string X] 89)
  have HLS := Lib.hid hls
  rw [← hn] at hown0
  have HO := Lib.hid hown0
  have kb := build_osc X
  have hn1 : n ≤ 1000000 := by omega
  have HB : Hid (base ≤ w.heap.size) := Lib.hid h.sz
  have d1 : ((b : Int) == 24) = false := by simp; omega
  have d2 : ((b : Int) == 26) = false := by simp; omega
  have d3 : decide ((X.size : Int) ≤ 1024) = true := by simp; omega
  have HCU := Lib.hid (tell_block h hn (.cells #[.int .i64 5, .int .i32 0, .int .u8 0, .string ⟨#[]⟩, .slice none 0 0, .string X] 89))
  have HD := Lib.hid (tell_done h hls hn (.cells #[.int .i64 5, .int .i32 0, .int .u8 0, .string ⟨#[]⟩, .slice none 0 0, .string X] 89) ⟨5, 0, 0, [], [], q.text⟩ [.int .i64 5, .int .i32 0, .int .u8 0, .string ⟨#[]⟩, .slice none 0 0, .string X] ⟨none, 0, by rw [hX]; rfl, fun h => absurd h (by simp)⟩)
  have HA : Hid (∃ C t, w.heap[a]? = some (.cells C t (0, 0)) ∧ 6 < C.size) := Lib.hid ⟨_, _, h.blk, by simp [cellsQ]⟩
  have hl : a < w.heap.size := h.lt
  clear hi hz0 hz1 hz2 h hls hown0 hn hX hL hb hs
  go_enter Tryd.func37, Tryd.ntmps37
  go_wp2
  go_region_law (refine step_append_lies _ rfl (.tmp 25) (.tmp 31) 36 rfl base 89 i0 zeroEv 6 72 Tryd.underlying36 HI.out HZ0.out HZ1.out HZ2.out rfl (by decide) (.slice A n c) n _ (by simp [Act.eval]) HO.out ⟨w.heap.size, 0, none⟩ 1 1 [.int .i64 5, .int .i32 0, .int .u8 0, .string ⟨#[]⟩, .slice none 0 0, .string X] (by simp [Act.eval]) rfl (one_cells w _ _) (by intro u hu; simp at hu; rcases hu with rfl | rfl | rfl | rfl | rfl | rfl <;> rfl) (by omega) (by unfold maxLen; omega) (by omega) (by have := HB.out; simp; omega) _ rfl ?_; intro g c' w5 hown hgrow hat hlt5; have hblk := HCU.out w5 hgrow; obtain ⟨u5, cu5⟩ := cell_kept HA.out hblk; have fu5 := free_kept HA.out hblk; have HOW5 := Lib.hid hown; have HGR := Lib.hid hgrow; clear hown hgrow hat hlt5 hblk)
  all_goals
    go_wp2
    (try simp only [Exit.inBlock, Exit.then])
    first | refine bodyPost_ret (results_none rfl _ _ _) rfl ?_ | refine bodyPost_end (results_none rfl _ _ _) rfl ?_
    exact HD.out _ _ _ HOW5.out HGR.out

/-- The same where nothing was drawn since. -/
theorem tell_done' {w0 w : World} {base a n : Nat} {q : Q} {L : List EV} {A : Option Addr} {c : Nat} {ls : List (List Value)} (h : RefP w0 w base a q L A c) (hls : Evs w L ls) (hn : n = L.length) (o : Obj) (e : EV) (l : List Value) (he : IsEv w e l) :
    ∀ (g c' : Nat) (w5 : World), w5.ownsRow base 89 6 (.slice (some ⟨g, 0, none⟩) (n + 1) c') (n + 1) (ls.flatten ++ l) → (w.alloc o).grownBy w5 (Value.slice A n c).ownBlock →
      RefStep w0 w base a q (L ++ [e]) (.returned (.tuple #[])) (w5.setCell ⟨a, 6, none⟩ (.slice (some ⟨g, 0, none⟩) (n + 1) c')) := by
  subst hn
  intro g c' w5 hown hg
  obtain ⟨g', c'', e', hR, _, _, hsz⟩ := h.tell hls he hown hg
  exact ⟨rfl, _, _, hR, by simpa using hsz⟩
theorem tell_block' {w0 w : World} {base a n : Nat} {q : Q} {L : List EV} {A : Option Addr} {c : Nat} (h : RefP w0 w base a q L A c) (hn : n = L.length) (o : Obj) : ∀ w5 : World, (w.alloc o).grownBy w5 (Value.slice A n c).ownBlock → w5.heap[a]? = w.heap[a]? := by
  subst hn
  intro w5 hg
  refine (hg.block a (by simp; have := h.lt; omega) (fun e => ?_)).trans (heap_alloc_old w _ h.lt)
  obtain ⟨_, _, cur, hc⟩ := h.told.ge a e.symm
  rw [h.blk] at hc
  cases hc
theorem RefStep.from_ {w0 w w1 : World} {base a : Nat} {q : Q} {L : List EV} {e : Ending} {w' : World} (h : RefStep w0 w1 base a q L e w') (hs : w.heap.size ≤ w1.heap.size) : RefStep w0 w base a q L e w' := by
  obtain ⟨h1, A, c, h2, h3⟩ := h
  exact ⟨h1, A, c, h2, Nat.le_trans hs h3⟩

/-- Everything that a region with the document's All in it needs behind that call. -/
theorem dcs_facts {w0 w : World} {base a n : Nat} {q : Q} {L : List EV} {A : Option Addr} {c : Nat} (h : RefP w0 w base a q L A c) (hn : n = L.length) (k f : Nat) (M X : List UInt8) : Hid (∀ (w4 : World) (A2 : Option Addr) (c2 : Nat), Below w.heap.size w w4 → P7.TabT w4 A2 (P7.Par.parsV q.list) →
    ∃ (ls : List (List Value)), (w4.alloc (.cells #[.int .i64 k, .int .i32 0, .int .u8 f, .string (strK M), .slice A2 (P7.Par.parsV q.list).length c2, .string (strK X)] 89)).ownsRow base 89 6 (.slice A n c) n ls.flatten ∧ base ≤ w4.heap.size ∧ a < w4.heap.size ∧
      (∀ w5 : World, (w4.alloc (.cells #[.int .i64 k, .int .i32 0, .int .u8 f, .string (strK M), .slice A2 (P7.Par.parsV q.list).length c2, .string (strK X)] 89)).grownBy w5 (Value.slice A n c).ownBlock → (∃ u, w5.cell? ⟨a, 6, none⟩ = some u) ∧ w5.frozen? ⟨a, 6, none⟩ = false ∧ w5.heap[a]? = w4.heap[a]?) ∧
      ∀ (g c' : Nat) (w5 : World), w5.ownsRow base 89 6 (.slice (some ⟨g, 0, none⟩) (n + 1) c') (n + 1) (ls.flatten ++ [.int .i64 k, .int .i32 0, .int .u8 f, .string (strK M), .slice A2 (P7.Par.parsV q.list).length c2, .string (strK X)]) → (w4.alloc (.cells #[.int .i64 k, .int .i32 0, .int .u8 f, .string (strK M), .slice A2 (P7.Par.parsV q.list).length c2, .string (strK X)] 89)).grownBy w5 (Value.slice A n c).ownBlock →
        RefStep w0 w base a q (L ++ [⟨k, 0, f, M, P7.Par.parsV q.list, X⟩]) (.returned (.tuple #[])) (w5.setCell ⟨a, 6, none⟩ (.slice (some ⟨g, 0, none⟩) (n + 1) c'))) := Lib.hid (by
  intro w4 A2 c2 hb ht
  have h4 := h.below hb
  obtain ⟨ls, h1, h2⟩ := h4.told
  refine ⟨ls, by rw [hn]; exact World.ownsRow.alloc h2 _, h4.sz, h4.lt, fun w5 hg => ?_, fun g c' w5 hown hg => (tell_done' h4 h1 hn _ ⟨k, 0, f, M, P7.Par.parsV q.list, X⟩ _ ⟨A2, c2, rfl, ht⟩ g c' w5 hown hg).from_ hb.size⟩
  have hblk := tell_block' h4 hn _ w5 hg
  exact ⟨cell_kept ⟨_, _, h4.blk, by simp [cellsQ]⟩ hblk, free_kept ⟨_, _, h4.blk, by simp [cellsQ]⟩ hblk, hblk⟩)

theorem build_dcs (f : Int) (M X : ByteArray) (A : Option Addr) (n c : Nat) (W : World) : (Instr.build 89 #[(0, .int .i64 6), (2, .int .u8 f), (3, .string M), (4, .slice A n c), (5, .string X)]).run Tryd.prog W = .ok (.agg #[.int .i64 6, .int .i32 0, .int .u8 f, .string M, .slice A n c, .string X]) W := run_build W 89 #[(0, .int .i64 6), (2, .int .u8 f), (3, .string M), (4, .slice A n c), (5, .string X)] _ (by kernel_rfl)
theorem strK_size (l : List UInt8) : (strK l).size = l.length := by simp [D5.strK, ByteArray.size]
theorem of_drew {B : Nat} {W w' : World} (h : Below B W.drew w') : Below B W w' := ⟨h.os, h.tape, h.output, h.size, h.block⟩

end Go.Proofs.YtfekjlajagoooaaDoor

/-! ## Layer 8: a device's string that the document tells. -/
namespace Go.Proofs.YtfekjlajagoooaaDoor
open Go.RowKit Ev

theorem oth {w : World} {a : Nat} {v : Value} (i : Nat) (h : i ≠ 6) : (w.setCell ⟨a, 6, none⟩ v).cell? ⟨a, i, none⟩ = w.cell? ⟨a, i, none⟩ := World.cell?_setCell_other _ _ _ _ (by intro e; injection e with e1 e2; omega)

set_option maxRecDepth 100000 in
set_option maxHeartbeats 4000000 in
theorem str_dcs {w0 w : World} {base a : Nat} {q : Q} {L : List EV} {A : Option Addr} {c : Nat} (h : RefP w0 w base a q L A c) (hL : L.length ≤ 1000000) (hl : q.list.length ≤ 1000000) (b : Nat) (hb : ¬ (b = 24 ∨ b = 26)) (hs : q.st ≠ 12) (ht : q.text.length ≤ 256) (hm : q.mids.length ≤ 2) :
    Calls Tryd.prog 37 #[.pointer (some ⟨a, 0, none⟩), .int .u8 (b : Int)] w (RefStep w0 w base a q (L ++ [⟨6, 0, q.final, q.mids, P7.Par.parsV q.list, q.text⟩])) := by
  obtain ⟨i0, hi, hz0, hz1, hz2⟩ := info_parts info_ev
  have HI := Lib.hid hi; have HZ0 := Lib.hid hz0; have HZ1 := Lib.hid hz1; have HZ2 := Lib.hid hz2
  obtain ⟨n, hn⟩ : ∃ n, n = L.length := ⟨_, rfl⟩
  have HF := dcs_facts h hn 6 q.final q.mids q.text
  have HC : Hid (∀ w', Below w.heap.size w w' → w'.cell? ⟨a, 2, none⟩ = some (.string (strK q.list)) ∧ w'.cell? ⟨a, 3, none⟩ = some (.string (strK q.mids)) ∧ w'.cell? ⟨a, 4, none⟩ = some (.int .u8 q.final) ∧ w'.cell? ⟨a, 5, none⟩ = some (.string (strK q.text)) ∧ w'.cell? ⟨a, 6, none⟩ = some (.slice A n c)) := Lib.hid (fun w' hw => by
    have h' := h.below hw
    rw [hn]
    exact ⟨by rw [cell_at h'.blk]; rfl, by rw [cell_at h'.blk]; rfl, by rw [cell_at h'.blk]; rfl, by rw [cell_at h'.blk]; rfl, by rw [cell_at h'.blk]; rfl⟩)
  obtain ⟨c2, c3, c4, c5, c6⟩ := HC.out w (Below.refl _ _)
  have c0 : w.cell? ⟨a, 0, none⟩ = some (.int .i64 q.st) := by rw [cell_at h.blk]; rfl
  have HAll : Hid (Calls Tryd.prog 40 #[.string (strK q.list)] w.drew (P7.RefPost w.drew (P7.Par.parsV q.list))) := Lib.hid (P7.ref_any (strK q.list) q.list (by simp [strK, D5.strK]) (by rw [strK_size]; exact hl) w.drew)
  have hn1 : n ≤ 1000000 := by omega
  have d1 : ((b : Int) == 24) = false := by simp; omega
  have d2 : ((b : Int) == 26) = false := by simp; omega
  have d3 : ((q.st : Int) == 12) = false := by simp; omega
  have d4 : decide (((strK q.text).size : Int) ≤ 256) = true := by rw [strK_size]; simp; omega
  have d5 : decide (((strK q.mids).size : Int) ≤ 2) = true := by rw [strK_size]; simp; omega
  generalize strK q.text = X at *
  generalize strK q.mids = M at *
  generalize (P7.Par.parsV q.list) = V at *
  generalize strK q.list = S at *
  have hla : a < w.heap.size := h.lt
  have kb := build_dcs (q.final : Int) M X
  clear hi hz0 hz1 hz2 h hn hL hb hs hl ht hm
  go_enter Tryd.func37, Tryd.ntmps37
  go_wp2
  refine wp_region_held_drew (S := (fun w' => w'.cell? ⟨a, 2, none⟩ = some (.string S) ∧ w'.cell? ⟨a, 3, none⟩ = some (.string M) ∧ w'.cell? ⟨a, 4, none⟩ = some (.int .u8 q.final) ∧ w'.cell? ⟨a, 5, none⟩ = some (.string X))) (by kernel_rfl) ?_ (fun hHeld => ?_)
  · (try dsimp only) <;> (first | go_keep | exact ⟨k2, k3, k4, k5⟩ | exact ⟨x2, x3, x4, x5⟩ | exact ⟨(oth 2 (by decide)).trans x2, (oth 3 (by decide)).trans x3, (oth 4 (by decide)).trans x4, (oth 5 (by decide)).trans x5⟩)
  refine wpAnyH_take (i := 0) (oi := { dst := some 49, op := Op.move (Operand.tmp 0), type := 33, pos := "ref.go:54", after := #[], guard := none }) (v := ?_) rfl (by kernel_rfl) (by kernel_rfl) (by kernel_rfl) (fun _ _ _ h => h) (Or.inl ⟨by rfl, ?_⟩) (by assumption) ?_
  rotate_left
  · intro w hSw
    try dsimp only at hSw
    go_simp <;> with_reducible rfl
  try simp only [Act.put, List.setIfInBounds_toArray, List.set_cons_zero, List.set_cons_succ]
  refine wpAnyH_take (i := 1) (oi := { dst := some 50, op := Op.move (Operand.tmp 0), type := 33, pos := "ref.go:54", after := #[], guard := none }) (v := ?_) rfl (by kernel_rfl) (by kernel_rfl) (by kernel_rfl) (fun _ _ _ h => h) (Or.inl ⟨by rfl, ?_⟩) (by assumption) ?_
  rotate_left
  · intro w hSw
    try dsimp only at hSw
    go_simp <;> with_reducible rfl
  try simp only [Act.put, List.setIfInBounds_toArray, List.set_cons_zero, List.set_cons_succ]
  refine wpAnyH_take (i := 2) (oi := { dst := some 51, op := Op.nilCheck (Operand.tmp 50), type := 0, pos := "ref.go:54", after := #[{ on := 1, ground := Ground.data }], guard := none }) (v := ?_) rfl (by kernel_rfl) (by kernel_rfl) (by kernel_rfl) (fun _ _ _ h => h) (Or.inl ⟨by rfl, ?_⟩) (by assumption) ?_
  rotate_left
  · intro w hSw
    try dsimp only at hSw
    go_simp <;> with_reducible rfl
  try simp only [Act.put, List.setIfInBounds_toArray, List.set_cons_zero, List.set_cons_succ]
  refine wpAnyH_take (i := 3) (oi := { dst := some 52, op := Op.fieldAddr 38 (Operand.tmp 51) 6, type := 0, pos := "ref.go:54", after := #[{ on := 2, ground := Ground.data }], guard := none }) (v := ?_) rfl (by kernel_rfl) (by kernel_rfl) (by kernel_rfl) (fun _ _ _ h => h) (Or.inl ⟨by rfl, ?_⟩) (by assumption) ?_
  rotate_left
  · intro w hSw
    try dsimp only at hSw
    go_simp <;> with_reducible rfl
  try simp only [Act.put, List.setIfInBounds_toArray, List.set_cons_zero, List.set_cons_succ]
  refine wpAnyH_take (i := 5) (oi := { dst := some 54, op := Op.move (Operand.tmp 0), type := 33, pos := "ref.go:54", after := #[], guard := none }) (v := ?_) rfl (by kernel_rfl) (by kernel_rfl) (by kernel_rfl) (fun _ _ _ h => h) (Or.inl ⟨by rfl, ?_⟩) (by assumption) ?_
  rotate_left
  · intro w hSw
    try dsimp only at hSw
    go_simp <;> with_reducible rfl
  try simp only [Act.put, List.setIfInBounds_toArray, List.set_cons_zero, List.set_cons_succ]
  refine wpAnyH_take (i := 6) (oi := { dst := some 55, op := Op.nilCheck (Operand.tmp 54), type := 0, pos := "ref.go:54", after := #[{ on := 5, ground := Ground.data }], guard := none }) (v := ?_) rfl (by kernel_rfl) (by kernel_rfl) (by kernel_rfl) (fun _ _ _ h => h) (Or.inl ⟨by rfl, ?_⟩) (by assumption) ?_
  rotate_left
  · intro w hSw
    try dsimp only at hSw
    go_simp <;> with_reducible rfl
  try simp only [Act.put, List.setIfInBounds_toArray, List.set_cons_zero, List.set_cons_succ]
  refine wpAnyH_take (i := 7) (oi := { dst := some 56, op := Op.fieldAddr 38 (Operand.tmp 55) 4, type := 0, pos := "ref.go:54", after := #[{ on := 6, ground := Ground.data }], guard := none }) (v := ?_) rfl (by kernel_rfl) (by kernel_rfl) (by kernel_rfl) (fun _ _ _ h => h) (Or.inl ⟨by rfl, ?_⟩) (by assumption) ?_
  rotate_left
  · intro w hSw
    try dsimp only at hSw
    go_simp <;> with_reducible rfl
  try simp only [Act.put, List.setIfInBounds_toArray, List.set_cons_zero, List.set_cons_succ]
  refine wpAnyH_take (i := 8) (oi := { dst := some 57, op := Op.load 5 (Operand.tmp 56), type := 5, pos := "ref.go:54", after := #[{ on := 7, ground := Ground.data }], guard := none }) (v := ?_) rfl (by kernel_rfl) (by kernel_rfl) (by kernel_rfl) (fun _ _ _ h => h) (Or.inl ⟨by rfl, ?_⟩) (by assumption) ?_
  rotate_left
  · intro w hSw
    try dsimp only at hSw
    go_simp <;> with_reducible rfl
  try simp only [Act.put, List.setIfInBounds_toArray, List.set_cons_zero, List.set_cons_succ]
  refine wpAnyH_take (i := 9) (oi := { dst := some 58, op := Op.move (Operand.tmp 0), type := 33, pos := "ref.go:54", after := #[], guard := none }) (v := ?_) rfl (by kernel_rfl) (by kernel_rfl) (by kernel_rfl) (fun _ _ _ h => h) (Or.inl ⟨by rfl, ?_⟩) (by assumption) ?_
  rotate_left
  · intro w hSw
    try dsimp only at hSw
    go_simp <;> with_reducible rfl
  try simp only [Act.put, List.setIfInBounds_toArray, List.set_cons_zero, List.set_cons_succ]
  refine wpAnyH_take (i := 10) (oi := { dst := some 59, op := Op.nilCheck (Operand.tmp 58), type := 0, pos := "ref.go:54", after := #[{ on := 9, ground := Ground.data }], guard := none }) (v := ?_) rfl (by kernel_rfl) (by kernel_rfl) (by kernel_rfl) (fun _ _ _ h => h) (Or.inl ⟨by rfl, ?_⟩) (by assumption) ?_
  rotate_left
  · intro w hSw
    try dsimp only at hSw
    go_simp <;> with_reducible rfl
  try simp only [Act.put, List.setIfInBounds_toArray, List.set_cons_zero, List.set_cons_succ]
  refine wpAnyH_take (i := 11) (oi := { dst := some 60, op := Op.fieldAddr 38 (Operand.tmp 59) 3, type := 0, pos := "ref.go:54", after := #[{ on := 10, ground := Ground.data }], guard := none }) (v := ?_) rfl (by kernel_rfl) (by kernel_rfl) (by kernel_rfl) (fun _ _ _ h => h) (Or.inl ⟨by rfl, ?_⟩) (by assumption) ?_
  rotate_left
  · intro w hSw
    try dsimp only at hSw
    go_simp <;> with_reducible rfl
  try simp only [Act.put, List.setIfInBounds_toArray, List.set_cons_zero, List.set_cons_succ]
  refine wpAnyH_take (i := 12) (oi := { dst := some 61, op := Op.load 9 (Operand.tmp 60), type := 9, pos := "ref.go:54", after := #[{ on := 11, ground := Ground.data }], guard := none }) (v := ?_) rfl (by kernel_rfl) (by kernel_rfl) (by kernel_rfl) (fun _ _ _ h => h) (Or.inl ⟨by rfl, ?_⟩) (by assumption) ?_
  rotate_left
  · intro w hSw
    try dsimp only at hSw
    go_simp <;> with_reducible rfl
  try simp only [Act.put, List.setIfInBounds_toArray, List.set_cons_zero, List.set_cons_succ]
  refine wpAnyH_take (i := 13) (oi := { dst := some 62, op := Op.move (Operand.tmp 0), type := 33, pos := "ref.go:54", after := #[], guard := none }) (v := ?_) rfl (by kernel_rfl) (by kernel_rfl) (by kernel_rfl) (fun _ _ _ h => h) (Or.inl ⟨by rfl, ?_⟩) (by assumption) ?_
  rotate_left
  · intro w hSw
    try dsimp only at hSw
    go_simp <;> with_reducible rfl
  try simp only [Act.put, List.setIfInBounds_toArray, List.set_cons_zero, List.set_cons_succ]
  refine wpAnyH_take (i := 14) (oi := { dst := some 63, op := Op.nilCheck (Operand.tmp 62), type := 0, pos := "ref.go:54", after := #[{ on := 13, ground := Ground.data }], guard := none }) (v := ?_) rfl (by kernel_rfl) (by kernel_rfl) (by kernel_rfl) (fun _ _ _ h => h) (Or.inl ⟨by rfl, ?_⟩) (by assumption) ?_
  rotate_left
  · intro w hSw
    try dsimp only at hSw
    go_simp <;> with_reducible rfl
  try simp only [Act.put, List.setIfInBounds_toArray, List.set_cons_zero, List.set_cons_succ]
  refine wpAnyH_take (i := 15) (oi := { dst := some 64, op := Op.fieldAddr 38 (Operand.tmp 63) 2, type := 0, pos := "ref.go:54", after := #[{ on := 14, ground := Ground.data }], guard := none }) (v := ?_) rfl (by kernel_rfl) (by kernel_rfl) (by kernel_rfl) (fun _ _ _ h => h) (Or.inl ⟨by rfl, ?_⟩) (by assumption) ?_
  rotate_left
  · intro w hSw
    try dsimp only at hSw
    go_simp <;> with_reducible rfl
  try simp only [Act.put, List.setIfInBounds_toArray, List.set_cons_zero, List.set_cons_succ]
  refine wpAnyH_take (i := 16) (oi := { dst := some 65, op := Op.load 9 (Operand.tmp 64), type := 9, pos := "ref.go:54", after := #[{ on := 15, ground := Ground.data }], guard := none }) (v := ?_) rfl (by kernel_rfl) (by kernel_rfl) (by kernel_rfl) (fun _ _ _ h => h) (Or.inl ⟨by rfl, ?_⟩) (by assumption) ?_
  rotate_left
  · intro w hSw
    try dsimp only at hSw
    go_simp <;> with_reducible rfl
  try simp only [Act.put, List.setIfInBounds_toArray, List.set_cons_zero, List.set_cons_succ]
  refine wpAnyH_take (i := 18) (oi := { dst := some 67, op := Op.move (Operand.tmp 0), type := 33, pos := "ref.go:54", after := #[], guard := none }) (v := ?_) rfl (by kernel_rfl) (by kernel_rfl) (by kernel_rfl) (fun _ _ _ h => h) (Or.inl ⟨by rfl, ?_⟩) (by assumption) ?_
  rotate_left
  · intro w hSw
    try dsimp only at hSw
    go_simp <;> with_reducible rfl
  try simp only [Act.put, List.setIfInBounds_toArray, List.set_cons_zero, List.set_cons_succ]
  refine wpAnyH_take (i := 19) (oi := { dst := some 68, op := Op.nilCheck (Operand.tmp 67), type := 0, pos := "ref.go:54", after := #[{ on := 18, ground := Ground.data }], guard := none }) (v := ?_) rfl (by kernel_rfl) (by kernel_rfl) (by kernel_rfl) (fun _ _ _ h => h) (Or.inl ⟨by rfl, ?_⟩) (by assumption) ?_
  rotate_left
  · intro w hSw
    try dsimp only at hSw
    go_simp <;> with_reducible rfl
  try simp only [Act.put, List.setIfInBounds_toArray, List.set_cons_zero, List.set_cons_succ]
  refine wpAnyH_take (i := 20) (oi := { dst := some 69, op := Op.fieldAddr 38 (Operand.tmp 68) 5, type := 0, pos := "ref.go:54", after := #[{ on := 19, ground := Ground.data }], guard := none }) (v := ?_) rfl (by kernel_rfl) (by kernel_rfl) (by kernel_rfl) (fun _ _ _ h => h) (Or.inl ⟨by rfl, ?_⟩) (by assumption) ?_
  rotate_left
  · intro w hSw
    try dsimp only at hSw
    go_simp <;> with_reducible rfl
  try simp only [Act.put, List.setIfInBounds_toArray, List.set_cons_zero, List.set_cons_succ]
  refine wpAnyH_take (i := 21) (oi := { dst := some 70, op := Op.load 9 (Operand.tmp 69), type := 9, pos := "ref.go:54", after := #[{ on := 20, ground := Ground.data }], guard := none }) (v := ?_) rfl (by kernel_rfl) (by kernel_rfl) (by kernel_rfl) (fun _ _ _ h => h) (Or.inl ⟨by rfl, ?_⟩) (by assumption) ?_
  rotate_left
  · intro w hSw
    try dsimp only at hSw
    go_simp <;> with_reducible rfl
  try simp only [Act.put, List.setIfInBounds_toArray, List.set_cons_zero, List.set_cons_succ]
  refine wpAnyH_ready (rs := [4, 17]) (by kernel_rfl) (by simp) ?_
  refine AllReadyH.cons (o := { dst := some 53, op := Op.load 36 (Operand.tmp 52), type := 36, pos := "ref.go:54", after := #[{ on := 3, ground := Ground.data }], guard := none }) rfl (fun K hK => ?_) ?_
  · skip
    go_simp
    refine hK.out _ _ ?_ (fun hHeld => ?_)
    · (try dsimp only) <;> (first | go_keep | exact ⟨k2, k3, k4, k5⟩ | exact ⟨x2, x3, x4, x5⟩ | exact ⟨(oth 2 (by decide)).trans x2, (oth 3 (by decide)).trans x3, (oth 4 (by decide)).trans x4, (oth 5 (by decide)).trans x5⟩)
    clear hK K
    try simp only [Act.put, List.setIfInBounds_toArray, List.set_cons_zero, List.set_cons_succ]
    refine wpAnyH_ready (rs := [17]) (by kernel_rfl) (by simp) ?_
    refine AllReadyH.cons (o := { dst := some 66, op := Op.call { callee := Callee.value (Operand.func 40), args := #[Operand.tmp 65], argTypes := #[9] }, type := 29, pos := "ref.go:54", after := #[{ on := 16, ground := Ground.data }], guard := none }) rfl (fun K hK => ?_) AllReadyH.nil
    go_simp
    go_at_call 40; (with_reducible refine HAll.out.mono ?_); rintro e w4 ⟨A2, cc, rfl, htab, hb4⟩; obtain ⟨k2, k3, k4, k5, k6⟩ := HC.out w4 (of_drew hb4); obtain ⟨ls, hown4, hbs, hal, hcu, hdone⟩ := HF.out w4 A2 cc (of_drew hb4) htab; have HO := Lib.hid hown4; have HBs := Lib.hid hbs; have HCU := Lib.hid hcu; have HDN := Lib.hid hdone; clear htab hb4 hown4 hbs hcu hdone
    try (go_wp2_with fail)
    refine hK.out _ _ ?_ (fun hHeld => ?_)
    · (try dsimp only) <;> (first | go_keep | exact ⟨k2, k3, k4, k5⟩ | exact ⟨x2, x3, x4, x5⟩ | exact ⟨(oth 2 (by decide)).trans x2, (oth 3 (by decide)).trans x3, (oth 4 (by decide)).trans x4, (oth 5 (by decide)).trans x5⟩)
    clear hK K
    try simp only [Act.put, List.setIfInBounds_toArray, List.set_cons_zero, List.set_cons_succ]
    refine wpAnyH_take (i := 22) (oi := { dst := some 71, op := Op.build 89 #[(0, Operand.const (Value.int IntKind.i64 6)), (2, Operand.tmp 57), (3, Operand.tmp 61), (4, Operand.tmp 66), (5, Operand.tmp 70)], type := 89, pos := "ref.go:54", after := #[{ on := 8, ground := Ground.data }, { on := 12, ground := Ground.data }, { on := 17, ground := Ground.data }, { on := 21, ground := Ground.data }], guard := none }) (v := ?_) rfl (by kernel_rfl) (by kernel_rfl) (by kernel_rfl) (fun _ _ _ h => h) (Or.inl ⟨by rfl, ?_⟩) (by assumption) ?_
    rotate_left
    · intro w hSw
      try dsimp only at hSw
      go_simp <;> with_reducible rfl
    try simp only [Act.put, List.setIfInBounds_toArray, List.set_cons_zero, List.set_cons_succ]
    refine wpAnyH_ready (rs := [23]) (by kernel_rfl) (by simp) ?_
    refine AllReadyH.cons (o := { dst := some 72, op := Op.buildSlice 36 1 #[(0, Operand.tmp 71)], type := 36, pos := "ref.go:54", after := #[{ on := 22, ground := Ground.data }], guard := none }) rfl (fun K hK => ?_) AllReadyH.nil
    go_simp
    refine hK.out _ _ ?_ (fun hHeld => ?_)
    · (try dsimp only) <;> (first | go_keep | exact ⟨k2, k3, k4, k5⟩ | exact ⟨x2, x3, x4, x5⟩ | exact ⟨(oth 2 (by decide)).trans x2, (oth 3 (by decide)).trans x3, (oth 4 (by decide)).trans x4, (oth 5 (by decide)).trans x5⟩)
    clear hK K
    try simp only [Act.put, List.setIfInBounds_toArray, List.set_cons_zero, List.set_cons_succ]
    refine wpAnyH_ready (rs := [24]) (by kernel_rfl) (by simp) ?_
    refine AllReadyH.cons (o := { dst := some 73, op := Op.call { callee := Callee.builtin Builtin.append, args := #[Operand.tmp 53, Operand.tmp 72], argTypes := #[36, 36] }, type := 36, pos := "ref.go:54", after := #[{ on := 4, ground := Ground.data }, { on := 23, ground := Ground.data }, { on := 17, ground := Ground.chain }], guard := none }) rfl (fun K hK => ?_) AllReadyH.nil
    refine step_append_lies _ rfl (.tmp 53) (.tmp 72) 36 rfl base 89 i0 zeroEv 6 72 Tryd.underlying36 HI.out HZ0.out HZ1.out HZ2.out rfl (by decide) (.slice A n c) n _ (by simp [Act.eval]) HO.out ⟨w4.heap.size, 0, none⟩ 1 1 [.int .i64 6, .int .i32 0, .int .u8 q.final, .string M, .slice A2 V.length cc, .string X] (by simp [Act.eval]) rfl (one_cells w4 _ _) (by intro u hu; simp at hu; rcases hu with rfl | rfl | rfl | rfl | rfl | rfl <;> rfl) (by omega) (by unfold maxLen; omega) (by omega) (by have := HBs.out; simp; omega) _ rfl ?_; intro g c' w5 hown hgrow hat hlt5; obtain ⟨⟨u5, cu5⟩, fu5, hb5⟩ := HCU.out w5 hgrow; have x2 := (World.cell?_of_block (w := w4) (a := ⟨a, 2, none⟩) hb5).trans k2; have x3 := (World.cell?_of_block (w := w4) (a := ⟨a, 3, none⟩) hb5).trans k3; have x4 := (World.cell?_of_block (w := w4) (a := ⟨a, 4, none⟩) hb5).trans k4; have x5 := (World.cell?_of_block (w := w4) (a := ⟨a, 5, none⟩) hb5).trans k5; have HOW5 := Lib.hid hown; have HGR := Lib.hid hgrow; clear hown hgrow hat hlt5 hb5
    refine hK.out _ _ ?_ (fun hHeld => ?_)
    · (try dsimp only) <;> (first | go_keep | exact ⟨k2, k3, k4, k5⟩ | exact ⟨x2, x3, x4, x5⟩ | exact ⟨(oth 2 (by decide)).trans x2, (oth 3 (by decide)).trans x3, (oth 4 (by decide)).trans x4, (oth 5 (by decide)).trans x5⟩)
    clear hK K
    try simp only [Act.put, List.setIfInBounds_toArray, List.set_cons_zero, List.set_cons_succ]
    refine wpAnyH_take (i := 25) (oi := { dst := some 74, op := Op.nilCheck (Operand.tmp 49), type := 0, pos := "ref.go:54", after := #[{ on := 0, ground := Ground.data }, { on := 0, ground := Ground.phase }, { on := 1, ground := Ground.phase }, { on := 2, ground := Ground.phase }, { on := 3, ground := Ground.phase }, { on := 4, ground := Ground.phase }, { on := 5, ground := Ground.phase }, { on := 6, ground := Ground.phase }, { on := 7, ground := Ground.phase }, { on := 8, ground := Ground.phase }, { on := 9, ground := Ground.phase }, { on := 10, ground := Ground.phase }, { on := 11, ground := Ground.phase }, { on := 12, ground := Ground.phase }, { on := 13, ground := Ground.phase }, { on := 14, ground := Ground.phase }, { on := 15, ground := Ground.phase }, { on := 16, ground := Ground.phase }, { on := 17, ground := Ground.phase }, { on := 18, ground := Ground.phase }, { on := 19, ground := Ground.phase }, { on := 20, ground := Ground.phase }, { on := 21, ground := Ground.phase }, { on := 22, ground := Ground.phase }, { on := 23, ground := Ground.phase }, { on := 24, ground := Ground.phase }], guard := none }) (v := ?_) rfl (by kernel_rfl) (by kernel_rfl) (by kernel_rfl) (fun _ _ _ h => h) (Or.inl ⟨by rfl, ?_⟩) (by assumption) ?_
    rotate_left
    · intro w hSw
      try dsimp only at hSw
      go_simp <;> with_reducible rfl
    try simp only [Act.put, List.setIfInBounds_toArray, List.set_cons_zero, List.set_cons_succ]
    refine wpAnyH_take (i := 26) (oi := { dst := some 75, op := Op.fieldAddr 38 (Operand.tmp 74) 6, type := 0, pos := "ref.go:54", after := #[{ on := 25, ground := Ground.data }, { on := 0, ground := Ground.phase }, { on := 1, ground := Ground.phase }, { on := 2, ground := Ground.phase }, { on := 3, ground := Ground.phase }, { on := 4, ground := Ground.phase }, { on := 5, ground := Ground.phase }, { on := 6, ground := Ground.phase }, { on := 7, ground := Ground.phase }, { on := 8, ground := Ground.phase }, { on := 9, ground := Ground.phase }, { on := 10, ground := Ground.phase }, { on := 11, ground := Ground.phase }, { on := 12, ground := Ground.phase }, { on := 13, ground := Ground.phase }, { on := 14, ground := Ground.phase }, { on := 15, ground := Ground.phase }, { on := 16, ground := Ground.phase }, { on := 17, ground := Ground.phase }, { on := 18, ground := Ground.phase }, { on := 19, ground := Ground.phase }, { on := 20, ground := Ground.phase }, { on := 21, ground := Ground.phase }, { on := 22, ground := Ground.phase }, { on := 23, ground := Ground.phase }, { on := 24, ground := Ground.phase }], guard := none }) (v := ?_) rfl (by kernel_rfl) (by kernel_rfl) (by kernel_rfl) (fun _ _ _ h => h) (Or.inl ⟨by rfl, ?_⟩) (by assumption) ?_
    rotate_left
    · intro w hSw
      try dsimp only at hSw
      go_simp <;> with_reducible rfl
    try simp only [Act.put, List.setIfInBounds_toArray, List.set_cons_zero, List.set_cons_succ]
    refine wpAnyH_ready (rs := [27]) (by kernel_rfl) (by simp) ?_
    refine AllReadyH.cons (o := { dst := none, op := Op.store 36 (Operand.tmp 75) (Operand.tmp 73), type := 0, pos := "ref.go:54", after := #[{ on := 26, ground := Ground.data }, { on := 24, ground := Ground.data }, { on := 24, ground := Ground.chain }, { on := 0, ground := Ground.phase }, { on := 1, ground := Ground.phase }, { on := 2, ground := Ground.phase }, { on := 3, ground := Ground.phase }, { on := 4, ground := Ground.phase }, { on := 5, ground := Ground.phase }, { on := 6, ground := Ground.phase }, { on := 7, ground := Ground.phase }, { on := 8, ground := Ground.phase }, { on := 9, ground := Ground.phase }, { on := 10, ground := Ground.phase }, { on := 11, ground := Ground.phase }, { on := 12, ground := Ground.phase }, { on := 13, ground := Ground.phase }, { on := 14, ground := Ground.phase }, { on := 15, ground := Ground.phase }, { on := 16, ground := Ground.phase }, { on := 17, ground := Ground.phase }, { on := 18, ground := Ground.phase }, { on := 19, ground := Ground.phase }, { on := 20, ground := Ground.phase }, { on := 21, ground := Ground.phase }, { on := 22, ground := Ground.phase }, { on := 23, ground := Ground.phase }, { on := 24, ground := Ground.phase }], guard := none }) rfl (fun K hK => ?_) AllReadyH.nil
    go_simp
    refine hK.out _ _ ?_ (fun hHeld => ?_)
    · (try dsimp only) <;> (first | go_keep | exact ⟨k2, k3, k4, k5⟩ | exact ⟨x2, x3, x4, x5⟩ | exact ⟨(oth 2 (by decide)).trans x2, (oth 3 (by decide)).trans x3, (oth 4 (by decide)).trans x4, (oth 5 (by decide)).trans x5⟩)
    clear hK K
    try simp only [Act.put, List.setIfInBounds_toArray, List.set_cons_zero, List.set_cons_succ]
    refine wpAnyH_done (by kernel_rfl) ?_ _
    go_wp2
    (try simp only [Exit.inBlock, Exit.then])
    first | refine bodyPost_ret (results_none rfl _ _ _) rfl ?_ | refine bodyPost_end (results_none rfl _ _ _) rfl ?_
    exact HDN.out _ _ _ HOW5.out HGR.out
  refine AllReadyH.cons (o := { dst := some 66, op := Op.call { callee := Callee.value (Operand.func 40), args := #[Operand.tmp 65], argTypes := #[9] }, type := 29, pos := "ref.go:54", after := #[{ on := 16, ground := Ground.data }], guard := none }) rfl (fun K hK => ?_) AllReadyH.nil
  go_simp
  go_at_call 40; (with_reducible refine HAll.out.mono ?_); rintro e w4 ⟨A2, cc, rfl, htab, hb4⟩; obtain ⟨k2, k3, k4, k5, k6⟩ := HC.out w4 (of_drew hb4); obtain ⟨ls, hown4, hbs, hal, hcu, hdone⟩ := HF.out w4 A2 cc (of_drew hb4) htab; have HO := Lib.hid hown4; have HBs := Lib.hid hbs; have HCU := Lib.hid hcu; have HDN := Lib.hid hdone; clear htab hb4 hown4 hbs hcu hdone
  try (go_wp2_with fail)
  refine hK.out _ _ ?_ (fun hHeld => ?_)
  · (try dsimp only) <;> (first | go_keep | exact ⟨k2, k3, k4, k5⟩ | exact ⟨x2, x3, x4, x5⟩ | exact ⟨(oth 2 (by decide)).trans x2, (oth 3 (by decide)).trans x3, (oth 4 (by decide)).trans x4, (oth 5 (by decide)).trans x5⟩)
  clear hK K
  try simp only [Act.put, List.setIfInBounds_toArray, List.set_cons_zero, List.set_cons_succ]
  refine wpAnyH_take (i := 22) (oi := { dst := some 71, op := Op.build 89 #[(0, Operand.const (Value.int IntKind.i64 6)), (2, Operand.tmp 57), (3, Operand.tmp 61), (4, Operand.tmp 66), (5, Operand.tmp 70)], type := 89, pos := "ref.go:54", after := #[{ on := 8, ground := Ground.data }, { on := 12, ground := Ground.data }, { on := 17, ground := Ground.data }, { on := 21, ground := Ground.data }], guard := none }) (v := ?_) rfl (by kernel_rfl) (by kernel_rfl) (by kernel_rfl) (fun _ _ _ h => h) (Or.inl ⟨by rfl, ?_⟩) (by assumption) ?_
  rotate_left
  · intro w hSw
    try dsimp only at hSw
    go_simp <;> with_reducible rfl
  try simp only [Act.put, List.setIfInBounds_toArray, List.set_cons_zero, List.set_cons_succ]
  refine wpAnyH_ready (rs := [4, 23]) (by kernel_rfl) (by simp) ?_
  refine AllReadyH.cons (o := { dst := some 53, op := Op.load 36 (Operand.tmp 52), type := 36, pos := "ref.go:54", after := #[{ on := 3, ground := Ground.data }], guard := none }) rfl (fun K hK => ?_) ?_
  · skip
    go_simp
    refine hK.out _ _ ?_ (fun hHeld => ?_)
    · (try dsimp only) <;> (first | go_keep | exact ⟨k2, k3, k4, k5⟩ | exact ⟨x2, x3, x4, x5⟩ | exact ⟨(oth 2 (by decide)).trans x2, (oth 3 (by decide)).trans x3, (oth 4 (by decide)).trans x4, (oth 5 (by decide)).trans x5⟩)
    clear hK K
    try simp only [Act.put, List.setIfInBounds_toArray, List.set_cons_zero, List.set_cons_succ]
    refine wpAnyH_ready (rs := [23]) (by kernel_rfl) (by simp) ?_
    refine AllReadyH.cons (o := { dst := some 72, op := Op.buildSlice 36 1 #[(0, Operand.tmp 71)], type := 36, pos := "ref.go:54", after := #[{ on := 22, ground := Ground.data }], guard := none }) rfl (fun K hK => ?_) AllReadyH.nil
    go_simp
    refine hK.out _ _ ?_ (fun hHeld => ?_)
    · (try dsimp only) <;> (first | go_keep | exact ⟨k2, k3, k4, k5⟩ | exact ⟨x2, x3, x4, x5⟩ | exact ⟨(oth 2 (by decide)).trans x2, (oth 3 (by decide)).trans x3, (oth 4 (by decide)).trans x4, (oth 5 (by decide)).trans x5⟩)
    clear hK K
    try simp only [Act.put, List.setIfInBounds_toArray, List.set_cons_zero, List.set_cons_succ]
    refine wpAnyH_ready (rs := [24]) (by kernel_rfl) (by simp) ?_
    refine AllReadyH.cons (o := { dst := some 73, op := Op.call { callee := Callee.builtin Builtin.append, args := #[Operand.tmp 53, Operand.tmp 72], argTypes := #[36, 36] }, type := 36, pos := "ref.go:54", after := #[{ on := 4, ground := Ground.data }, { on := 23, ground := Ground.data }, { on := 17, ground := Ground.chain }], guard := none }) rfl (fun K hK => ?_) AllReadyH.nil
    refine step_append_lies _ rfl (.tmp 53) (.tmp 72) 36 rfl base 89 i0 zeroEv 6 72 Tryd.underlying36 HI.out HZ0.out HZ1.out HZ2.out rfl (by decide) (.slice A n c) n _ (by simp [Act.eval]) HO.out ⟨w4.heap.size, 0, none⟩ 1 1 [.int .i64 6, .int .i32 0, .int .u8 q.final, .string M, .slice A2 V.length cc, .string X] (by simp [Act.eval]) rfl (one_cells w4 _ _) (by intro u hu; simp at hu; rcases hu with rfl | rfl | rfl | rfl | rfl | rfl <;> rfl) (by omega) (by unfold maxLen; omega) (by omega) (by have := HBs.out; simp; omega) _ rfl ?_; intro g c' w5 hown hgrow hat hlt5; obtain ⟨⟨u5, cu5⟩, fu5, hb5⟩ := HCU.out w5 hgrow; have x2 := (World.cell?_of_block (w := w4) (a := ⟨a, 2, none⟩) hb5).trans k2; have x3 := (World.cell?_of_block (w := w4) (a := ⟨a, 3, none⟩) hb5).trans k3; have x4 := (World.cell?_of_block (w := w4) (a := ⟨a, 4, none⟩) hb5).trans k4; have x5 := (World.cell?_of_block (w := w4) (a := ⟨a, 5, none⟩) hb5).trans k5; have HOW5 := Lib.hid hown; have HGR := Lib.hid hgrow; clear hown hgrow hat hlt5 hb5
    refine hK.out _ _ ?_ (fun hHeld => ?_)
    · (try dsimp only) <;> (first | go_keep | exact ⟨k2, k3, k4, k5⟩ | exact ⟨x2, x3, x4, x5⟩ | exact ⟨(oth 2 (by decide)).trans x2, (oth 3 (by decide)).trans x3, (oth 4 (by decide)).trans x4, (oth 5 (by decide)).trans x5⟩)
    clear hK K
    try simp only [Act.put, List.setIfInBounds_toArray, List.set_cons_zero, List.set_cons_succ]
    refine wpAnyH_take (i := 25) (oi := { dst := some 74, op := Op.nilCheck (Operand.tmp 49), type := 0, pos := "ref.go:54", after := #[{ on := 0, ground := Ground.data }, { on := 0, ground := Ground.phase }, { on := 1, ground := Ground.phase }, { on := 2, ground := Ground.phase }, { on := 3, ground := Ground.phase }, { on := 4, ground := Ground.phase }, { on := 5, ground := Ground.phase }, { on := 6, ground := Ground.phase }, { on := 7, ground := Ground.phase }, { on := 8, ground := Ground.phase }, { on := 9, ground := Ground.phase }, { on := 10, ground := Ground.phase }, { on := 11, ground := Ground.phase }, { on := 12, ground := Ground.phase }, { on := 13, ground := Ground.phase }, { on := 14, ground := Ground.phase }, { on := 15, ground := Ground.phase }, { on := 16, ground := Ground.phase }, { on := 17, ground := Ground.phase }, { on := 18, ground := Ground.phase }, { on := 19, ground := Ground.phase }, { on := 20, ground := Ground.phase }, { on := 21, ground := Ground.phase }, { on := 22, ground := Ground.phase }, { on := 23, ground := Ground.phase }, { on := 24, ground := Ground.phase }], guard := none }) (v := ?_) rfl (by kernel_rfl) (by kernel_rfl) (by kernel_rfl) (fun _ _ _ h => h) (Or.inl ⟨by rfl, ?_⟩) (by assumption) ?_
    rotate_left
    · intro w hSw
      try dsimp only at hSw
      go_simp <;> with_reducible rfl
    try simp only [Act.put, List.setIfInBounds_toArray, List.set_cons_zero, List.set_cons_succ]
    refine wpAnyH_take (i := 26) (oi := { dst := some 75, op := Op.fieldAddr 38 (Operand.tmp 74) 6, type := 0, pos := "ref.go:54", after := #[{ on := 25, ground := Ground.data }, { on := 0, ground := Ground.phase }, { on := 1, ground := Ground.phase }, { on := 2, ground := Ground.phase }, { on := 3, ground := Ground.phase }, { on := 4, ground := Ground.phase }, { on := 5, ground := Ground.phase }, { on := 6, ground := Ground.phase }, { on := 7, ground := Ground.phase }, { on := 8, ground := Ground.phase }, { on := 9, ground := Ground.phase }, { on := 10, ground := Ground.phase }, { on := 11, ground := Ground.phase }, { on := 12, ground := Ground.phase }, { on := 13, ground := Ground.phase }, { on := 14, ground := Ground.phase }, { on := 15, ground := Ground.phase }, { on := 16, ground := Ground.phase }, { on := 17, ground := Ground.phase }, { on := 18, ground := Ground.phase }, { on := 19, ground := Ground.phase }, { on := 20, ground := Ground.phase }, { on := 21, ground := Ground.phase }, { on := 22, ground := Ground.phase }, { on := 23, ground := Ground.phase }, { on := 24, ground := Ground.phase }], guard := none }) (v := ?_) rfl (by kernel_rfl) (by kernel_rfl) (by kernel_rfl) (fun _ _ _ h => h) (Or.inl ⟨by rfl, ?_⟩) (by assumption) ?_
    rotate_left
    · intro w hSw
      try dsimp only at hSw
      go_simp <;> with_reducible rfl
    try simp only [Act.put, List.setIfInBounds_toArray, List.set_cons_zero, List.set_cons_succ]
    refine wpAnyH_ready (rs := [27]) (by kernel_rfl) (by simp) ?_
    refine AllReadyH.cons (o := { dst := none, op := Op.store 36 (Operand.tmp 75) (Operand.tmp 73), type := 0, pos := "ref.go:54", after := #[{ on := 26, ground := Ground.data }, { on := 24, ground := Ground.data }, { on := 24, ground := Ground.chain }, { on := 0, ground := Ground.phase }, { on := 1, ground := Ground.phase }, { on := 2, ground := Ground.phase }, { on := 3, ground := Ground.phase }, { on := 4, ground := Ground.phase }, { on := 5, ground := Ground.phase }, { on := 6, ground := Ground.phase }, { on := 7, ground := Ground.phase }, { on := 8, ground := Ground.phase }, { on := 9, ground := Ground.phase }, { on := 10, ground := Ground.phase }, { on := 11, ground := Ground.phase }, { on := 12, ground := Ground.phase }, { on := 13, ground := Ground.phase }, { on := 14, ground := Ground.phase }, { on := 15, ground := Ground.phase }, { on := 16, ground := Ground.phase }, { on := 17, ground := Ground.phase }, { on := 18, ground := Ground.phase }, { on := 19, ground := Ground.phase }, { on := 20, ground := Ground.phase }, { on := 21, ground := Ground.phase }, { on := 22, ground := Ground.phase }, { on := 23, ground := Ground.phase }, { on := 24, ground := Ground.phase }], guard := none }) rfl (fun K hK => ?_) AllReadyH.nil
    go_simp
    refine hK.out _ _ ?_ (fun hHeld => ?_)
    · (try dsimp only) <;> (first | go_keep | exact ⟨k2, k3, k4, k5⟩ | exact ⟨x2, x3, x4, x5⟩ | exact ⟨(oth 2 (by decide)).trans x2, (oth 3 (by decide)).trans x3, (oth 4 (by decide)).trans x4, (oth 5 (by decide)).trans x5⟩)
    clear hK K
    try simp only [Act.put, List.setIfInBounds_toArray, List.set_cons_zero, List.set_cons_succ]
    refine wpAnyH_done (by kernel_rfl) ?_ _
    go_wp2
    (try simp only [Exit.inBlock, Exit.then])
    first | refine bodyPost_ret (results_none rfl _ _ _) rfl ?_ | refine bodyPost_end (results_none rfl _ _ _) rfl ?_
    exact HDN.out _ _ _ HOW5.out HGR.out
  refine AllReadyH.cons (o := { dst := some 72, op := Op.buildSlice 36 1 #[(0, Operand.tmp 71)], type := 36, pos := "ref.go:54", after := #[{ on := 22, ground := Ground.data }], guard := none }) rfl (fun K hK => ?_) AllReadyH.nil
  go_simp
  refine hK.out _ _ ?_ (fun hHeld => ?_)
  · (try dsimp only) <;> (first | go_keep | exact ⟨k2, k3, k4, k5⟩ | exact ⟨x2, x3, x4, x5⟩ | exact ⟨(oth 2 (by decide)).trans x2, (oth 3 (by decide)).trans x3, (oth 4 (by decide)).trans x4, (oth 5 (by decide)).trans x5⟩)
  clear hK K
  try simp only [Act.put, List.setIfInBounds_toArray, List.set_cons_zero, List.set_cons_succ]
  refine wpAnyH_ready (rs := [4]) (by kernel_rfl) (by simp) ?_
  refine AllReadyH.cons (o := { dst := some 53, op := Op.load 36 (Operand.tmp 52), type := 36, pos := "ref.go:54", after := #[{ on := 3, ground := Ground.data }], guard := none }) rfl (fun K hK => ?_) AllReadyH.nil
  go_simp
  refine hK.out _ _ ?_ (fun hHeld => ?_)
  · (try dsimp only) <;> (first | go_keep | exact ⟨k2, k3, k4, k5⟩ | exact ⟨x2, x3, x4, x5⟩ | exact ⟨(oth 2 (by decide)).trans x2, (oth 3 (by decide)).trans x3, (oth 4 (by decide)).trans x4, (oth 5 (by decide)).trans x5⟩)
  clear hK K
  try simp only [Act.put, List.setIfInBounds_toArray, List.set_cons_zero, List.set_cons_succ]
  refine wpAnyH_ready (rs := [24]) (by kernel_rfl) (by simp) ?_
  refine AllReadyH.cons (o := { dst := some 73, op := Op.call { callee := Callee.builtin Builtin.append, args := #[Operand.tmp 53, Operand.tmp 72], argTypes := #[36, 36] }, type := 36, pos := "ref.go:54", after := #[{ on := 4, ground := Ground.data }, { on := 23, ground := Ground.data }, { on := 17, ground := Ground.chain }], guard := none }) rfl (fun K hK => ?_) AllReadyH.nil
  refine step_append_lies _ rfl (.tmp 53) (.tmp 72) 36 rfl base 89 i0 zeroEv 6 72 Tryd.underlying36 HI.out HZ0.out HZ1.out HZ2.out rfl (by decide) (.slice A n c) n _ (by simp [Act.eval]) HO.out ⟨w4.heap.size, 0, none⟩ 1 1 [.int .i64 6, .int .i32 0, .int .u8 q.final, .string M, .slice A2 V.length cc, .string X] (by simp [Act.eval]) rfl (one_cells w4 _ _) (by intro u hu; simp at hu; rcases hu with rfl | rfl | rfl | rfl | rfl | rfl <;> rfl) (by omega) (by unfold maxLen; omega) (by omega) (by have := HBs.out; simp; omega) _ rfl ?_; intro g c' w5 hown hgrow hat hlt5; obtain ⟨⟨u5, cu5⟩, fu5, hb5⟩ := HCU.out w5 hgrow; have x2 := (World.cell?_of_block (w := w4) (a := ⟨a, 2, none⟩) hb5).trans k2; have x3 := (World.cell?_of_block (w := w4) (a := ⟨a, 3, none⟩) hb5).trans k3; have x4 := (World.cell?_of_block (w := w4) (a := ⟨a, 4, none⟩) hb5).trans k4; have x5 := (World.cell?_of_block (w := w4) (a := ⟨a, 5, none⟩) hb5).trans k5; have HOW5 := Lib.hid hown; have HGR := Lib.hid hgrow; clear hown hgrow hat hlt5 hb5
  refine hK.out _ _ ?_ (fun hHeld => ?_)
  · (try dsimp only) <;> (first | go_keep | exact ⟨k2, k3, k4, k5⟩ | exact ⟨x2, x3, x4, x5⟩ | exact ⟨(oth 2 (by decide)).trans x2, (oth 3 (by decide)).trans x3, (oth 4 (by decide)).trans x4, (oth 5 (by decide)).trans x5⟩)
  clear hK K
  try simp only [Act.put, List.setIfInBounds_toArray, List.set_cons_zero, List.set_cons_succ]
  refine wpAnyH_take (i := 25) (oi := { dst := some 74, op := Op.nilCheck (Operand.tmp 49), type := 0, pos := "ref.go:54", after := #[{ on := 0, ground := Ground.data }, { on := 0, ground := Ground.phase }, { on := 1, ground := Ground.phase }, { on := 2, ground := Ground.phase }, { on := 3, ground := Ground.phase }, { on := 4, ground := Ground.phase }, { on := 5, ground := Ground.phase }, { on := 6, ground := Ground.phase }, { on := 7, ground := Ground.phase }, { on := 8, ground := Ground.phase }, { on := 9, ground := Ground.phase }, { on := 10, ground := Ground.phase }, { on := 11, ground := Ground.phase }, { on := 12, ground := Ground.phase }, { on := 13, ground := Ground.phase }, { on := 14, ground := Ground.phase }, { on := 15, ground := Ground.phase }, { on := 16, ground := Ground.phase }, { on := 17, ground := Ground.phase }, { on := 18, ground := Ground.phase }, { on := 19, ground := Ground.phase }, { on := 20, ground := Ground.phase }, { on := 21, ground := Ground.phase }, { on := 22, ground := Ground.phase }, { on := 23, ground := Ground.phase }, { on := 24, ground := Ground.phase }], guard := none }) (v := ?_) rfl (by kernel_rfl) (by kernel_rfl) (by kernel_rfl) (fun _ _ _ h => h) (Or.inl ⟨by rfl, ?_⟩) (by assumption) ?_
  rotate_left
  · intro w hSw
    try dsimp only at hSw
    go_simp <;> with_reducible rfl
  try simp only [Act.put, List.setIfInBounds_toArray, List.set_cons_zero, List.set_cons_succ]
  refine wpAnyH_take (i := 26) (oi := { dst := some 75, op := Op.fieldAddr 38 (Operand.tmp 74) 6, type := 0, pos := "ref.go:54", after := #[{ on := 25, ground := Ground.data }, { on := 0, ground := Ground.phase }, { on := 1, ground := Ground.phase }, { on := 2, ground := Ground.phase }, { on := 3, ground := Ground.phase }, { on := 4, ground := Ground.phase }, { on := 5, ground := Ground.phase }, { on := 6, ground := Ground.phase }, { on := 7, ground := Ground.phase }, { on := 8, ground := Ground.phase }, { on := 9, ground := Ground.phase }, { on := 10, ground := Ground.phase }, { on := 11, ground := Ground.phase }, { on := 12, ground := Ground.phase }, { on := 13, ground := Ground.phase }, { on := 14, ground := Ground.phase }, { on := 15, ground := Ground.phase }, { on := 16, ground := Ground.phase }, { on := 17, ground := Ground.phase }, { on := 18, ground := Ground.phase }, { on := 19, ground := Ground.phase }, { on := 20, ground := Ground.phase }, { on := 21, ground := Ground.phase }, { on := 22, ground := Ground.phase }, { on := 23, ground := Ground.phase }, { on := 24, ground := Ground.phase }], guard := none }) (v := ?_) rfl (by kernel_rfl) (by kernel_rfl) (by kernel_rfl) (fun _ _ _ h => h) (Or.inl ⟨by rfl, ?_⟩) (by assumption) ?_
  rotate_left
  · intro w hSw
    try dsimp only at hSw
    go_simp <;> with_reducible rfl
  try simp only [Act.put, List.setIfInBounds_toArray, List.set_cons_zero, List.set_cons_succ]
  refine wpAnyH_ready (rs := [27]) (by kernel_rfl) (by simp) ?_
  refine AllReadyH.cons (o := { dst := none, op := Op.store 36 (Operand.tmp 75) (Operand.tmp 73), type := 0, pos := "ref.go:54", after := #[{ on := 26, ground := Ground.data }, { on := 24, ground := Ground.data }, { on := 24, ground := Ground.chain }, { on := 0, ground := Ground.phase }, { on := 1, ground := Ground.phase }, { on := 2, ground := Ground.phase }, { on := 3, ground := Ground.phase }, { on := 4, ground := Ground.phase }, { on := 5, ground := Ground.phase }, { on := 6, ground := Ground.phase }, { on := 7, ground := Ground.phase }, { on := 8, ground := Ground.phase }, { on := 9, ground := Ground.phase }, { on := 10, ground := Ground.phase }, { on := 11, ground := Ground.phase }, { on := 12, ground := Ground.phase }, { on := 13, ground := Ground.phase }, { on := 14, ground := Ground.phase }, { on := 15, ground := Ground.phase }, { on := 16, ground := Ground.phase }, { on := 17, ground := Ground.phase }, { on := 18, ground := Ground.phase }, { on := 19, ground := Ground.phase }, { on := 20, ground := Ground.phase }, { on := 21, ground := Ground.phase }, { on := 22, ground := Ground.phase }, { on := 23, ground := Ground.phase }, { on := 24, ground := Ground.phase }], guard := none }) rfl (fun K hK => ?_) AllReadyH.nil
  go_simp
  refine hK.out _ _ ?_ (fun hHeld => ?_)
  · (try dsimp only) <;> (first | go_keep | exact ⟨k2, k3, k4, k5⟩ | exact ⟨x2, x3, x4, x5⟩ | exact ⟨(oth 2 (by decide)).trans x2, (oth 3 (by decide)).trans x3, (oth 4 (by decide)).trans x4, (oth 5 (by decide)).trans x5⟩)
  clear hK K
  try simp only [Act.put, List.setIfInBounds_toArray, List.set_cons_zero, List.set_cons_succ]
  refine wpAnyH_done (by kernel_rfl) ?_ _
  go_wp2
  (try simp only [Exit.inBlock, Exit.then])
  first | refine bodyPost_ret (results_none rfl _ _ _) rfl ?_ | refine bodyPost_end (results_none rfl _ _ _) rfl ?_
  exact HDN.out _ _ _ HOW5.out HGR.out

/-- A string that is not told. -/
theorem str_no1 {w0 w : World} {base a : Nat} {q : Q} {L : List EV} {A : Option Addr} {c : Nat} (h : RefP w0 w base a q L A c) (b : Nat) (hb : b = 24 ∨ b = 26) :
    Calls Tryd.prog 37 #[.pointer (some ⟨a, 0, none⟩), .int .u8 (b : Int)] w (RefStep w0 w base a q L) := by
  have HR := Lib.hid h
  clear h
  rcases hb with rfl | rfl
  all_goals
    go_enter Tryd.func37, Tryd.ntmps37
    go_wp2
    (try simp only [Exit.inBlock, Exit.then])
    first | refine bodyPost_ret (results_none rfl _ _ _) rfl ?_ | refine bodyPost_end (results_none rfl _ _ _) rfl ?_
    exact ⟨rfl, _, _, HR.out, Nat.le_refl _⟩
theorem str_no2 {w0 w : World} {base a : Nat} {q : Q} {L : List EV} {A : Option Addr} {c : Nat} (h : RefP w0 w base a q L A c) (b : Nat) (hb : ¬ (b = 24 ∨ b = 26)) (hs : q.st = 12) (ht : ¬ q.text.length ≤ 1024) :
    Calls Tryd.prog 37 #[.pointer (some ⟨a, 0, none⟩), .int .u8 (b : Int)] w (RefStep w0 w base a q L) := by
  have HR := Lib.hid h
  have c0 : w.cell? ⟨a, 0, none⟩ = some (.int .i64 12) := by rw [cell_at h.blk]; simp [cellsQ, hs]
  have c5 : w.cell? ⟨a, 5, none⟩ = some (.string (strK q.text)) := by rw [cell_at h.blk]; rfl
  have d1 : ((b : Int) == 24) = false := by simp; omega
  have d2 : ((b : Int) == 26) = false := by simp; omega
  have d3 : decide (((strK q.text).size : Int) ≤ 1024) = false := by rw [strK_size]; simp; omega
  generalize strK q.text = X at *
  clear h hb hs ht
  go_enter Tryd.func37, Tryd.ntmps37
  go_wp2
  (try simp only [Exit.inBlock, Exit.then])
  first | refine bodyPost_ret (results_none rfl _ _ _) rfl ?_ | refine bodyPost_end (results_none rfl _ _ _) rfl ?_
  exact ⟨rfl, _, _, HR.out, Nat.le_refl _⟩
theorem str_no3 {w0 w : World} {base a : Nat} {q : Q} {L : List EV} {A : Option Addr} {c : Nat} (h : RefP w0 w base a q L A c) (b : Nat) (hb : ¬ (b = 24 ∨ b = 26)) (hs : q.st ≠ 12) (ht : ¬ (q.text.length ≤ 256 ∧ q.mids.length ≤ 2)) :
    Calls Tryd.prog 37 #[.pointer (some ⟨a, 0, none⟩), .int .u8 (b : Int)] w (RefStep w0 w base a q L) := by
  have HR := Lib.hid h
  have c0 : w.cell? ⟨a, 0, none⟩ = some (.int .i64 q.st) := by rw [cell_at h.blk]; rfl
  have c3 : w.cell? ⟨a, 3, none⟩ = some (.string (strK q.mids)) := by rw [cell_at h.blk]; rfl
  have c5 : w.cell? ⟨a, 5, none⟩ = some (.string (strK q.text)) := by rw [cell_at h.blk]; rfl
  have d1 : ((b : Int) == 24) = false := by simp; omega
  have d2 : ((b : Int) == 26) = false := by simp; omega
  have d3 : ((q.st : Int) == 12) = false := by simp; omega
  by_cases h2 : q.text.length ≤ 256
  · have d4 : decide (((strK q.text).size : Int) ≤ 256) = true := by rw [strK_size]; simp; omega
    have d5 : decide (((strK q.mids).size : Int) ≤ 2) = false := by rw [strK_size]; simp; omega
    generalize strK q.text = X at *
    generalize strK q.mids = M at *
    clear h hb hs ht h2
    go_enter Tryd.func37, Tryd.ntmps37
    go_wp2
    (try simp only [Exit.inBlock, Exit.then])
    first | refine bodyPost_ret (results_none rfl _ _ _) rfl ?_ | refine bodyPost_end (results_none rfl _ _ _) rfl ?_
    exact ⟨rfl, _, _, HR.out, Nat.le_refl _⟩
  · have d4 : decide (((strK q.text).size : Int) ≤ 256) = false := by rw [strK_size]; simp; omega
    generalize strK q.text = X at *
    generalize strK q.mids = M at *
    clear h hb hs ht h2
    go_enter Tryd.func37, Tryd.ntmps37
    go_wp2
    (try simp only [Exit.inBlock, Exit.then])
    first | refine bodyPost_ret (results_none rfl _ _ _) rfl ?_ | refine bodyPost_end (results_none rfl _ _ _) rfl ?_
    exact ⟨rfl, _, _, HR.out, Nat.le_refl _⟩

/-- The document's string. -/
theorem string_any {w0 w : World} {base a : Nat} {q : Q} {L : List EV} {A : Option Addr} {c : Nat} (h : RefP w0 w base a q L A c) (hL : L.length ≤ 1000000) (hl : q.list.length ≤ 1000000) (b : Nat) :
    Calls Tryd.prog 37 #[.pointer (some ⟨a, 0, none⟩), .int .u8 (b : Int)] w (RefStep w0 w base a q (L ++ strE q b)) := by
  unfold strE
  by_cases hb : b = 24 ∨ b = 26
  · rw [if_pos hb, List.append_nil]
    exact str_no1 h b hb
  rw [if_neg hb]
  by_cases hs : q.st = 12
  · rw [if_pos hs]
    by_cases ht : q.text.length ≤ 1024
    · rw [if_pos ht]
      exact str_osc h hL b hb hs ht
    · rw [if_neg ht, List.append_nil]
      exact str_no2 h b hb hs ht
  · rw [if_neg hs]
    by_cases ht : q.text.length ≤ 256 ∧ q.mids.length ≤ 2
    · rw [if_pos ht]
      exact str_dcs h hL hl b hb hs ht.1 ht.2
    · rw [if_neg ht, List.append_nil]
      exact str_no3 h b hb hs ht
end Go.Proofs.YtfekjlajagoooaaDoor

/-! ## Layer 8: the document's Byte, way by way (written by gen_evd.py). -/
set_option linter.unusedVariables false
namespace Go.Proofs.YtfekjlajagoooaaDoor
open Go.RowKit Ev

theorem step_of (q : Q) (b : UInt8) (act n : Nat) (e cl : Bool) (ha : actN q.st b.toNat = act) (hn : toN q.st b.toNat = n) (h1 : act ≠ 1) (he : endsN q.st n = e) (hc : clearsN q.st n = cl) :
    stepE q b = (markE q ++ (if e then strE q b.toNat else []) ++ (doE act (if cl then ⟨q.st, [], [], [], q.final, []⟩ else ⟨q.st, [], q.list, q.mids, q.final, q.text⟩) b).1, { (doE act (if cl then ⟨q.st, [], [], [], q.final, []⟩ else ⟨q.st, [], q.list, q.mids, q.final, q.text⟩) b).2 with st := n }) := by
  unfold stepE readyE
  simp only [ha, hn, he, hc, h1, if_false]

/-- The document's Next at a parser's state. -/
theorem next_is (q : Q) (hs : q.st < 14) (b : UInt8) (act n : Nat) (ha : actN q.st b.toNat = act) (hn : toN q.st b.toNat = n) (w : World) :
    Calls Tryd.prog 35 #[.int .i64 (q.st : Int), .int .u8 (b.toNat : Int)] w fun e w' => e = .returned (.tuple #[.int .i64 (act : Int), .int .i64 (n : Int)]) ∧ Below w.heap.size w w' := by
  have h := S6.refNext_any (q.st : Int) (b.toNat : Int) (by omega) (by have := b.toNat_lt; omega) w
  rw [S6.Sta.ref_next _ _ (by omega) (by have := b.toNat_lt; omega), (grid_st q.st hs b.toNat b.toNat_lt).2.2, ha, hn] at h
  exact h
theorem str_kept (q : Q) (b : Nat) : strE { q with kept := [] } b = strE q b := rfl

theorem build_exec (x : Int) (W : World) : (Instr.build 89 #[(0, .int .i64 2), (2, .int .u8 x)]).run Tryd.prog W = .ok (.agg #[.int .i64 2, .int .i32 0, .int .u8 x, .string ⟨#[]⟩, .slice none 0 0, .string ⟨#[]⟩]) W := run_build W 89 #[(0, .int .i64 2), (2, .int .u8 x)] _ (by kernel_rfl)

theorem build_esc (x : Int) (M : ByteArray) (W : World) : (Instr.build 89 #[(0, .int .i64 3), (2, .int .u8 x), (3, .string M)]).run Tryd.prog W = .ok (.agg #[.int .i64 3, .int .i32 0, .int .u8 x, .string M, .slice none 0 0, .string ⟨#[]⟩]) W := run_build W 89 #[(0, .int .i64 3), (2, .int .u8 x), (3, .string M)] _ (by kernel_rfl)
theorem build_csi (x : Int) (M : ByteArray) (A : Option Addr) (n c : Nat) (W : World) : (Instr.build 89 #[(0, .int .i64 4), (2, .int .u8 x), (3, .string M), (4, .slice A n c)]).run Tryd.prog W = .ok (.agg #[.int .i64 4, .int .i32 0, .int .u8 x, .string M, .slice A n c, .string ⟨#[]⟩]) W := run_build W 89 #[(0, .int .i64 4), (2, .int .u8 x), (3, .string M), (4, .slice A n c)] _ (by kernel_rfl)
/-- The last store. -/
theorem fin_step {w0 w W : World} {base a : Nat} {q : Q} {L : List EV} {e : Ending} (h : RefStep w0 w base a q L e W) (n : Nat) (hn : n < 14) : RefStep w0 w base a { q with st := n } L e (W.setCell ⟨a, 0, none⟩ (.int .i64 (n : Int))) := by
  obtain ⟨h1, A, c, h2, h3⟩ := h
  exact ⟨h1, A, c, h2.put 0 _ rfl h2.ok hn, by simpa using h3⟩
theorem mids_esc (q : Q) (b : UInt8) (h : q.mids.length ≤ 2 ∧ (b.toNat ≠ 92 ∨ q.mids ≠ [])) (R : Q) (hR : R.mids = q.mids) : doE 5 R b = ([⟨3, 0, b.toNat, q.mids, [], []⟩], R) := by
  unfold doE
  rw [hR]
  simp [h]
theorem mids_esc_no (q : Q) (b : UInt8) (h : ¬ (q.mids.length ≤ 2 ∧ (b.toNat ≠ 92 ∨ q.mids ≠ []))) (R : Q) (hR : R.mids = q.mids) : doE 5 R b = ([], R) := by
  unfold doE
  rw [hR]
  simp [h]
theorem mids_csi (q : Q) (b : UInt8) (h : q.mids.length ≤ 2) (R : Q) (hR : R.mids = q.mids) (hL : R.list = q.list) : doE 6 R b = ([⟨4, 0, b.toNat, q.mids, P7.Par.parsV q.list, []⟩], R) := by
  unfold doE
  rw [hR, hL]
  simp [h]
theorem mids_csi_no (q : Q) (b : UInt8) (h : ¬ q.mids.length ≤ 2) (R : Q) (hR : R.mids = q.mids) : doE 6 R b = ([], R) := by
  unfold doE
  rw [hR]
  simp [h]

/-- What a text of the document's parser may be long. -/
structure Small (q : Q) (L : List EV) : Prop where
  told : L.length ≤ 900000
  list : q.list.length ≤ 900000
  mids : q.mids.length ≤ 900000
  text : q.text.length ≤ 900000

theorem mark_len (q : Q) : (markE q).length ≤ 1 := by unfold markE; split <;> simp

theorem str_len (q : Q) (c : Nat) : (strE q c).length ≤ 1 := by
  unfold strE
  split
  · simp
  · split
    · split <;> simp
    · split <;> simp

set_option maxRecDepth 100000 in
set_option maxHeartbeats 4000000 in
theorem bw_z_same {w0 w : World} {base a : Nat} {q : Q} {L : List EV} {A : Option Addr} {c : Nat} (h : RefP w0 w base a q L A c) (hS : Small q L) (b : UInt8) (ha : actN q.st b.toNat = 0) (hn : toN q.st b.toNat = q.st) :
    Calls Tryd.prog 18 #[.pointer (some ⟨a, 0, none⟩), .int .u8 (b.toNat : Int)] w (RefStep w0 w base a (stepE q b).2 (L ++ (stepE q b).1)) := by
  have E := step_of q b 0 q.st false false ha hn (by decide) (by simp [endsN]) (by simp [clearsN])
  have HN := Lib.hid (next_is q h.st b 0 q.st ha hn)
  have c0 : w.cell? ⟨a, 0, none⟩ = some (.int .i64 (q.st : Nat)) := by rw [cell_at h.blk]; simp [cellsQ]
  have HE := Lib.hid E
  have HST := Lib.hid hS
  have HH := Lib.hid h
  clear h hS ha hn E
  go_enter Tryd.func18, Tryd.ntmps18
  go_wp2_with fail
  refine (show Calls _ _ _ _ _ from HN.out w).mono ?_
  rintro e w1 ⟨rfl, hb⟩
  have H1 := Lib.hid (HH.out.below hb)
  have z1 := Lib.hid hb.size
  clear hb HH HN c0
  go_wp2_with fail
  refine (End_any H1.out (by have := HST.out.told; omega)).mono ?_
  rintro e w2 ⟨rfl, A2, c2, hR, hz⟩
  have z2 := Lib.hid (Nat.le_trans z1.out hz)
  have c0 : w2.cell? ⟨a, 0, none⟩ = some (.int .i64 (q.st : Nat)) := by rw [cell_at hR.blk]; simp [cellsQ]
  have H2 := Lib.hid hR
  clear hR hz H1 z1
  have y0 : w2.frozen? ⟨a, 0, none⟩ = false := free_at H2.out.blk 0
  have HF : Hid (RefP w0 (w2.setCell ⟨a, 0, none⟩ (.int .i64 (q.st : Nat))) base a ⟨q.st, [], q.list, q.mids, q.final, q.text⟩ (L ++ markE q) _ _) := Lib.hid (H2.out.put (q' := ⟨q.st, [], q.list, q.mids, q.final, q.text⟩) 0 _ rfl rfl (show (q.st : Nat) < 14 from H2.out.st))
  go_wp2
  (try simp only [Exit.inBlock, Exit.then])
  first | refine bodyPost_ret (results_none rfl _ _ _) rfl ?_ | refine bodyPost_end (results_none rfl _ _ _) rfl ?_
  refine ⟨rfl, A2, c2, ?_, by first | simpa using z2.out | (have := z2.out; simp; omega)⟩
  rw [HE.out]
  have := HF.out
  simpa [doE, List.append_assoc] using this

set_option maxRecDepth 100000 in
set_option maxHeartbeats 4000000 in
theorem bw_z_10_1 {w0 w : World} {base a : Nat} {q : Q} {L : List EV} {A : Option Addr} {c : Nat} (h : RefP w0 w base a q L A c) (hS : Small q L) (b : UInt8) (hs : q.st = 10) (ha : actN q.st b.toNat = 0) (hn : toN q.st b.toNat = 1) :
    Calls Tryd.prog 18 #[.pointer (some ⟨a, 0, none⟩), .int .u8 (b.toNat : Int)] w (RefStep w0 w base a (stepE q b).2 (L ++ (stepE q b).1)) := by
  have E := step_of q b 0 1 true true ha hn (by decide) (by simp [endsN, hs]) (by simp [clearsN, hs])
  have HN := Lib.hid (next_is q h.st b 0 1 ha hn)
  have c0 : w.cell? ⟨a, 0, none⟩ = some (.int .i64 (10 : Nat)) := by rw [cell_at h.blk]; simp [cellsQ, hs]
  have HE := Lib.hid E
  have HST := Lib.hid hS
  have HH := Lib.hid h
  have HSt := Lib.hid hs
  clear h hS ha hn E hs
  go_enter Tryd.func18, Tryd.ntmps18
  go_wp2_with fail
  refine (show Calls _ _ _ _ _ from HSt.out ▸ HN.out w).mono ?_
  rintro e w1 ⟨rfl, hb⟩
  have H1 := Lib.hid (HH.out.below hb)
  have z1 := Lib.hid hb.size
  clear hb HH HN c0
  go_wp2_with fail
  refine (End_any H1.out (by have := HST.out.told; omega)).mono ?_
  rintro e w2 ⟨rfl, A2, c2, hR, hz⟩
  have z2 := Lib.hid (Nat.le_trans z1.out hz)
  have c0 : w2.cell? ⟨a, 0, none⟩ = some (.int .i64 (10 : Nat)) := by rw [cell_at hR.blk]; simp [cellsQ, HSt.out]
  have H2 := Lib.hid hR
  clear hR hz H1 z1
  go_wp2_with fail
  refine (string_any H2.out (by have := HST.out.told; have := mark_len q; simp; omega) (by have := HST.out.list; exact Nat.le_trans this (by omega)) b.toNat).mono ?_
  rintro e w3 ⟨rfl, A3, c3, hR, hz⟩
  have z3 := Lib.hid (Nat.le_trans z2.out hz)
  clear c0
  have c0 : w3.cell? ⟨a, 0, none⟩ = some (.int .i64 (10 : Nat)) := by rw [cell_at hR.blk]; simp [cellsQ, HSt.out]
  rw [str_kept] at hR
  have H3 := Lib.hid hR
  clear hR hz H2 z2
  have x2 : ∃ u, w3.cell? ⟨a, 2, none⟩ = some u := ⟨_, by rw [cell_at H3.out.blk]; rfl⟩
  obtain ⟨u2, x2⟩ := x2
  have y2 : w3.frozen? ⟨a, 2, none⟩ = false := free_at H3.out.blk 2
  have x3 : ∃ u, w3.cell? ⟨a, 3, none⟩ = some u := ⟨_, by rw [cell_at H3.out.blk]; rfl⟩
  obtain ⟨u3, x3⟩ := x3
  have y3 : w3.frozen? ⟨a, 3, none⟩ = false := free_at H3.out.blk 3
  have x5 : ∃ u, w3.cell? ⟨a, 5, none⟩ = some u := ⟨_, by rw [cell_at H3.out.blk]; rfl⟩
  obtain ⟨u5, x5⟩ := x5
  have y5 : w3.frozen? ⟨a, 5, none⟩ = false := free_at H3.out.blk 5
  have y0 : w3.frozen? ⟨a, 0, none⟩ = false := free_at H3.out.blk 0
  obtain ⟨W, hW⟩ : ∃ W, W = ((w3.setCell ⟨a, 2, none⟩ (.string ⟨#[]⟩)).setCell ⟨a, 3, none⟩ (.string ⟨#[]⟩)).setCell ⟨a, 5, none⟩ (.string ⟨#[]⟩) := ⟨_, rfl⟩
  have HC : Hid (RefP w0 W base a ⟨q.st, [], [], [], q.final, []⟩ (L ++ markE q ++ strE q b.toNat) _ _) := Lib.hid (by
    rw [hW]
    exact ((H3.out.put (q' := ⟨q.st, [], [], q.mids, q.final, q.text⟩) 2 _ rfl rfl H3.out.st).put (q' := ⟨q.st, [], [], [], q.final, q.text⟩) 3 _ rfl rfl H3.out.st).put (q' := ⟨q.st, [], [], [], q.final, []⟩) 5 _ rfl rfl H3.out.st)
  have HF : Hid (RefP w0 (W.setCell ⟨a, 0, none⟩ (.int .i64 (1 : Nat))) base a ⟨1, [], [], [], q.final, []⟩ (L ++ markE q ++ strE q b.toNat) _ _) := Lib.hid (HC.out.put (q' := ⟨1, [], [], [], q.final, []⟩) 0 _ rfl rfl (show (1 : Nat) < 14 from by decide))
  rw [hW] at HF
  clear HC hW
  go_wp2
  (try simp only [Exit.inBlock, Exit.then])
  first | refine bodyPost_ret (results_none rfl _ _ _) rfl ?_ | refine bodyPost_end (results_none rfl _ _ _) rfl ?_
  refine ⟨rfl, A3, c3, ?_, by first | simpa using z3.out | (have := z3.out; simp; omega)⟩
  rw [HE.out]
  have := HF.out
  simpa [doE, List.append_assoc] using this

set_option maxRecDepth 100000 in
set_option maxHeartbeats 4000000 in
theorem bw_z_12_0 {w0 w : World} {base a : Nat} {q : Q} {L : List EV} {A : Option Addr} {c : Nat} (h : RefP w0 w base a q L A c) (hS : Small q L) (b : UInt8) (hs : q.st = 12) (n : Nat) (hne : n ≠ 12) (k1 : n ≠ 1) (k3 : n ≠ 3) (k7 : n ≠ 7) (k12 : n ≠ 12) (ha : actN q.st b.toNat = 0) (hn : toN q.st b.toNat = n) :
    Calls Tryd.prog 18 #[.pointer (some ⟨a, 0, none⟩), .int .u8 (b.toNat : Int)] w (RefStep w0 w base a (stepE q b).2 (L ++ (stepE q b).1)) := by
  have E := step_of q b 0 n true false ha hn (by decide) (by simp [endsN, hs]; omega) (by simp [clearsN, k1, k3, k7, k12])
  have HN := Lib.hid (next_is q h.st b 0 n ha hn)
  have c0 : w.cell? ⟨a, 0, none⟩ = some (.int .i64 (12 : Nat)) := by rw [cell_at h.blk]; simp [cellsQ, hs]
  have HE := Lib.hid E
  have HST := Lib.hid hS
  have HH := Lib.hid h
  have e1 : ((n : Int) != 12) = true := by simp; omega
  have f1 : ((n : Int) == 1) = false := by simp; omega
  have f3 : ((n : Int) == 3) = false := by simp; omega
  have f7 : ((n : Int) == 7) = false := by simp; omega
  have f12 : ((n : Int) == 12) = false := by simp; omega
  have HSt := Lib.hid hs
  have HNE := Lib.hid hne
  have HNL : Hid (n < 14) := Lib.hid (by rw [← hn]; exact (grid_st q.st h.st b.toNat b.toNat_lt).1)
  clear h hS ha hn E hs hne k1 k3 k7 k12
  go_enter Tryd.func18, Tryd.ntmps18
  go_wp2_with fail
  refine (show Calls _ _ _ _ _ from HSt.out ▸ HN.out w).mono ?_
  rintro e w1 ⟨rfl, hb⟩
  have H1 := Lib.hid (HH.out.below hb)
  have z1 := Lib.hid hb.size
  clear hb HH HN c0
  go_wp2_with fail
  refine (End_any H1.out (by have := HST.out.told; omega)).mono ?_
  rintro e w2 ⟨rfl, A2, c2, hR, hz⟩
  have z2 := Lib.hid (Nat.le_trans z1.out hz)
  have c0 : w2.cell? ⟨a, 0, none⟩ = some (.int .i64 (12 : Nat)) := by rw [cell_at hR.blk]; simp [cellsQ, HSt.out]
  have H2 := Lib.hid hR
  clear hR hz H1 z1
  go_wp2_with fail
  refine (string_any H2.out (by have := HST.out.told; have := mark_len q; simp; omega) (by have := HST.out.list; exact Nat.le_trans this (by omega)) b.toNat).mono ?_
  rintro e w3 ⟨rfl, A3, c3, hR, hz⟩
  have z3 := Lib.hid (Nat.le_trans z2.out hz)
  clear c0
  have c0 : w3.cell? ⟨a, 0, none⟩ = some (.int .i64 (12 : Nat)) := by rw [cell_at hR.blk]; simp [cellsQ, HSt.out]
  rw [str_kept] at hR
  have H3 := Lib.hid hR
  clear hR hz H2 z2
  have y0 : w3.frozen? ⟨a, 0, none⟩ = false := free_at H3.out.blk 0
  have HF : Hid (RefP w0 (w3.setCell ⟨a, 0, none⟩ (.int .i64 (n : Nat))) base a ⟨n, [], q.list, q.mids, q.final, q.text⟩ (L ++ markE q ++ strE q b.toNat) _ _) := Lib.hid (H3.out.put (q' := ⟨n, [], q.list, q.mids, q.final, q.text⟩) 0 _ rfl rfl (show (n : Nat) < 14 from HNL.out))
  go_wp2
  (try simp only [Exit.inBlock, Exit.then])
  first | refine bodyPost_ret (results_none rfl _ _ _) rfl ?_ | refine bodyPost_end (results_none rfl _ _ _) rfl ?_
  refine ⟨rfl, A3, c3, ?_, by first | simpa using z3.out | (have := z3.out; simp; omega)⟩
  rw [HE.out]
  have := HF.out
  simpa [doE, List.append_assoc] using this

set_option maxRecDepth 100000 in
set_option maxHeartbeats 4000000 in
theorem bw_z_12_1 {w0 w : World} {base a : Nat} {q : Q} {L : List EV} {A : Option Addr} {c : Nat} (h : RefP w0 w base a q L A c) (hS : Small q L) (b : UInt8) (hs : q.st = 12) (ha : actN q.st b.toNat = 0) (hn : toN q.st b.toNat = 1) :
    Calls Tryd.prog 18 #[.pointer (some ⟨a, 0, none⟩), .int .u8 (b.toNat : Int)] w (RefStep w0 w base a (stepE q b).2 (L ++ (stepE q b).1)) := by
  have E := step_of q b 0 1 true true ha hn (by decide) (by simp [endsN, hs]) (by simp [clearsN, hs])
  have HN := Lib.hid (next_is q h.st b 0 1 ha hn)
  have c0 : w.cell? ⟨a, 0, none⟩ = some (.int .i64 (12 : Nat)) := by rw [cell_at h.blk]; simp [cellsQ, hs]
  have HE := Lib.hid E
  have HST := Lib.hid hS
  have HH := Lib.hid h
  have HSt := Lib.hid hs
  clear h hS ha hn E hs
  go_enter Tryd.func18, Tryd.ntmps18
  go_wp2_with fail
  refine (show Calls _ _ _ _ _ from HSt.out ▸ HN.out w).mono ?_
  rintro e w1 ⟨rfl, hb⟩
  have H1 := Lib.hid (HH.out.below hb)
  have z1 := Lib.hid hb.size
  clear hb HH HN c0
  go_wp2_with fail
  refine (End_any H1.out (by have := HST.out.told; omega)).mono ?_
  rintro e w2 ⟨rfl, A2, c2, hR, hz⟩
  have z2 := Lib.hid (Nat.le_trans z1.out hz)
  have c0 : w2.cell? ⟨a, 0, none⟩ = some (.int .i64 (12 : Nat)) := by rw [cell_at hR.blk]; simp [cellsQ, HSt.out]
  have H2 := Lib.hid hR
  clear hR hz H1 z1
  go_wp2_with fail
  refine (string_any H2.out (by have := HST.out.told; have := mark_len q; simp; omega) (by have := HST.out.list; exact Nat.le_trans this (by omega)) b.toNat).mono ?_
  rintro e w3 ⟨rfl, A3, c3, hR, hz⟩
  have z3 := Lib.hid (Nat.le_trans z2.out hz)
  clear c0
  have c0 : w3.cell? ⟨a, 0, none⟩ = some (.int .i64 (12 : Nat)) := by rw [cell_at hR.blk]; simp [cellsQ, HSt.out]
  rw [str_kept] at hR
  have H3 := Lib.hid hR
  clear hR hz H2 z2
  have x2 : ∃ u, w3.cell? ⟨a, 2, none⟩ = some u := ⟨_, by rw [cell_at H3.out.blk]; rfl⟩
  obtain ⟨u2, x2⟩ := x2
  have y2 : w3.frozen? ⟨a, 2, none⟩ = false := free_at H3.out.blk 2
  have x3 : ∃ u, w3.cell? ⟨a, 3, none⟩ = some u := ⟨_, by rw [cell_at H3.out.blk]; rfl⟩
  obtain ⟨u3, x3⟩ := x3
  have y3 : w3.frozen? ⟨a, 3, none⟩ = false := free_at H3.out.blk 3
  have x5 : ∃ u, w3.cell? ⟨a, 5, none⟩ = some u := ⟨_, by rw [cell_at H3.out.blk]; rfl⟩
  obtain ⟨u5, x5⟩ := x5
  have y5 : w3.frozen? ⟨a, 5, none⟩ = false := free_at H3.out.blk 5
  have y0 : w3.frozen? ⟨a, 0, none⟩ = false := free_at H3.out.blk 0
  obtain ⟨W, hW⟩ : ∃ W, W = ((w3.setCell ⟨a, 2, none⟩ (.string ⟨#[]⟩)).setCell ⟨a, 3, none⟩ (.string ⟨#[]⟩)).setCell ⟨a, 5, none⟩ (.string ⟨#[]⟩) := ⟨_, rfl⟩
  have HC : Hid (RefP w0 W base a ⟨q.st, [], [], [], q.final, []⟩ (L ++ markE q ++ strE q b.toNat) _ _) := Lib.hid (by
    rw [hW]
    exact ((H3.out.put (q' := ⟨q.st, [], [], q.mids, q.final, q.text⟩) 2 _ rfl rfl H3.out.st).put (q' := ⟨q.st, [], [], [], q.final, q.text⟩) 3 _ rfl rfl H3.out.st).put (q' := ⟨q.st, [], [], [], q.final, []⟩) 5 _ rfl rfl H3.out.st)
  have HF : Hid (RefP w0 (W.setCell ⟨a, 0, none⟩ (.int .i64 (1 : Nat))) base a ⟨1, [], [], [], q.final, []⟩ (L ++ markE q ++ strE q b.toNat) _ _) := Lib.hid (HC.out.put (q' := ⟨1, [], [], [], q.final, []⟩) 0 _ rfl rfl (show (1 : Nat) < 14 from by decide))
  rw [hW] at HF
  clear HC hW
  go_wp2
  (try simp only [Exit.inBlock, Exit.then])
  first | refine bodyPost_ret (results_none rfl _ _ _) rfl ?_ | refine bodyPost_end (results_none rfl _ _ _) rfl ?_
  refine ⟨rfl, A3, c3, ?_, by first | simpa using z3.out | (have := z3.out; simp; omega)⟩
  rw [HE.out]
  have := HF.out
  simpa [doE, List.append_assoc] using this

set_option maxRecDepth 100000 in
set_option maxHeartbeats 4000000 in
theorem bw_z_1 {w0 w : World} {base a : Nat} {q : Q} {L : List EV} {A : Option Addr} {c : Nat} (h : RefP w0 w base a q L A c) (hS : Small q L) (b : UInt8) (hne : q.st ≠ 1) (s10 : q.st ≠ 10) (s12 : q.st ≠ 12) (ha : actN q.st b.toNat = 0) (hn : toN q.st b.toNat = 1) :
    Calls Tryd.prog 18 #[.pointer (some ⟨a, 0, none⟩), .int .u8 (b.toNat : Int)] w (RefStep w0 w base a (stepE q b).2 (L ++ (stepE q b).1)) := by
  have E := step_of q b 0 1 false true ha hn (by decide) (by simp [endsN, s10, s12]) (by simp [clearsN]; omega)
  have HN := Lib.hid (next_is q h.st b 0 1 ha hn)
  have c0 : w.cell? ⟨a, 0, none⟩ = some (.int .i64 (q.st : Nat)) := by rw [cell_at h.blk]; simp [cellsQ]
  have HE := Lib.hid E
  have HST := Lib.hid hS
  have HH := Lib.hid h
  have e1 : ((1 : Int) != (q.st : Int)) = true := by simp; omega
  have e2 : ((q.st : Int) == 10) = false := by simp; omega
  have e3 : ((q.st : Int) == 12) = false := by simp; omega
  clear h hS ha hn E hne s10 s12
  go_enter Tryd.func18, Tryd.ntmps18
  go_wp2_with fail
  refine (show Calls _ _ _ _ _ from HN.out w).mono ?_
  rintro e w1 ⟨rfl, hb⟩
  have H1 := Lib.hid (HH.out.below hb)
  have z1 := Lib.hid hb.size
  clear hb HH HN c0
  go_wp2_with fail
  refine (End_any H1.out (by have := HST.out.told; omega)).mono ?_
  rintro e w2 ⟨rfl, A2, c2, hR, hz⟩
  have z2 := Lib.hid (Nat.le_trans z1.out hz)
  have c0 : w2.cell? ⟨a, 0, none⟩ = some (.int .i64 (q.st : Nat)) := by rw [cell_at hR.blk]; simp [cellsQ]
  have H2 := Lib.hid hR
  clear hR hz H1 z1
  have x2 : ∃ u, w2.cell? ⟨a, 2, none⟩ = some u := ⟨_, by rw [cell_at H2.out.blk]; rfl⟩
  obtain ⟨u2, x2⟩ := x2
  have y2 : w2.frozen? ⟨a, 2, none⟩ = false := free_at H2.out.blk 2
  have x3 : ∃ u, w2.cell? ⟨a, 3, none⟩ = some u := ⟨_, by rw [cell_at H2.out.blk]; rfl⟩
  obtain ⟨u3, x3⟩ := x3
  have y3 : w2.frozen? ⟨a, 3, none⟩ = false := free_at H2.out.blk 3
  have x5 : ∃ u, w2.cell? ⟨a, 5, none⟩ = some u := ⟨_, by rw [cell_at H2.out.blk]; rfl⟩
  obtain ⟨u5, x5⟩ := x5
  have y5 : w2.frozen? ⟨a, 5, none⟩ = false := free_at H2.out.blk 5
  have y0 : w2.frozen? ⟨a, 0, none⟩ = false := free_at H2.out.blk 0
  obtain ⟨W, hW⟩ : ∃ W, W = ((w2.setCell ⟨a, 2, none⟩ (.string ⟨#[]⟩)).setCell ⟨a, 3, none⟩ (.string ⟨#[]⟩)).setCell ⟨a, 5, none⟩ (.string ⟨#[]⟩) := ⟨_, rfl⟩
  have HC : Hid (RefP w0 W base a ⟨q.st, [], [], [], q.final, []⟩ (L ++ markE q) _ _) := Lib.hid (by
    rw [hW]
    exact ((H2.out.put (q' := ⟨q.st, [], [], q.mids, q.final, q.text⟩) 2 _ rfl rfl H2.out.st).put (q' := ⟨q.st, [], [], [], q.final, q.text⟩) 3 _ rfl rfl H2.out.st).put (q' := ⟨q.st, [], [], [], q.final, []⟩) 5 _ rfl rfl H2.out.st)
  have HF : Hid (RefP w0 (W.setCell ⟨a, 0, none⟩ (.int .i64 (1 : Nat))) base a ⟨1, [], [], [], q.final, []⟩ (L ++ markE q) _ _) := Lib.hid (HC.out.put (q' := ⟨1, [], [], [], q.final, []⟩) 0 _ rfl rfl (show (1 : Nat) < 14 from by decide))
  rw [hW] at HF
  clear HC hW
  go_wp2
  (try simp only [Exit.inBlock, Exit.then])
  first | refine bodyPost_ret (results_none rfl _ _ _) rfl ?_ | refine bodyPost_end (results_none rfl _ _ _) rfl ?_
  refine ⟨rfl, A2, c2, ?_, by first | simpa using z2.out | (have := z2.out; simp; omega)⟩
  rw [HE.out]
  have := HF.out
  simpa [doE, List.append_assoc] using this

set_option maxRecDepth 100000 in
set_option maxHeartbeats 4000000 in
theorem bw_z_3 {w0 w : World} {base a : Nat} {q : Q} {L : List EV} {A : Option Addr} {c : Nat} (h : RefP w0 w base a q L A c) (hS : Small q L) (b : UInt8) (hne : q.st ≠ 3) (s10 : q.st ≠ 10) (s12 : q.st ≠ 12) (ha : actN q.st b.toNat = 0) (hn : toN q.st b.toNat = 3) :
    Calls Tryd.prog 18 #[.pointer (some ⟨a, 0, none⟩), .int .u8 (b.toNat : Int)] w (RefStep w0 w base a (stepE q b).2 (L ++ (stepE q b).1)) := by
  have E := step_of q b 0 3 false true ha hn (by decide) (by simp [endsN, s10, s12]) (by simp [clearsN]; omega)
  have HN := Lib.hid (next_is q h.st b 0 3 ha hn)
  have c0 : w.cell? ⟨a, 0, none⟩ = some (.int .i64 (q.st : Nat)) := by rw [cell_at h.blk]; simp [cellsQ]
  have HE := Lib.hid E
  have HST := Lib.hid hS
  have HH := Lib.hid h
  have e1 : ((3 : Int) != (q.st : Int)) = true := by simp; omega
  have e2 : ((q.st : Int) == 10) = false := by simp; omega
  have e3 : ((q.st : Int) == 12) = false := by simp; omega
  clear h hS ha hn E hne s10 s12
  go_enter Tryd.func18, Tryd.ntmps18
  go_wp2_with fail
  refine (show Calls _ _ _ _ _ from HN.out w).mono ?_
  rintro e w1 ⟨rfl, hb⟩
  have H1 := Lib.hid (HH.out.below hb)
  have z1 := Lib.hid hb.size
  clear hb HH HN c0
  go_wp2_with fail
  refine (End_any H1.out (by have := HST.out.told; omega)).mono ?_
  rintro e w2 ⟨rfl, A2, c2, hR, hz⟩
  have z2 := Lib.hid (Nat.le_trans z1.out hz)
  have c0 : w2.cell? ⟨a, 0, none⟩ = some (.int .i64 (q.st : Nat)) := by rw [cell_at hR.blk]; simp [cellsQ]
  have H2 := Lib.hid hR
  clear hR hz H1 z1
  have x2 : ∃ u, w2.cell? ⟨a, 2, none⟩ = some u := ⟨_, by rw [cell_at H2.out.blk]; rfl⟩
  obtain ⟨u2, x2⟩ := x2
  have y2 : w2.frozen? ⟨a, 2, none⟩ = false := free_at H2.out.blk 2
  have x3 : ∃ u, w2.cell? ⟨a, 3, none⟩ = some u := ⟨_, by rw [cell_at H2.out.blk]; rfl⟩
  obtain ⟨u3, x3⟩ := x3
  have y3 : w2.frozen? ⟨a, 3, none⟩ = false := free_at H2.out.blk 3
  have x5 : ∃ u, w2.cell? ⟨a, 5, none⟩ = some u := ⟨_, by rw [cell_at H2.out.blk]; rfl⟩
  obtain ⟨u5, x5⟩ := x5
  have y5 : w2.frozen? ⟨a, 5, none⟩ = false := free_at H2.out.blk 5
  have y0 : w2.frozen? ⟨a, 0, none⟩ = false := free_at H2.out.blk 0
  obtain ⟨W, hW⟩ : ∃ W, W = ((w2.setCell ⟨a, 2, none⟩ (.string ⟨#[]⟩)).setCell ⟨a, 3, none⟩ (.string ⟨#[]⟩)).setCell ⟨a, 5, none⟩ (.string ⟨#[]⟩) := ⟨_, rfl⟩
  have HC : Hid (RefP w0 W base a ⟨q.st, [], [], [], q.final, []⟩ (L ++ markE q) _ _) := Lib.hid (by
    rw [hW]
    exact ((H2.out.put (q' := ⟨q.st, [], [], q.mids, q.final, q.text⟩) 2 _ rfl rfl H2.out.st).put (q' := ⟨q.st, [], [], [], q.final, q.text⟩) 3 _ rfl rfl H2.out.st).put (q' := ⟨q.st, [], [], [], q.final, []⟩) 5 _ rfl rfl H2.out.st)
  have HF : Hid (RefP w0 (W.setCell ⟨a, 0, none⟩ (.int .i64 (3 : Nat))) base a ⟨3, [], [], [], q.final, []⟩ (L ++ markE q) _ _) := Lib.hid (HC.out.put (q' := ⟨3, [], [], [], q.final, []⟩) 0 _ rfl rfl (show (3 : Nat) < 14 from by decide))
  rw [hW] at HF
  clear HC hW
  go_wp2
  (try simp only [Exit.inBlock, Exit.then])
  first | refine bodyPost_ret (results_none rfl _ _ _) rfl ?_ | refine bodyPost_end (results_none rfl _ _ _) rfl ?_
  refine ⟨rfl, A2, c2, ?_, by first | simpa using z2.out | (have := z2.out; simp; omega)⟩
  rw [HE.out]
  have := HF.out
  simpa [doE, List.append_assoc] using this

set_option maxRecDepth 100000 in
set_option maxHeartbeats 4000000 in
theorem bw_z_7 {w0 w : World} {base a : Nat} {q : Q} {L : List EV} {A : Option Addr} {c : Nat} (h : RefP w0 w base a q L A c) (hS : Small q L) (b : UInt8) (hne : q.st ≠ 7) (s10 : q.st ≠ 10) (s12 : q.st ≠ 12) (ha : actN q.st b.toNat = 0) (hn : toN q.st b.toNat = 7) :
    Calls Tryd.prog 18 #[.pointer (some ⟨a, 0, none⟩), .int .u8 (b.toNat : Int)] w (RefStep w0 w base a (stepE q b).2 (L ++ (stepE q b).1)) := by
  have E := step_of q b 0 7 false true ha hn (by decide) (by simp [endsN, s10, s12]) (by simp [clearsN]; omega)
  have HN := Lib.hid (next_is q h.st b 0 7 ha hn)
  have c0 : w.cell? ⟨a, 0, none⟩ = some (.int .i64 (q.st : Nat)) := by rw [cell_at h.blk]; simp [cellsQ]
  have HE := Lib.hid E
  have HST := Lib.hid hS
  have HH := Lib.hid h
  have e1 : ((7 : Int) != (q.st : Int)) = true := by simp; omega
  have e2 : ((q.st : Int) == 10) = false := by simp; omega
  have e3 : ((q.st : Int) == 12) = false := by simp; omega
  clear h hS ha hn E hne s10 s12
  go_enter Tryd.func18, Tryd.ntmps18
  go_wp2_with fail
  refine (show Calls _ _ _ _ _ from HN.out w).mono ?_
  rintro e w1 ⟨rfl, hb⟩
  have H1 := Lib.hid (HH.out.below hb)
  have z1 := Lib.hid hb.size
  clear hb HH HN c0
  go_wp2_with fail
  refine (End_any H1.out (by have := HST.out.told; omega)).mono ?_
  rintro e w2 ⟨rfl, A2, c2, hR, hz⟩
  have z2 := Lib.hid (Nat.le_trans z1.out hz)
  have c0 : w2.cell? ⟨a, 0, none⟩ = some (.int .i64 (q.st : Nat)) := by rw [cell_at hR.blk]; simp [cellsQ]
  have H2 := Lib.hid hR
  clear hR hz H1 z1
  have x2 : ∃ u, w2.cell? ⟨a, 2, none⟩ = some u := ⟨_, by rw [cell_at H2.out.blk]; rfl⟩
  obtain ⟨u2, x2⟩ := x2
  have y2 : w2.frozen? ⟨a, 2, none⟩ = false := free_at H2.out.blk 2
  have x3 : ∃ u, w2.cell? ⟨a, 3, none⟩ = some u := ⟨_, by rw [cell_at H2.out.blk]; rfl⟩
  obtain ⟨u3, x3⟩ := x3
  have y3 : w2.frozen? ⟨a, 3, none⟩ = false := free_at H2.out.blk 3
  have x5 : ∃ u, w2.cell? ⟨a, 5, none⟩ = some u := ⟨_, by rw [cell_at H2.out.blk]; rfl⟩
  obtain ⟨u5, x5⟩ := x5
  have y5 : w2.frozen? ⟨a, 5, none⟩ = false := free_at H2.out.blk 5
  have y0 : w2.frozen? ⟨a, 0, none⟩ = false := free_at H2.out.blk 0
  obtain ⟨W, hW⟩ : ∃ W, W = ((w2.setCell ⟨a, 2, none⟩ (.string ⟨#[]⟩)).setCell ⟨a, 3, none⟩ (.string ⟨#[]⟩)).setCell ⟨a, 5, none⟩ (.string ⟨#[]⟩) := ⟨_, rfl⟩
  have HC : Hid (RefP w0 W base a ⟨q.st, [], [], [], q.final, []⟩ (L ++ markE q) _ _) := Lib.hid (by
    rw [hW]
    exact ((H2.out.put (q' := ⟨q.st, [], [], q.mids, q.final, q.text⟩) 2 _ rfl rfl H2.out.st).put (q' := ⟨q.st, [], [], [], q.final, q.text⟩) 3 _ rfl rfl H2.out.st).put (q' := ⟨q.st, [], [], [], q.final, []⟩) 5 _ rfl rfl H2.out.st)
  have HF : Hid (RefP w0 (W.setCell ⟨a, 0, none⟩ (.int .i64 (7 : Nat))) base a ⟨7, [], [], [], q.final, []⟩ (L ++ markE q) _ _) := Lib.hid (HC.out.put (q' := ⟨7, [], [], [], q.final, []⟩) 0 _ rfl rfl (show (7 : Nat) < 14 from by decide))
  rw [hW] at HF
  clear HC hW
  go_wp2
  (try simp only [Exit.inBlock, Exit.then])
  first | refine bodyPost_ret (results_none rfl _ _ _) rfl ?_ | refine bodyPost_end (results_none rfl _ _ _) rfl ?_
  refine ⟨rfl, A2, c2, ?_, by first | simpa using z2.out | (have := z2.out; simp; omega)⟩
  rw [HE.out]
  have := HF.out
  simpa [doE, List.append_assoc] using this

set_option maxRecDepth 100000 in
set_option maxHeartbeats 4000000 in
theorem bw_z_12 {w0 w : World} {base a : Nat} {q : Q} {L : List EV} {A : Option Addr} {c : Nat} (h : RefP w0 w base a q L A c) (hS : Small q L) (b : UInt8) (hne : q.st ≠ 12) (s10 : q.st ≠ 10) (s12 : q.st ≠ 12) (ha : actN q.st b.toNat = 0) (hn : toN q.st b.toNat = 12) :
    Calls Tryd.prog 18 #[.pointer (some ⟨a, 0, none⟩), .int .u8 (b.toNat : Int)] w (RefStep w0 w base a (stepE q b).2 (L ++ (stepE q b).1)) := by
  have E := step_of q b 0 12 false true ha hn (by decide) (by simp [endsN, s10, s12]) (by simp [clearsN]; omega)
  have HN := Lib.hid (next_is q h.st b 0 12 ha hn)
  have c0 : w.cell? ⟨a, 0, none⟩ = some (.int .i64 (q.st : Nat)) := by rw [cell_at h.blk]; simp [cellsQ]
  have HE := Lib.hid E
  have HST := Lib.hid hS
  have HH := Lib.hid h
  have e1 : ((12 : Int) != (q.st : Int)) = true := by simp; omega
  have e2 : ((q.st : Int) == 10) = false := by simp; omega
  have e3 : ((q.st : Int) == 12) = false := by simp; omega
  clear h hS ha hn E hne s10 s12
  go_enter Tryd.func18, Tryd.ntmps18
  go_wp2_with fail
  refine (show Calls _ _ _ _ _ from HN.out w).mono ?_
  rintro e w1 ⟨rfl, hb⟩
  have H1 := Lib.hid (HH.out.below hb)
  have z1 := Lib.hid hb.size
  clear hb HH HN c0
  go_wp2_with fail
  refine (End_any H1.out (by have := HST.out.told; omega)).mono ?_
  rintro e w2 ⟨rfl, A2, c2, hR, hz⟩
  have z2 := Lib.hid (Nat.le_trans z1.out hz)
  have c0 : w2.cell? ⟨a, 0, none⟩ = some (.int .i64 (q.st : Nat)) := by rw [cell_at hR.blk]; simp [cellsQ]
  have H2 := Lib.hid hR
  clear hR hz H1 z1
  have x2 : ∃ u, w2.cell? ⟨a, 2, none⟩ = some u := ⟨_, by rw [cell_at H2.out.blk]; rfl⟩
  obtain ⟨u2, x2⟩ := x2
  have y2 : w2.frozen? ⟨a, 2, none⟩ = false := free_at H2.out.blk 2
  have x3 : ∃ u, w2.cell? ⟨a, 3, none⟩ = some u := ⟨_, by rw [cell_at H2.out.blk]; rfl⟩
  obtain ⟨u3, x3⟩ := x3
  have y3 : w2.frozen? ⟨a, 3, none⟩ = false := free_at H2.out.blk 3
  have x5 : ∃ u, w2.cell? ⟨a, 5, none⟩ = some u := ⟨_, by rw [cell_at H2.out.blk]; rfl⟩
  obtain ⟨u5, x5⟩ := x5
  have y5 : w2.frozen? ⟨a, 5, none⟩ = false := free_at H2.out.blk 5
  have y0 : w2.frozen? ⟨a, 0, none⟩ = false := free_at H2.out.blk 0
  obtain ⟨W, hW⟩ : ∃ W, W = ((w2.setCell ⟨a, 2, none⟩ (.string ⟨#[]⟩)).setCell ⟨a, 3, none⟩ (.string ⟨#[]⟩)).setCell ⟨a, 5, none⟩ (.string ⟨#[]⟩) := ⟨_, rfl⟩
  have HC : Hid (RefP w0 W base a ⟨q.st, [], [], [], q.final, []⟩ (L ++ markE q) _ _) := Lib.hid (by
    rw [hW]
    exact ((H2.out.put (q' := ⟨q.st, [], [], q.mids, q.final, q.text⟩) 2 _ rfl rfl H2.out.st).put (q' := ⟨q.st, [], [], [], q.final, q.text⟩) 3 _ rfl rfl H2.out.st).put (q' := ⟨q.st, [], [], [], q.final, []⟩) 5 _ rfl rfl H2.out.st)
  have HF : Hid (RefP w0 (W.setCell ⟨a, 0, none⟩ (.int .i64 (12 : Nat))) base a ⟨12, [], [], [], q.final, []⟩ (L ++ markE q) _ _) := Lib.hid (HC.out.put (q' := ⟨12, [], [], [], q.final, []⟩) 0 _ rfl rfl (show (12 : Nat) < 14 from by decide))
  rw [hW] at HF
  clear HC hW
  go_wp2
  (try simp only [Exit.inBlock, Exit.then])
  first | refine bodyPost_ret (results_none rfl _ _ _) rfl ?_ | refine bodyPost_end (results_none rfl _ _ _) rfl ?_
  refine ⟨rfl, A2, c2, ?_, by first | simpa using z2.out | (have := z2.out; simp; omega)⟩
  rw [HE.out]
  have := HF.out
  simpa [doE, List.append_assoc] using this

set_option maxRecDepth 100000 in
set_option maxHeartbeats 4000000 in
theorem bw_z_n {w0 w : World} {base a : Nat} {q : Q} {L : List EV} {A : Option Addr} {c : Nat} (h : RefP w0 w base a q L A c) (hS : Small q L) (b : UInt8) (n : Nat) (hne : n ≠ q.st) (k1 : n ≠ 1) (k3 : n ≠ 3) (k7 : n ≠ 7) (k12 : n ≠ 12) (s10 : q.st ≠ 10) (s12 : q.st ≠ 12) (ha : actN q.st b.toNat = 0) (hn : toN q.st b.toNat = n) :
    Calls Tryd.prog 18 #[.pointer (some ⟨a, 0, none⟩), .int .u8 (b.toNat : Int)] w (RefStep w0 w base a (stepE q b).2 (L ++ (stepE q b).1)) := by
  have E := step_of q b 0 n false false ha hn (by decide) (by simp [endsN, s10, s12]) (by simp [clearsN, k1, k3, k7, k12])
  have HN := Lib.hid (next_is q h.st b 0 n ha hn)
  have c0 : w.cell? ⟨a, 0, none⟩ = some (.int .i64 (q.st : Nat)) := by rw [cell_at h.blk]; simp [cellsQ]
  have HE := Lib.hid E
  have HST := Lib.hid hS
  have HH := Lib.hid h
  have e1 : ((n : Int) != (q.st : Int)) = true := by simp; omega
  have f1 : ((n : Int) == 1) = false := by simp; omega
  have f3 : ((n : Int) == 3) = false := by simp; omega
  have f7 : ((n : Int) == 7) = false := by simp; omega
  have f12 : ((n : Int) == 12) = false := by simp; omega
  have e2 : ((q.st : Int) == 10) = false := by simp; omega
  have e3 : ((q.st : Int) == 12) = false := by simp; omega
  have HNE := Lib.hid hne
  have HNL : Hid (n < 14) := Lib.hid (by rw [← hn]; exact (grid_st q.st h.st b.toNat b.toNat_lt).1)
  clear h hS ha hn E hne k1 k3 k7 k12 s10 s12
  go_enter Tryd.func18, Tryd.ntmps18
  go_wp2_with fail
  refine (show Calls _ _ _ _ _ from HN.out w).mono ?_
  rintro e w1 ⟨rfl, hb⟩
  have H1 := Lib.hid (HH.out.below hb)
  have z1 := Lib.hid hb.size
  clear hb HH HN c0
  go_wp2_with fail
  refine (End_any H1.out (by have := HST.out.told; omega)).mono ?_
  rintro e w2 ⟨rfl, A2, c2, hR, hz⟩
  have z2 := Lib.hid (Nat.le_trans z1.out hz)
  have c0 : w2.cell? ⟨a, 0, none⟩ = some (.int .i64 (q.st : Nat)) := by rw [cell_at hR.blk]; simp [cellsQ]
  have H2 := Lib.hid hR
  clear hR hz H1 z1
  have y0 : w2.frozen? ⟨a, 0, none⟩ = false := free_at H2.out.blk 0
  have HF : Hid (RefP w0 (w2.setCell ⟨a, 0, none⟩ (.int .i64 (n : Nat))) base a ⟨n, [], q.list, q.mids, q.final, q.text⟩ (L ++ markE q) _ _) := Lib.hid (H2.out.put (q' := ⟨n, [], q.list, q.mids, q.final, q.text⟩) 0 _ rfl rfl (show (n : Nat) < 14 from HNL.out))
  go_wp2
  (try simp only [Exit.inBlock, Exit.then])
  first | refine bodyPost_ret (results_none rfl _ _ _) rfl ?_ | refine bodyPost_end (results_none rfl _ _ _) rfl ?_
  refine ⟨rfl, A2, c2, ?_, by first | simpa using z2.out | (have := z2.out; simp; omega)⟩
  rw [HE.out]
  have := HF.out
  simpa [doE, List.append_assoc] using this

set_option maxRecDepth 100000 in
set_option maxHeartbeats 4000000 in
theorem bw_x_same {w0 w : World} {base a : Nat} {q : Q} {L : List EV} {A : Option Addr} {c : Nat} (h : RefP w0 w base a q L A c) (hS : Small q L) (b : UInt8) (ha : actN q.st b.toNat = 2) (hn : toN q.st b.toNat = q.st) :
    Calls Tryd.prog 18 #[.pointer (some ⟨a, 0, none⟩), .int .u8 (b.toNat : Int)] w (RefStep w0 w base a (stepE q b).2 (L ++ (stepE q b).1)) := by
  have E := step_of q b 2 q.st false false ha hn (by decide) (by simp [endsN]) (by simp [clearsN])
  have HN := Lib.hid (next_is q h.st b 2 q.st ha hn)
  have c0 : w.cell? ⟨a, 0, none⟩ = some (.int .i64 (q.st : Nat)) := by rw [cell_at h.blk]; simp [cellsQ]
  have HE := Lib.hid E
  have HST := Lib.hid hS
  have HH := Lib.hid h
  clear h hS ha hn E
  go_enter Tryd.func18, Tryd.ntmps18
  go_wp2_with fail
  refine (show Calls _ _ _ _ _ from HN.out w).mono ?_
  rintro e w1 ⟨rfl, hb⟩
  have H1 := Lib.hid (HH.out.below hb)
  have z1 := Lib.hid hb.size
  clear hb HH HN c0
  go_wp2_with fail
  refine (End_any H1.out (by have := HST.out.told; omega)).mono ?_
  rintro e w2 ⟨rfl, A2, c2, hR, hz⟩
  have z2 := Lib.hid (Nat.le_trans z1.out hz)
  have c0 : w2.cell? ⟨a, 0, none⟩ = some (.int .i64 (q.st : Nat)) := by rw [cell_at hR.blk]; simp [cellsQ]
  have H2 := Lib.hid hR
  clear hR hz H1 z1
  have y0 : w2.frozen? ⟨a, 0, none⟩ = false := free_at H2.out.blk 0
  obtain ⟨i0, hi, hz0, hz1, hz2⟩ := info_parts info_ev
  have HI := Lib.hid hi; have HZ0 := Lib.hid hz0; have HZ1 := Lib.hid hz1; have HZ2 := Lib.hid hz2
  obtain ⟨ls, hls, hown0⟩ := H2.out.told
  obtain ⟨m, hm⟩ : ∃ m, m = (L ++ markE q).length := ⟨_, rfl⟩
  have HM := Lib.hid hm
  have c6 : w2.cell? ⟨a, 6, none⟩ = some (.slice A2 m c2) := by rw [cell_at H2.out.blk, hm]; rfl
  have HO : Hid ((w2.alloc (.cells #[.int .i64 2, .int .i32 0, .int .u8 (b.toNat : Int), .string ⟨#[]⟩, .slice none 0 0, .string ⟨#[]⟩] 89)).ownsRow base 89 6 (.slice A2 m c2) m ls.flatten) := Lib.hid (by rw [hm]; exact World.ownsRow.alloc hown0 _)
  have HLS := Lib.hid hls
  have kb := build_exec (b.toNat : Int)
  have hm1 : m ≤ 1000000 := by rw [hm]; have := HST.out.told; have := mark_len q; have := str_len q b.toNat; simp; omega
  have HB : Hid (base ≤ w2.heap.size) := Lib.hid H2.out.sz
  clear hi hz0 hz1 hz2 hls hown0 hm y0
  go_wp2_with (at_builtin; refine wpList_append_own _ rfl (.tmp 101) (.tmp 104) 36 rfl base 89 i0 zeroEv 6 72 Tryd.underlying36 HI.out HZ0.out HZ1.out HZ2.out rfl (by decide) _ _ _ rfl HO.out ⟨w2.heap.size, 0, none⟩ 1 1 [.int .i64 2, .int .i32 0, .int .u8 (b.toNat : Int), .string ⟨#[]⟩, .slice none 0 0, .string ⟨#[]⟩] rfl rfl ?d1 ?d2 ?d3 ?d4 ?d5 ?_)
  case d1 => exact one_cells w2 _ _
  case d2 => intro u hu; simp at hu; rcases hu with rfl | rfl | rfl | rfl | rfl | rfl <;> rfl
  case d3 => unfold maxLen; omega
  case d4 => omega
  case d5 => have := HB.out; simp; omega
  intro v' w5 hown hg _
  obtain ⟨g, c', rfl, hR, ⟨u, x6⟩, y6, hsz⟩ := H2.out.tell HLS.out (e := ⟨2, 0, b.toNat, [], [], []⟩) (l := [.int .i64 2, .int .i32 0, .int .u8 (b.toNat : Int), .string ⟨#[]⟩, .slice none 0 0, .string ⟨#[]⟩]) ⟨none, 0, rfl, fun h => absurd h (by simp)⟩ (by rw [← HM.out]; exact hown) (by rw [← HM.out]; exact hg)
  rw [← HM.out] at hR ⊢
  have x0 : w5.cell? ⟨a, 0, none⟩ = some (.int .i64 (q.st : Nat)) := by rw [← oth (v := .slice (some ⟨g, 0, none⟩) (m + 1) c') 0 (by decide), cell_at hR.blk]; simp [cellsQ]
  have y0 : w5.frozen? ⟨a, 0, none⟩ = false := by have := free_at hR.blk 0; simpa using this
  have z5 := Lib.hid (Nat.le_trans z2.out hsz)
  have HG := Lib.hid hR
  have HF : Hid (RefP w0 ((w5.setCell ⟨a, 6, none⟩ (.slice (some ⟨g, 0, none⟩) (m + 1) c')).setCell ⟨a, 0, none⟩ (.int .i64 (q.st : Nat))) base a ⟨q.st, [], q.list, q.mids, q.final, q.text⟩ (L ++ markE q ++ [⟨2, 0, b.toNat, [], [], []⟩]) _ _) := Lib.hid (HG.out.put (q' := ⟨q.st, [], q.list, q.mids, q.final, q.text⟩) 0 _ rfl rfl (show (q.st : Nat) < 14 from H2.out.st))
  clear hown hg hR hsz c6 kb HO HG c0
  go_wp2
  (try simp only [Exit.inBlock, Exit.then])
  first | refine bodyPost_ret (results_none rfl _ _ _) rfl ?_ | refine bodyPost_end (results_none rfl _ _ _) rfl ?_
  refine ⟨rfl, some ⟨g, 0, none⟩, c', ?_, by first | simpa using z5.out | (have := z5.out; simp; omega)⟩
  rw [HE.out]
  have := HF.out
  simpa [doE, List.append_assoc] using this

set_option maxRecDepth 100000 in
set_option maxHeartbeats 4000000 in
theorem bw_x_10 {w0 w : World} {base a : Nat} {q : Q} {L : List EV} {A : Option Addr} {c : Nat} (h : RefP w0 w base a q L A c) (hS : Small q L) (b : UInt8) (hs : q.st = 10) (ha : actN q.st b.toNat = 2) (hn : toN q.st b.toNat = 0) :
    Calls Tryd.prog 18 #[.pointer (some ⟨a, 0, none⟩), .int .u8 (b.toNat : Int)] w (RefStep w0 w base a (stepE q b).2 (L ++ (stepE q b).1)) := by
  have E := step_of q b 2 0 true false ha hn (by decide) (by simp [endsN, hs]) (by simp [clearsN])
  have HN := Lib.hid (next_is q h.st b 2 0 ha hn)
  have c0 : w.cell? ⟨a, 0, none⟩ = some (.int .i64 (10 : Nat)) := by rw [cell_at h.blk]; simp [cellsQ, hs]
  have HE := Lib.hid E
  have HST := Lib.hid hS
  have HH := Lib.hid h
  have HSt := Lib.hid hs
  clear h hS ha hn E hs
  go_enter Tryd.func18, Tryd.ntmps18
  go_wp2_with fail
  refine (show Calls _ _ _ _ _ from HSt.out ▸ HN.out w).mono ?_
  rintro e w1 ⟨rfl, hb⟩
  have H1 := Lib.hid (HH.out.below hb)
  have z1 := Lib.hid hb.size
  clear hb HH HN c0
  go_wp2_with fail
  refine (End_any H1.out (by have := HST.out.told; omega)).mono ?_
  rintro e w2 ⟨rfl, A2, c2, hR, hz⟩
  have z2 := Lib.hid (Nat.le_trans z1.out hz)
  have c0 : w2.cell? ⟨a, 0, none⟩ = some (.int .i64 (10 : Nat)) := by rw [cell_at hR.blk]; simp [cellsQ, HSt.out]
  have H2 := Lib.hid hR
  clear hR hz H1 z1
  go_wp2_with fail
  refine (string_any H2.out (by have := HST.out.told; have := mark_len q; simp; omega) (by have := HST.out.list; exact Nat.le_trans this (by omega)) b.toNat).mono ?_
  rintro e w3 ⟨rfl, A3, c3, hR, hz⟩
  have z3 := Lib.hid (Nat.le_trans z2.out hz)
  clear c0
  have c0 : w3.cell? ⟨a, 0, none⟩ = some (.int .i64 (10 : Nat)) := by rw [cell_at hR.blk]; simp [cellsQ, HSt.out]
  rw [str_kept] at hR
  have H3 := Lib.hid hR
  clear hR hz H2 z2
  have y0 : w3.frozen? ⟨a, 0, none⟩ = false := free_at H3.out.blk 0
  obtain ⟨i0, hi, hz0, hz1, hz2⟩ := info_parts info_ev
  have HI := Lib.hid hi; have HZ0 := Lib.hid hz0; have HZ1 := Lib.hid hz1; have HZ2 := Lib.hid hz2
  obtain ⟨ls, hls, hown0⟩ := H3.out.told
  obtain ⟨m, hm⟩ : ∃ m, m = (L ++ markE q ++ strE q b.toNat).length := ⟨_, rfl⟩
  have HM := Lib.hid hm
  have c6 : w3.cell? ⟨a, 6, none⟩ = some (.slice A3 m c3) := by rw [cell_at H3.out.blk, hm]; rfl
  have HO : Hid ((w3.alloc (.cells #[.int .i64 2, .int .i32 0, .int .u8 (b.toNat : Int), .string ⟨#[]⟩, .slice none 0 0, .string ⟨#[]⟩] 89)).ownsRow base 89 6 (.slice A3 m c3) m ls.flatten) := Lib.hid (by rw [hm]; exact World.ownsRow.alloc hown0 _)
  have HLS := Lib.hid hls
  have kb := build_exec (b.toNat : Int)
  have hm1 : m ≤ 1000000 := by rw [hm]; have := HST.out.told; have := mark_len q; have := str_len q b.toNat; simp; omega
  have HB : Hid (base ≤ w3.heap.size) := Lib.hid H3.out.sz
  clear hi hz0 hz1 hz2 hls hown0 hm y0
  go_wp2_with (at_builtin; refine wpList_append_own _ rfl (.tmp 101) (.tmp 104) 36 rfl base 89 i0 zeroEv 6 72 Tryd.underlying36 HI.out HZ0.out HZ1.out HZ2.out rfl (by decide) _ _ _ rfl HO.out ⟨w3.heap.size, 0, none⟩ 1 1 [.int .i64 2, .int .i32 0, .int .u8 (b.toNat : Int), .string ⟨#[]⟩, .slice none 0 0, .string ⟨#[]⟩] rfl rfl ?d1 ?d2 ?d3 ?d4 ?d5 ?_)
  case d1 => exact one_cells w3 _ _
  case d2 => intro u hu; simp at hu; rcases hu with rfl | rfl | rfl | rfl | rfl | rfl <;> rfl
  case d3 => unfold maxLen; omega
  case d4 => omega
  case d5 => have := HB.out; simp; omega
  intro v' w5 hown hg _
  obtain ⟨g, c', rfl, hR, ⟨u, x6⟩, y6, hsz⟩ := H3.out.tell HLS.out (e := ⟨2, 0, b.toNat, [], [], []⟩) (l := [.int .i64 2, .int .i32 0, .int .u8 (b.toNat : Int), .string ⟨#[]⟩, .slice none 0 0, .string ⟨#[]⟩]) ⟨none, 0, rfl, fun h => absurd h (by simp)⟩ (by rw [← HM.out]; exact hown) (by rw [← HM.out]; exact hg)
  rw [← HM.out] at hR ⊢
  have x0 : w5.cell? ⟨a, 0, none⟩ = some (.int .i64 (10 : Nat)) := by rw [← oth (v := .slice (some ⟨g, 0, none⟩) (m + 1) c') 0 (by decide), cell_at hR.blk]; simp [cellsQ, HSt.out]
  have y0 : w5.frozen? ⟨a, 0, none⟩ = false := by have := free_at hR.blk 0; simpa using this
  have z5 := Lib.hid (Nat.le_trans z3.out hsz)
  have HG := Lib.hid hR
  have HF : Hid (RefP w0 ((w5.setCell ⟨a, 6, none⟩ (.slice (some ⟨g, 0, none⟩) (m + 1) c')).setCell ⟨a, 0, none⟩ (.int .i64 (0 : Nat))) base a ⟨0, [], q.list, q.mids, q.final, q.text⟩ (L ++ markE q ++ strE q b.toNat ++ [⟨2, 0, b.toNat, [], [], []⟩]) _ _) := Lib.hid (HG.out.put (q' := ⟨0, [], q.list, q.mids, q.final, q.text⟩) 0 _ rfl rfl (show (0 : Nat) < 14 from by decide))
  clear hown hg hR hsz c6 kb HO HG c0
  go_wp2
  (try simp only [Exit.inBlock, Exit.then])
  first | refine bodyPost_ret (results_none rfl _ _ _) rfl ?_ | refine bodyPost_end (results_none rfl _ _ _) rfl ?_
  refine ⟨rfl, some ⟨g, 0, none⟩, c', ?_, by first | simpa using z5.out | (have := z5.out; simp; omega)⟩
  rw [HE.out]
  have := HF.out
  simpa [doE, List.append_assoc] using this

set_option maxRecDepth 100000 in
set_option maxHeartbeats 4000000 in
theorem bw_x_12 {w0 w : World} {base a : Nat} {q : Q} {L : List EV} {A : Option Addr} {c : Nat} (h : RefP w0 w base a q L A c) (hS : Small q L) (b : UInt8) (hs : q.st = 12) (ha : actN q.st b.toNat = 2) (hn : toN q.st b.toNat = 0) :
    Calls Tryd.prog 18 #[.pointer (some ⟨a, 0, none⟩), .int .u8 (b.toNat : Int)] w (RefStep w0 w base a (stepE q b).2 (L ++ (stepE q b).1)) := by
  have E := step_of q b 2 0 true false ha hn (by decide) (by simp [endsN, hs]) (by simp [clearsN])
  have HN := Lib.hid (next_is q h.st b 2 0 ha hn)
  have c0 : w.cell? ⟨a, 0, none⟩ = some (.int .i64 (12 : Nat)) := by rw [cell_at h.blk]; simp [cellsQ, hs]
  have HE := Lib.hid E
  have HST := Lib.hid hS
  have HH := Lib.hid h
  have HSt := Lib.hid hs
  clear h hS ha hn E hs
  go_enter Tryd.func18, Tryd.ntmps18
  go_wp2_with fail
  refine (show Calls _ _ _ _ _ from HSt.out ▸ HN.out w).mono ?_
  rintro e w1 ⟨rfl, hb⟩
  have H1 := Lib.hid (HH.out.below hb)
  have z1 := Lib.hid hb.size
  clear hb HH HN c0
  go_wp2_with fail
  refine (End_any H1.out (by have := HST.out.told; omega)).mono ?_
  rintro e w2 ⟨rfl, A2, c2, hR, hz⟩
  have z2 := Lib.hid (Nat.le_trans z1.out hz)
  have c0 : w2.cell? ⟨a, 0, none⟩ = some (.int .i64 (12 : Nat)) := by rw [cell_at hR.blk]; simp [cellsQ, HSt.out]
  have H2 := Lib.hid hR
  clear hR hz H1 z1
  go_wp2_with fail
  refine (string_any H2.out (by have := HST.out.told; have := mark_len q; simp; omega) (by have := HST.out.list; exact Nat.le_trans this (by omega)) b.toNat).mono ?_
  rintro e w3 ⟨rfl, A3, c3, hR, hz⟩
  have z3 := Lib.hid (Nat.le_trans z2.out hz)
  clear c0
  have c0 : w3.cell? ⟨a, 0, none⟩ = some (.int .i64 (12 : Nat)) := by rw [cell_at hR.blk]; simp [cellsQ, HSt.out]
  rw [str_kept] at hR
  have H3 := Lib.hid hR
  clear hR hz H2 z2
  have y0 : w3.frozen? ⟨a, 0, none⟩ = false := free_at H3.out.blk 0
  obtain ⟨i0, hi, hz0, hz1, hz2⟩ := info_parts info_ev
  have HI := Lib.hid hi; have HZ0 := Lib.hid hz0; have HZ1 := Lib.hid hz1; have HZ2 := Lib.hid hz2
  obtain ⟨ls, hls, hown0⟩ := H3.out.told
  obtain ⟨m, hm⟩ : ∃ m, m = (L ++ markE q ++ strE q b.toNat).length := ⟨_, rfl⟩
  have HM := Lib.hid hm
  have c6 : w3.cell? ⟨a, 6, none⟩ = some (.slice A3 m c3) := by rw [cell_at H3.out.blk, hm]; rfl
  have HO : Hid ((w3.alloc (.cells #[.int .i64 2, .int .i32 0, .int .u8 (b.toNat : Int), .string ⟨#[]⟩, .slice none 0 0, .string ⟨#[]⟩] 89)).ownsRow base 89 6 (.slice A3 m c3) m ls.flatten) := Lib.hid (by rw [hm]; exact World.ownsRow.alloc hown0 _)
  have HLS := Lib.hid hls
  have kb := build_exec (b.toNat : Int)
  have hm1 : m ≤ 1000000 := by rw [hm]; have := HST.out.told; have := mark_len q; have := str_len q b.toNat; simp; omega
  have HB : Hid (base ≤ w3.heap.size) := Lib.hid H3.out.sz
  clear hi hz0 hz1 hz2 hls hown0 hm y0
  go_wp2_with (at_builtin; refine wpList_append_own _ rfl (.tmp 101) (.tmp 104) 36 rfl base 89 i0 zeroEv 6 72 Tryd.underlying36 HI.out HZ0.out HZ1.out HZ2.out rfl (by decide) _ _ _ rfl HO.out ⟨w3.heap.size, 0, none⟩ 1 1 [.int .i64 2, .int .i32 0, .int .u8 (b.toNat : Int), .string ⟨#[]⟩, .slice none 0 0, .string ⟨#[]⟩] rfl rfl ?d1 ?d2 ?d3 ?d4 ?d5 ?_)
  case d1 => exact one_cells w3 _ _
  case d2 => intro u hu; simp at hu; rcases hu with rfl | rfl | rfl | rfl | rfl | rfl <;> rfl
  case d3 => unfold maxLen; omega
  case d4 => omega
  case d5 => have := HB.out; simp; omega
  intro v' w5 hown hg _
  obtain ⟨g, c', rfl, hR, ⟨u, x6⟩, y6, hsz⟩ := H3.out.tell HLS.out (e := ⟨2, 0, b.toNat, [], [], []⟩) (l := [.int .i64 2, .int .i32 0, .int .u8 (b.toNat : Int), .string ⟨#[]⟩, .slice none 0 0, .string ⟨#[]⟩]) ⟨none, 0, rfl, fun h => absurd h (by simp)⟩ (by rw [← HM.out]; exact hown) (by rw [← HM.out]; exact hg)
  rw [← HM.out] at hR ⊢
  have x0 : w5.cell? ⟨a, 0, none⟩ = some (.int .i64 (12 : Nat)) := by rw [← oth (v := .slice (some ⟨g, 0, none⟩) (m + 1) c') 0 (by decide), cell_at hR.blk]; simp [cellsQ, HSt.out]
  have y0 : w5.frozen? ⟨a, 0, none⟩ = false := by have := free_at hR.blk 0; simpa using this
  have z5 := Lib.hid (Nat.le_trans z3.out hsz)
  have HG := Lib.hid hR
  have HF : Hid (RefP w0 ((w5.setCell ⟨a, 6, none⟩ (.slice (some ⟨g, 0, none⟩) (m + 1) c')).setCell ⟨a, 0, none⟩ (.int .i64 (0 : Nat))) base a ⟨0, [], q.list, q.mids, q.final, q.text⟩ (L ++ markE q ++ strE q b.toNat ++ [⟨2, 0, b.toNat, [], [], []⟩]) _ _) := Lib.hid (HG.out.put (q' := ⟨0, [], q.list, q.mids, q.final, q.text⟩) 0 _ rfl rfl (show (0 : Nat) < 14 from by decide))
  clear hown hg hR hsz c6 kb HO HG c0
  go_wp2
  (try simp only [Exit.inBlock, Exit.then])
  first | refine bodyPost_ret (results_none rfl _ _ _) rfl ?_ | refine bodyPost_end (results_none rfl _ _ _) rfl ?_
  refine ⟨rfl, some ⟨g, 0, none⟩, c', ?_, by first | simpa using z5.out | (have := z5.out; simp; omega)⟩
  rw [HE.out]
  have := HF.out
  simpa [doE, List.append_assoc] using this

set_option maxRecDepth 100000 in
set_option maxHeartbeats 4000000 in
theorem bw_x_0 {w0 w : World} {base a : Nat} {q : Q} {L : List EV} {A : Option Addr} {c : Nat} (h : RefP w0 w base a q L A c) (hS : Small q L) (b : UInt8) (hne : q.st ≠ 0) (s10 : q.st ≠ 10) (s12 : q.st ≠ 12) (ha : actN q.st b.toNat = 2) (hn : toN q.st b.toNat = 0) :
    Calls Tryd.prog 18 #[.pointer (some ⟨a, 0, none⟩), .int .u8 (b.toNat : Int)] w (RefStep w0 w base a (stepE q b).2 (L ++ (stepE q b).1)) := by
  have E := step_of q b 2 0 false false ha hn (by decide) (by simp [endsN, s10, s12]) (by simp [clearsN])
  have HN := Lib.hid (next_is q h.st b 2 0 ha hn)
  have c0 : w.cell? ⟨a, 0, none⟩ = some (.int .i64 (q.st : Nat)) := by rw [cell_at h.blk]; simp [cellsQ]
  have HE := Lib.hid E
  have HST := Lib.hid hS
  have HH := Lib.hid h
  have e1 : ((0 : Int) != (q.st : Int)) = true := by simp; omega
  have e2 : ((q.st : Int) == 10) = false := by simp; omega
  have e3 : ((q.st : Int) == 12) = false := by simp; omega
  clear h hS ha hn E hne s10 s12
  go_enter Tryd.func18, Tryd.ntmps18
  go_wp2_with fail
  refine (show Calls _ _ _ _ _ from HN.out w).mono ?_
  rintro e w1 ⟨rfl, hb⟩
  have H1 := Lib.hid (HH.out.below hb)
  have z1 := Lib.hid hb.size
  clear hb HH HN c0
  go_wp2_with fail
  refine (End_any H1.out (by have := HST.out.told; omega)).mono ?_
  rintro e w2 ⟨rfl, A2, c2, hR, hz⟩
  have z2 := Lib.hid (Nat.le_trans z1.out hz)
  have c0 : w2.cell? ⟨a, 0, none⟩ = some (.int .i64 (q.st : Nat)) := by rw [cell_at hR.blk]; simp [cellsQ]
  have H2 := Lib.hid hR
  clear hR hz H1 z1
  have y0 : w2.frozen? ⟨a, 0, none⟩ = false := free_at H2.out.blk 0
  obtain ⟨i0, hi, hz0, hz1, hz2⟩ := info_parts info_ev
  have HI := Lib.hid hi; have HZ0 := Lib.hid hz0; have HZ1 := Lib.hid hz1; have HZ2 := Lib.hid hz2
  obtain ⟨ls, hls, hown0⟩ := H2.out.told
  obtain ⟨m, hm⟩ : ∃ m, m = (L ++ markE q).length := ⟨_, rfl⟩
  have HM := Lib.hid hm
  have c6 : w2.cell? ⟨a, 6, none⟩ = some (.slice A2 m c2) := by rw [cell_at H2.out.blk, hm]; rfl
  have HO : Hid ((w2.alloc (.cells #[.int .i64 2, .int .i32 0, .int .u8 (b.toNat : Int), .string ⟨#[]⟩, .slice none 0 0, .string ⟨#[]⟩] 89)).ownsRow base 89 6 (.slice A2 m c2) m ls.flatten) := Lib.hid (by rw [hm]; exact World.ownsRow.alloc hown0 _)
  have HLS := Lib.hid hls
  have kb := build_exec (b.toNat : Int)
  have hm1 : m ≤ 1000000 := by rw [hm]; have := HST.out.told; have := mark_len q; have := str_len q b.toNat; simp; omega
  have HB : Hid (base ≤ w2.heap.size) := Lib.hid H2.out.sz
  clear hi hz0 hz1 hz2 hls hown0 hm y0
  go_wp2_with (at_builtin; refine wpList_append_own _ rfl (.tmp 101) (.tmp 104) 36 rfl base 89 i0 zeroEv 6 72 Tryd.underlying36 HI.out HZ0.out HZ1.out HZ2.out rfl (by decide) _ _ _ rfl HO.out ⟨w2.heap.size, 0, none⟩ 1 1 [.int .i64 2, .int .i32 0, .int .u8 (b.toNat : Int), .string ⟨#[]⟩, .slice none 0 0, .string ⟨#[]⟩] rfl rfl ?d1 ?d2 ?d3 ?d4 ?d5 ?_)
  case d1 => exact one_cells w2 _ _
  case d2 => intro u hu; simp at hu; rcases hu with rfl | rfl | rfl | rfl | rfl | rfl <;> rfl
  case d3 => unfold maxLen; omega
  case d4 => omega
  case d5 => have := HB.out; simp; omega
  intro v' w5 hown hg _
  obtain ⟨g, c', rfl, hR, ⟨u, x6⟩, y6, hsz⟩ := H2.out.tell HLS.out (e := ⟨2, 0, b.toNat, [], [], []⟩) (l := [.int .i64 2, .int .i32 0, .int .u8 (b.toNat : Int), .string ⟨#[]⟩, .slice none 0 0, .string ⟨#[]⟩]) ⟨none, 0, rfl, fun h => absurd h (by simp)⟩ (by rw [← HM.out]; exact hown) (by rw [← HM.out]; exact hg)
  rw [← HM.out] at hR ⊢
  have x0 : w5.cell? ⟨a, 0, none⟩ = some (.int .i64 (q.st : Nat)) := by rw [← oth (v := .slice (some ⟨g, 0, none⟩) (m + 1) c') 0 (by decide), cell_at hR.blk]; simp [cellsQ]
  have y0 : w5.frozen? ⟨a, 0, none⟩ = false := by have := free_at hR.blk 0; simpa using this
  have z5 := Lib.hid (Nat.le_trans z2.out hsz)
  have HG := Lib.hid hR
  have HF : Hid (RefP w0 ((w5.setCell ⟨a, 6, none⟩ (.slice (some ⟨g, 0, none⟩) (m + 1) c')).setCell ⟨a, 0, none⟩ (.int .i64 (0 : Nat))) base a ⟨0, [], q.list, q.mids, q.final, q.text⟩ (L ++ markE q ++ [⟨2, 0, b.toNat, [], [], []⟩]) _ _) := Lib.hid (HG.out.put (q' := ⟨0, [], q.list, q.mids, q.final, q.text⟩) 0 _ rfl rfl (show (0 : Nat) < 14 from by decide))
  clear hown hg hR hsz c6 kb HO HG c0
  go_wp2
  (try simp only [Exit.inBlock, Exit.then])
  first | refine bodyPost_ret (results_none rfl _ _ _) rfl ?_ | refine bodyPost_end (results_none rfl _ _ _) rfl ?_
  refine ⟨rfl, some ⟨g, 0, none⟩, c', ?_, by first | simpa using z5.out | (have := z5.out; simp; omega)⟩
  rw [HE.out]
  have := HF.out
  simpa [doE, List.append_assoc] using this

set_option maxRecDepth 100000 in
set_option maxHeartbeats 4000000 in
theorem bw_h_10 {w0 w : World} {base a : Nat} {q : Q} {L : List EV} {A : Option Addr} {c : Nat} (h : RefP w0 w base a q L A c) (hS : Small q L) (b : UInt8) (hne : q.st ≠ 10) (s10 : q.st ≠ 10) (s12 : q.st ≠ 12) (ha : actN q.st b.toNat = 7) (hn : toN q.st b.toNat = 10) :
    Calls Tryd.prog 18 #[.pointer (some ⟨a, 0, none⟩), .int .u8 (b.toNat : Int)] w (RefStep w0 w base a (stepE q b).2 (L ++ (stepE q b).1)) := by
  have E := step_of q b 7 10 false false ha hn (by decide) (by simp [endsN, s10, s12]) (by simp [clearsN])
  have HN := Lib.hid (next_is q h.st b 7 10 ha hn)
  have c0 : w.cell? ⟨a, 0, none⟩ = some (.int .i64 (q.st : Nat)) := by rw [cell_at h.blk]; simp [cellsQ]
  have HE := Lib.hid E
  have HST := Lib.hid hS
  have HH := Lib.hid h
  have e1 : ((10 : Int) != (q.st : Int)) = true := by simp; omega
  have e2 : ((q.st : Int) == 10) = false := by simp; omega
  have e3 : ((q.st : Int) == 12) = false := by simp; omega
  clear h hS ha hn E hne s10 s12
  go_enter Tryd.func18, Tryd.ntmps18
  go_wp2_with fail
  refine (show Calls _ _ _ _ _ from HN.out w).mono ?_
  rintro e w1 ⟨rfl, hb⟩
  have H1 := Lib.hid (HH.out.below hb)
  have z1 := Lib.hid hb.size
  clear hb HH HN c0
  go_wp2_with fail
  refine (End_any H1.out (by have := HST.out.told; omega)).mono ?_
  rintro e w2 ⟨rfl, A2, c2, hR, hz⟩
  have z2 := Lib.hid (Nat.le_trans z1.out hz)
  have c0 : w2.cell? ⟨a, 0, none⟩ = some (.int .i64 (q.st : Nat)) := by rw [cell_at hR.blk]; simp [cellsQ]
  have H2 := Lib.hid hR
  clear hR hz H1 z1
  have y0 : w2.frozen? ⟨a, 0, none⟩ = false := free_at H2.out.blk 0
  have x4 : w2.cell? ⟨a, 4, none⟩ = some (.int .u8 (q.final : Nat)) := by rw [cell_at H2.out.blk]; rfl
  have y4 : w2.frozen? ⟨a, 4, none⟩ = false := free_at H2.out.blk 4
  have HG : Hid (RefP w0 (w2.setCell ⟨a, 4, none⟩ (.int .u8 (b.toNat : Int))) base a ⟨q.st, [], q.list, q.mids, b.toNat, q.text⟩ (L ++ markE q) _ _) := Lib.hid (H2.out.put (q' := ⟨q.st, [], q.list, q.mids, b.toNat, q.text⟩) 4 _ rfl rfl H2.out.st)
  have HF : Hid (RefP w0 ((w2.setCell ⟨a, 4, none⟩ (.int .u8 (b.toNat : Int))).setCell ⟨a, 0, none⟩ (.int .i64 (10 : Nat))) base a ⟨10, [], q.list, q.mids, b.toNat, q.text⟩ (L ++ markE q) _ _) := Lib.hid (HG.out.put (q' := ⟨10, [], q.list, q.mids, b.toNat, q.text⟩) 0 _ rfl rfl (show (10 : Nat) < 14 from by decide))
  clear HG
  go_wp2
  (try simp only [Exit.inBlock, Exit.then])
  first | refine bodyPost_ret (results_none rfl _ _ _) rfl ?_ | refine bodyPost_end (results_none rfl _ _ _) rfl ?_
  refine ⟨rfl, A2, c2, ?_, by first | simpa using z2.out | (have := z2.out; simp; omega)⟩
  rw [HE.out]
  have := HF.out
  simpa [doE, List.append_assoc] using this

set_option maxRecDepth 100000 in
set_option maxHeartbeats 4000000 in
theorem bw_c_same {w0 w : World} {base a : Nat} {q : Q} {L : List EV} {A : Option Addr} {c : Nat} (h : RefP w0 w base a q L A c) (hS : Small q L) (b : UInt8) (ha : actN q.st b.toNat = 3) (hn : toN q.st b.toNat = q.st) :
    Calls Tryd.prog 18 #[.pointer (some ⟨a, 0, none⟩), .int .u8 (b.toNat : Int)] w (RefStep w0 w base a (stepE q b).2 (L ++ (stepE q b).1)) := by
  have E := step_of q b 3 q.st false false ha hn (by decide) (by simp [endsN]) (by simp [clearsN])
  have HN := Lib.hid (next_is q h.st b 3 q.st ha hn)
  have c0 : w.cell? ⟨a, 0, none⟩ = some (.int .i64 (q.st : Nat)) := by rw [cell_at h.blk]; simp [cellsQ]
  have HE := Lib.hid E
  have HST := Lib.hid hS
  have HH := Lib.hid h
  clear h hS ha hn E
  go_enter Tryd.func18, Tryd.ntmps18
  go_wp2_with fail
  refine (show Calls _ _ _ _ _ from HN.out w).mono ?_
  rintro e w1 ⟨rfl, hb⟩
  have H1 := Lib.hid (HH.out.below hb)
  have z1 := Lib.hid hb.size
  clear hb HH HN c0
  go_wp2_with fail
  refine (End_any H1.out (by have := HST.out.told; omega)).mono ?_
  rintro e w2 ⟨rfl, A2, c2, hR, hz⟩
  have z2 := Lib.hid (Nat.le_trans z1.out hz)
  have c0 : w2.cell? ⟨a, 0, none⟩ = some (.int .i64 (q.st : Nat)) := by rw [cell_at hR.blk]; simp [cellsQ]
  have H2 := Lib.hid hR
  clear hR hz H1 z1
  have y0 : w2.frozen? ⟨a, 0, none⟩ = false := free_at H2.out.blk 0
  have hl : a < w2.heap.size := H2.out.lt
  have cf : w2.cell? ⟨a, 3, none⟩ = some (.string (strK q.mids)) := by rw [cell_at H2.out.blk]; rfl
  have yf : w2.frozen? ⟨a, 3, none⟩ = false := free_at H2.out.blk 3
  have hct := D5.byte_text (w2.alloc (.cells #[.int .u8 (b.toNat : Int)] 5)).drew w2.heap.size b _ rfl (by simp)
  have n1 : ¬ 9223372036854775807 < (strK q.mids).size + (D5.strK [b]).size := by
    have h2 : (D5.strK [b]).size = 1 := rfl
    have := HST.out.mids
    rw [strK_size, h2]
    omega
  have HG : Hid (RefP w0 (w2.setCell ⟨a, 3, none⟩ (.string (strK q.mids ++ D5.strK [b]))) base a ⟨q.st, [], q.list, q.mids ++ [b], q.final, q.text⟩ (L ++ markE q) _ _) := Lib.hid (H2.out.put (q' := ⟨q.st, [], q.list, q.mids ++ [b], q.final, q.text⟩) 3 _ (by rw [show strK q.mids ++ D5.strK [b] = strK (q.mids ++ [b]) from D5.str_cat q.mids b]; rfl) rfl H2.out.st)
  have HF : Hid (RefP w0 ((((w2.setCell ⟨a, 3, none⟩ (.string (strK q.mids ++ D5.strK [b]))).setCell ⟨a, 0, none⟩ (.int .i64 (q.st : Nat))).alloc (.cells #[.int .u8 (b.toNat : Int)] 5)).drew) base a ⟨q.st, [], q.list, q.mids ++ [b], q.final, q.text⟩ (L ++ markE q) _ _) := Lib.hid (RefP.below (HG.out.put (q' := ⟨q.st, [], q.list, q.mids ++ [b], q.final, q.text⟩) 0 _ rfl rfl (show (q.st : Nat) < 14 from H2.out.st)) (below_drew ((Below.refl _ _).alloc (Nat.le_refl _) _) 1))
  clear HG
  go_wp2
  go_region
  go_wp2
  (try simp only [Exit.inBlock, Exit.then])
  first | refine bodyPost_ret (results_none rfl _ _ _) rfl ?_ | refine bodyPost_end (results_none rfl _ _ _) rfl ?_
  refine ⟨rfl, A2, c2, ?_, by first | simpa using z2.out | (have := z2.out; simp; omega)⟩
  rw [HE.out]
  have := HF.out
  simpa [doE, List.append_assoc] using this

set_option maxRecDepth 100000 in
set_option maxHeartbeats 4000000 in
theorem bw_c_n {w0 w : World} {base a : Nat} {q : Q} {L : List EV} {A : Option Addr} {c : Nat} (h : RefP w0 w base a q L A c) (hS : Small q L) (b : UInt8) (n : Nat) (hne : n ≠ q.st) (k1 : n ≠ 1) (k3 : n ≠ 3) (k7 : n ≠ 7) (k12 : n ≠ 12) (s10 : q.st ≠ 10) (s12 : q.st ≠ 12) (ha : actN q.st b.toNat = 3) (hn : toN q.st b.toNat = n) :
    Calls Tryd.prog 18 #[.pointer (some ⟨a, 0, none⟩), .int .u8 (b.toNat : Int)] w (RefStep w0 w base a (stepE q b).2 (L ++ (stepE q b).1)) := by
  have E := step_of q b 3 n false false ha hn (by decide) (by simp [endsN, s10, s12]) (by simp [clearsN, k1, k3, k7, k12])
  have HN := Lib.hid (next_is q h.st b 3 n ha hn)
  have c0 : w.cell? ⟨a, 0, none⟩ = some (.int .i64 (q.st : Nat)) := by rw [cell_at h.blk]; simp [cellsQ]
  have HE := Lib.hid E
  have HST := Lib.hid hS
  have HH := Lib.hid h
  have e1 : ((n : Int) != (q.st : Int)) = true := by simp; omega
  have f1 : ((n : Int) == 1) = false := by simp; omega
  have f3 : ((n : Int) == 3) = false := by simp; omega
  have f7 : ((n : Int) == 7) = false := by simp; omega
  have f12 : ((n : Int) == 12) = false := by simp; omega
  have e2 : ((q.st : Int) == 10) = false := by simp; omega
  have e3 : ((q.st : Int) == 12) = false := by simp; omega
  have HNE := Lib.hid hne
  have HNL : Hid (n < 14) := Lib.hid (by rw [← hn]; exact (grid_st q.st h.st b.toNat b.toNat_lt).1)
  clear h hS ha hn E hne k1 k3 k7 k12 s10 s12
  go_enter Tryd.func18, Tryd.ntmps18
  go_wp2_with fail
  refine (show Calls _ _ _ _ _ from HN.out w).mono ?_
  rintro e w1 ⟨rfl, hb⟩
  have H1 := Lib.hid (HH.out.below hb)
  have z1 := Lib.hid hb.size
  clear hb HH HN c0
  go_wp2_with fail
  refine (End_any H1.out (by have := HST.out.told; omega)).mono ?_
  rintro e w2 ⟨rfl, A2, c2, hR, hz⟩
  have z2 := Lib.hid (Nat.le_trans z1.out hz)
  have c0 : w2.cell? ⟨a, 0, none⟩ = some (.int .i64 (q.st : Nat)) := by rw [cell_at hR.blk]; simp [cellsQ]
  have H2 := Lib.hid hR
  clear hR hz H1 z1
  have y0 : w2.frozen? ⟨a, 0, none⟩ = false := free_at H2.out.blk 0
  have hl : a < w2.heap.size := H2.out.lt
  have cf : w2.cell? ⟨a, 3, none⟩ = some (.string (strK q.mids)) := by rw [cell_at H2.out.blk]; rfl
  have yf : w2.frozen? ⟨a, 3, none⟩ = false := free_at H2.out.blk 3
  have hct := D5.byte_text (w2.alloc (.cells #[.int .u8 (b.toNat : Int)] 5)).drew w2.heap.size b _ rfl (by simp)
  have n1 : ¬ 9223372036854775807 < (strK q.mids).size + (D5.strK [b]).size := by
    have h2 : (D5.strK [b]).size = 1 := rfl
    have := HST.out.mids
    rw [strK_size, h2]
    omega
  have HG : Hid (RefP w0 (w2.setCell ⟨a, 3, none⟩ (.string (strK q.mids ++ D5.strK [b]))) base a ⟨q.st, [], q.list, q.mids ++ [b], q.final, q.text⟩ (L ++ markE q) _ _) := Lib.hid (H2.out.put (q' := ⟨q.st, [], q.list, q.mids ++ [b], q.final, q.text⟩) 3 _ (by rw [show strK q.mids ++ D5.strK [b] = strK (q.mids ++ [b]) from D5.str_cat q.mids b]; rfl) rfl H2.out.st)
  have HF : Hid (RefP w0 ((((w2.setCell ⟨a, 3, none⟩ (.string (strK q.mids ++ D5.strK [b]))).setCell ⟨a, 0, none⟩ (.int .i64 (n : Nat))).alloc (.cells #[.int .u8 (b.toNat : Int)] 5)).drew) base a ⟨n, [], q.list, q.mids ++ [b], q.final, q.text⟩ (L ++ markE q) _ _) := Lib.hid (RefP.below (HG.out.put (q' := ⟨n, [], q.list, q.mids ++ [b], q.final, q.text⟩) 0 _ rfl rfl (show (n : Nat) < 14 from HNL.out)) (below_drew ((Below.refl _ _).alloc (Nat.le_refl _) _) 1))
  clear HG
  go_wp2
  go_region
  go_wp2
  (try simp only [Exit.inBlock, Exit.then])
  first | refine bodyPost_ret (results_none rfl _ _ _) rfl ?_ | refine bodyPost_end (results_none rfl _ _ _) rfl ?_
  refine ⟨rfl, A2, c2, ?_, by first | simpa using z2.out | (have := z2.out; simp; omega)⟩
  rw [HE.out]
  have := HF.out
  simpa [doE, List.append_assoc] using this

set_option maxRecDepth 100000 in
set_option maxHeartbeats 4000000 in
theorem bw_p_same {w0 w : World} {base a : Nat} {q : Q} {L : List EV} {A : Option Addr} {c : Nat} (h : RefP w0 w base a q L A c) (hS : Small q L) (b : UInt8) (ha : actN q.st b.toNat = 4) (hn : toN q.st b.toNat = q.st) :
    Calls Tryd.prog 18 #[.pointer (some ⟨a, 0, none⟩), .int .u8 (b.toNat : Int)] w (RefStep w0 w base a (stepE q b).2 (L ++ (stepE q b).1)) := by
  have E := step_of q b 4 q.st false false ha hn (by decide) (by simp [endsN]) (by simp [clearsN])
  have HN := Lib.hid (next_is q h.st b 4 q.st ha hn)
  have c0 : w.cell? ⟨a, 0, none⟩ = some (.int .i64 (q.st : Nat)) := by rw [cell_at h.blk]; simp [cellsQ]
  have HE := Lib.hid E
  have HST := Lib.hid hS
  have HH := Lib.hid h
  clear h hS ha hn E
  go_enter Tryd.func18, Tryd.ntmps18
  go_wp2_with fail
  refine (show Calls _ _ _ _ _ from HN.out w).mono ?_
  rintro e w1 ⟨rfl, hb⟩
  have H1 := Lib.hid (HH.out.below hb)
  have z1 := Lib.hid hb.size
  clear hb HH HN c0
  go_wp2_with fail
  refine (End_any H1.out (by have := HST.out.told; omega)).mono ?_
  rintro e w2 ⟨rfl, A2, c2, hR, hz⟩
  have z2 := Lib.hid (Nat.le_trans z1.out hz)
  have c0 : w2.cell? ⟨a, 0, none⟩ = some (.int .i64 (q.st : Nat)) := by rw [cell_at hR.blk]; simp [cellsQ]
  have H2 := Lib.hid hR
  clear hR hz H1 z1
  have y0 : w2.frozen? ⟨a, 0, none⟩ = false := free_at H2.out.blk 0
  have hl : a < w2.heap.size := H2.out.lt
  have cf : w2.cell? ⟨a, 2, none⟩ = some (.string (strK q.list)) := by rw [cell_at H2.out.blk]; rfl
  have yf : w2.frozen? ⟨a, 2, none⟩ = false := free_at H2.out.blk 2
  have hct := D5.byte_text (w2.alloc (.cells #[.int .u8 (b.toNat : Int)] 5)).drew w2.heap.size b _ rfl (by simp)
  have n1 : ¬ 9223372036854775807 < (strK q.list).size + (D5.strK [b]).size := by
    have h2 : (D5.strK [b]).size = 1 := rfl
    have := HST.out.list
    rw [strK_size, h2]
    omega
  have HG : Hid (RefP w0 (w2.setCell ⟨a, 2, none⟩ (.string (strK q.list ++ D5.strK [b]))) base a ⟨q.st, [], q.list ++ [b], q.mids, q.final, q.text⟩ (L ++ markE q) _ _) := Lib.hid (H2.out.put (q' := ⟨q.st, [], q.list ++ [b], q.mids, q.final, q.text⟩) 2 _ (by rw [show strK q.list ++ D5.strK [b] = strK (q.list ++ [b]) from D5.str_cat q.list b]; rfl) rfl H2.out.st)
  have HF : Hid (RefP w0 ((((w2.setCell ⟨a, 2, none⟩ (.string (strK q.list ++ D5.strK [b]))).setCell ⟨a, 0, none⟩ (.int .i64 (q.st : Nat))).alloc (.cells #[.int .u8 (b.toNat : Int)] 5)).drew) base a ⟨q.st, [], q.list ++ [b], q.mids, q.final, q.text⟩ (L ++ markE q) _ _) := Lib.hid (RefP.below (HG.out.put (q' := ⟨q.st, [], q.list ++ [b], q.mids, q.final, q.text⟩) 0 _ rfl rfl (show (q.st : Nat) < 14 from H2.out.st)) (below_drew ((Below.refl _ _).alloc (Nat.le_refl _) _) 1))
  clear HG
  go_wp2
  go_region
  go_wp2
  (try simp only [Exit.inBlock, Exit.then])
  first | refine bodyPost_ret (results_none rfl _ _ _) rfl ?_ | refine bodyPost_end (results_none rfl _ _ _) rfl ?_
  refine ⟨rfl, A2, c2, ?_, by first | simpa using z2.out | (have := z2.out; simp; omega)⟩
  rw [HE.out]
  have := HF.out
  simpa [doE, List.append_assoc] using this

set_option maxRecDepth 100000 in
set_option maxHeartbeats 4000000 in
theorem bw_p_n {w0 w : World} {base a : Nat} {q : Q} {L : List EV} {A : Option Addr} {c : Nat} (h : RefP w0 w base a q L A c) (hS : Small q L) (b : UInt8) (n : Nat) (hne : n ≠ q.st) (k1 : n ≠ 1) (k3 : n ≠ 3) (k7 : n ≠ 7) (k12 : n ≠ 12) (s10 : q.st ≠ 10) (s12 : q.st ≠ 12) (ha : actN q.st b.toNat = 4) (hn : toN q.st b.toNat = n) :
    Calls Tryd.prog 18 #[.pointer (some ⟨a, 0, none⟩), .int .u8 (b.toNat : Int)] w (RefStep w0 w base a (stepE q b).2 (L ++ (stepE q b).1)) := by
  have E := step_of q b 4 n false false ha hn (by decide) (by simp [endsN, s10, s12]) (by simp [clearsN, k1, k3, k7, k12])
  have HN := Lib.hid (next_is q h.st b 4 n ha hn)
  have c0 : w.cell? ⟨a, 0, none⟩ = some (.int .i64 (q.st : Nat)) := by rw [cell_at h.blk]; simp [cellsQ]
  have HE := Lib.hid E
  have HST := Lib.hid hS
  have HH := Lib.hid h
  have e1 : ((n : Int) != (q.st : Int)) = true := by simp; omega
  have f1 : ((n : Int) == 1) = false := by simp; omega
  have f3 : ((n : Int) == 3) = false := by simp; omega
  have f7 : ((n : Int) == 7) = false := by simp; omega
  have f12 : ((n : Int) == 12) = false := by simp; omega
  have e2 : ((q.st : Int) == 10) = false := by simp; omega
  have e3 : ((q.st : Int) == 12) = false := by simp; omega
  have HNE := Lib.hid hne
  have HNL : Hid (n < 14) := Lib.hid (by rw [← hn]; exact (grid_st q.st h.st b.toNat b.toNat_lt).1)
  clear h hS ha hn E hne k1 k3 k7 k12 s10 s12
  go_enter Tryd.func18, Tryd.ntmps18
  go_wp2_with fail
  refine (show Calls _ _ _ _ _ from HN.out w).mono ?_
  rintro e w1 ⟨rfl, hb⟩
  have H1 := Lib.hid (HH.out.below hb)
  have z1 := Lib.hid hb.size
  clear hb HH HN c0
  go_wp2_with fail
  refine (End_any H1.out (by have := HST.out.told; omega)).mono ?_
  rintro e w2 ⟨rfl, A2, c2, hR, hz⟩
  have z2 := Lib.hid (Nat.le_trans z1.out hz)
  have c0 : w2.cell? ⟨a, 0, none⟩ = some (.int .i64 (q.st : Nat)) := by rw [cell_at hR.blk]; simp [cellsQ]
  have H2 := Lib.hid hR
  clear hR hz H1 z1
  have y0 : w2.frozen? ⟨a, 0, none⟩ = false := free_at H2.out.blk 0
  have hl : a < w2.heap.size := H2.out.lt
  have cf : w2.cell? ⟨a, 2, none⟩ = some (.string (strK q.list)) := by rw [cell_at H2.out.blk]; rfl
  have yf : w2.frozen? ⟨a, 2, none⟩ = false := free_at H2.out.blk 2
  have hct := D5.byte_text (w2.alloc (.cells #[.int .u8 (b.toNat : Int)] 5)).drew w2.heap.size b _ rfl (by simp)
  have n1 : ¬ 9223372036854775807 < (strK q.list).size + (D5.strK [b]).size := by
    have h2 : (D5.strK [b]).size = 1 := rfl
    have := HST.out.list
    rw [strK_size, h2]
    omega
  have HG : Hid (RefP w0 (w2.setCell ⟨a, 2, none⟩ (.string (strK q.list ++ D5.strK [b]))) base a ⟨q.st, [], q.list ++ [b], q.mids, q.final, q.text⟩ (L ++ markE q) _ _) := Lib.hid (H2.out.put (q' := ⟨q.st, [], q.list ++ [b], q.mids, q.final, q.text⟩) 2 _ (by rw [show strK q.list ++ D5.strK [b] = strK (q.list ++ [b]) from D5.str_cat q.list b]; rfl) rfl H2.out.st)
  have HF : Hid (RefP w0 ((((w2.setCell ⟨a, 2, none⟩ (.string (strK q.list ++ D5.strK [b]))).setCell ⟨a, 0, none⟩ (.int .i64 (n : Nat))).alloc (.cells #[.int .u8 (b.toNat : Int)] 5)).drew) base a ⟨n, [], q.list ++ [b], q.mids, q.final, q.text⟩ (L ++ markE q) _ _) := Lib.hid (RefP.below (HG.out.put (q' := ⟨n, [], q.list ++ [b], q.mids, q.final, q.text⟩) 0 _ rfl rfl (show (n : Nat) < 14 from HNL.out)) (below_drew ((Below.refl _ _).alloc (Nat.le_refl _) _) 1))
  clear HG
  go_wp2
  go_region
  go_wp2
  (try simp only [Exit.inBlock, Exit.then])
  first | refine bodyPost_ret (results_none rfl _ _ _) rfl ?_ | refine bodyPost_end (results_none rfl _ _ _) rfl ?_
  refine ⟨rfl, A2, c2, ?_, by first | simpa using z2.out | (have := z2.out; simp; omega)⟩
  rw [HE.out]
  have := HF.out
  simpa [doE, List.append_assoc] using this

set_option maxRecDepth 100000 in
set_option maxHeartbeats 4000000 in
theorem bw_t_same {w0 w : World} {base a : Nat} {q : Q} {L : List EV} {A : Option Addr} {c : Nat} (h : RefP w0 w base a q L A c) (hS : Small q L) (b : UInt8) (ha : actN q.st b.toNat = 8) (hn : toN q.st b.toNat = q.st) :
    Calls Tryd.prog 18 #[.pointer (some ⟨a, 0, none⟩), .int .u8 (b.toNat : Int)] w (RefStep w0 w base a (stepE q b).2 (L ++ (stepE q b).1)) := by
  have E := step_of q b 8 q.st false false ha hn (by decide) (by simp [endsN]) (by simp [clearsN])
  have HN := Lib.hid (next_is q h.st b 8 q.st ha hn)
  have c0 : w.cell? ⟨a, 0, none⟩ = some (.int .i64 (q.st : Nat)) := by rw [cell_at h.blk]; simp [cellsQ]
  have HE := Lib.hid E
  have HST := Lib.hid hS
  have HH := Lib.hid h
  clear h hS ha hn E
  go_enter Tryd.func18, Tryd.ntmps18
  go_wp2_with fail
  refine (show Calls _ _ _ _ _ from HN.out w).mono ?_
  rintro e w1 ⟨rfl, hb⟩
  have H1 := Lib.hid (HH.out.below hb)
  have z1 := Lib.hid hb.size
  clear hb HH HN c0
  go_wp2_with fail
  refine (End_any H1.out (by have := HST.out.told; omega)).mono ?_
  rintro e w2 ⟨rfl, A2, c2, hR, hz⟩
  have z2 := Lib.hid (Nat.le_trans z1.out hz)
  have c0 : w2.cell? ⟨a, 0, none⟩ = some (.int .i64 (q.st : Nat)) := by rw [cell_at hR.blk]; simp [cellsQ]
  have H2 := Lib.hid hR
  clear hR hz H1 z1
  have y0 : w2.frozen? ⟨a, 0, none⟩ = false := free_at H2.out.blk 0
  have hl : a < w2.heap.size := H2.out.lt
  have cf : w2.cell? ⟨a, 5, none⟩ = some (.string (strK q.text)) := by rw [cell_at H2.out.blk]; rfl
  have yf : w2.frozen? ⟨a, 5, none⟩ = false := free_at H2.out.blk 5
  have hct := D5.byte_text (w2.alloc (.cells #[.int .u8 (b.toNat : Int)] 5)).drew w2.heap.size b _ rfl (by simp)
  have n1 : ¬ 9223372036854775807 < (strK q.text).size + (D5.strK [b]).size := by
    have h2 : (D5.strK [b]).size = 1 := rfl
    have := HST.out.text
    rw [strK_size, h2]
    omega
  have HG : Hid (RefP w0 (w2.setCell ⟨a, 5, none⟩ (.string (strK q.text ++ D5.strK [b]))) base a ⟨q.st, [], q.list, q.mids, q.final, q.text ++ [b]⟩ (L ++ markE q) _ _) := Lib.hid (H2.out.put (q' := ⟨q.st, [], q.list, q.mids, q.final, q.text ++ [b]⟩) 5 _ (by rw [show strK q.text ++ D5.strK [b] = strK (q.text ++ [b]) from D5.str_cat q.text b]; rfl) rfl H2.out.st)
  have HF : Hid (RefP w0 ((((w2.setCell ⟨a, 5, none⟩ (.string (strK q.text ++ D5.strK [b]))).setCell ⟨a, 0, none⟩ (.int .i64 (q.st : Nat))).alloc (.cells #[.int .u8 (b.toNat : Int)] 5)).drew) base a ⟨q.st, [], q.list, q.mids, q.final, q.text ++ [b]⟩ (L ++ markE q) _ _) := Lib.hid (RefP.below (HG.out.put (q' := ⟨q.st, [], q.list, q.mids, q.final, q.text ++ [b]⟩) 0 _ rfl rfl (show (q.st : Nat) < 14 from H2.out.st)) (below_drew ((Below.refl _ _).alloc (Nat.le_refl _) _) 1))
  clear HG
  go_wp2
  go_region
  go_wp2
  (try simp only [Exit.inBlock, Exit.then])
  first | refine bodyPost_ret (results_none rfl _ _ _) rfl ?_ | refine bodyPost_end (results_none rfl _ _ _) rfl ?_
  refine ⟨rfl, A2, c2, ?_, by first | simpa using z2.out | (have := z2.out; simp; omega)⟩
  rw [HE.out]
  have := HF.out
  simpa [doE, List.append_assoc] using this

end Go.Proofs.YtfekjlajagoooaaDoor

/-! ## Layer 8: the document's Byte: Esc and Csi (written by gen_evd.py with PART=2). -/
namespace Go.Proofs.YtfekjlajagoooaaDoor
open Go.RowKit Ev

set_option maxRecDepth 100000 in
set_option maxHeartbeats 4000000 in
theorem bw_e_t1 {w0 w : World} {base a : Nat} {q : Q} {L : List EV} {A : Option Addr} {c : Nat} (h : RefP w0 w base a q L A c) (hS : Small q L) (b : UInt8) (hne : q.st ≠ 0) (s10 : q.st ≠ 10) (s12 : q.st ≠ 12) (m2 : q.mids.length ≤ 2) (b92 : b.toNat ≠ 92) (ha : actN q.st b.toNat = 5) (hn : toN q.st b.toNat = 0) :
    Calls Tryd.prog 18 #[.pointer (some ⟨a, 0, none⟩), .int .u8 (b.toNat : Int)] w (RefStep w0 w base a (stepE q b).2 (L ++ (stepE q b).1)) := by
  have E := step_of q b 5 0 false false ha hn (by decide) (by simp [endsN, s10, s12]) (by simp [clearsN])
  have HN := Lib.hid (next_is q h.st b 5 0 ha hn)
  have c0 : w.cell? ⟨a, 0, none⟩ = some (.int .i64 (q.st : Nat)) := by rw [cell_at h.blk]; simp [cellsQ]
  have HE := Lib.hid E
  have HST := Lib.hid hS
  have HH := Lib.hid h
  have e1 : ((0 : Int) != (q.st : Int)) = true := by simp; omega
  have e2 : ((q.st : Int) == 10) = false := by simp; omega
  have e3 : ((q.st : Int) == 12) = false := by simp; omega
  have g1 : decide (((strK q.mids).size : Int) ≤ 2) = true := by rw [strK_size]; simp; omega
  have g2 : ((b.toNat : Int) != 92) = true := by simp; omega
  have HDO := Lib.hid (mids_esc q b ⟨m2, Or.inl b92⟩ ⟨q.st, [], q.list, q.mids, q.final, q.text⟩ rfl)
  clear h hS ha hn E hne s10 s12 m2 b92
  go_enter Tryd.func18, Tryd.ntmps18
  go_wp2_with fail
  refine (show Calls _ _ _ _ _ from HN.out w).mono ?_
  rintro e w1 ⟨rfl, hb⟩
  have H1 := Lib.hid (HH.out.below hb)
  have z1 := Lib.hid hb.size
  clear hb HH HN c0
  go_wp2_with fail
  refine (End_any H1.out (by have := HST.out.told; omega)).mono ?_
  rintro e w2 ⟨rfl, A2, c2, hR, hz⟩
  have z2 := Lib.hid (Nat.le_trans z1.out hz)
  have c0 : w2.cell? ⟨a, 0, none⟩ = some (.int .i64 (q.st : Nat)) := by rw [cell_at hR.blk]; simp [cellsQ]
  have H2 := Lib.hid hR
  clear hR hz H1 z1
  have y0 : w2.frozen? ⟨a, 0, none⟩ = false := free_at H2.out.blk 0
  have c3 : w2.cell? ⟨a, 3, none⟩ = some (.string (strK q.mids)) := by rw [cell_at H2.out.blk]; rfl
  obtain ⟨i0, hi, hz0, hz1, hz2⟩ := info_parts info_ev
  have HI := Lib.hid hi; have HZ0 := Lib.hid hz0; have HZ1 := Lib.hid hz1; have HZ2 := Lib.hid hz2
  obtain ⟨m, hm⟩ : ∃ m, m = (L ++ markE q).length := ⟨_, rfl⟩
  have c6 : w2.cell? ⟨a, 6, none⟩ = some (.slice A2 m c2) := by rw [cell_at H2.out.blk, hm]; rfl
  have hm1 : m ≤ 1000000 := by rw [hm]; have := HST.out.told; have := mark_len q; simp; omega
  have hla : a < w2.heap.size := H2.out.lt
  obtain ⟨ls, hls, hown0⟩ := tell_own H2.out (.cells #[.int .i64 3, .int .i32 0, .int .u8 (b.toNat : Int), .string (strK q.mids), .slice none 0 0, .string ⟨#[]⟩] 89)
  rw [← hm] at hown0
  have HO := Lib.hid hown0
  have kb := build_esc (b.toNat : Int) (strK q.mids)
  have HB : Hid (base ≤ w2.heap.size) := Lib.hid H2.out.sz
  have HCU := Lib.hid (tell_block H2.out hm (.cells #[.int .i64 3, .int .i32 0, .int .u8 (b.toNat : Int), .string (strK q.mids), .slice none 0 0, .string ⟨#[]⟩] 89))
  have HD := Lib.hid (tell_done H2.out hls hm (.cells #[.int .i64 3, .int .i32 0, .int .u8 (b.toNat : Int), .string (strK q.mids), .slice none 0 0, .string ⟨#[]⟩] 89) ⟨3, 0, b.toNat, q.mids, [], []⟩ [.int .i64 3, .int .i32 0, .int .u8 (b.toNat : Int), .string (strK q.mids), .slice none 0 0, .string ⟨#[]⟩] ⟨none, 0, rfl, fun h => absurd h (by simp)⟩)
  have HA : Hid (∃ C t, w2.heap[a]? = some (.cells C t (0, 0)) ∧ 6 < C.size) := Lib.hid ⟨_, _, H2.out.blk, by simp [cellsQ]⟩
  generalize strK q.mids = M at *
  clear hi hz0 hz1 hz2 hls hown0 hm
  go_wp2
  go_region_law (refine step_append_lies _ rfl (.tmp 157) (.tmp 164) 36 rfl base 89 i0 zeroEv 6 72 Tryd.underlying36 HI.out HZ0.out HZ1.out HZ2.out rfl (by decide) (.slice A2 m c2) m _ (by simp [Act.eval]) HO.out ⟨w2.heap.size, 0, none⟩ 1 1 [.int .i64 3, .int .i32 0, .int .u8 (b.toNat : Int), .string (M), .slice none 0 0, .string ⟨#[]⟩] (by simp [Act.eval]) rfl (one_cells w2 _ _) (by intro u hu; simp at hu; rcases hu with rfl | rfl | rfl | rfl | rfl | rfl <;> rfl) (by omega) (by unfold maxLen; omega) (by omega) (by have := HB.out; simp; omega) _ rfl ?_; intro g c' w5 hown hgrow hat hlt5; have hblk := HCU.out w5 hgrow; obtain ⟨u5, cu5⟩ := cell_kept HA.out hblk; have fu5 := free_kept HA.out hblk; have x0 := (World.cell?_of_block (w := w2) (a := ⟨a, 0, none⟩) hblk).trans c0; have v0 := (World.frozen?_of_block (w := w2) (a := ⟨a, 0, none⟩) hblk).trans y0; have HOW5 := Lib.hid hown; have HGR := Lib.hid hgrow; clear hown hgrow hat hlt5 hblk)
  all_goals
    go_wp2
    (try simp only [Exit.inBlock, Exit.then])
    first | refine bodyPost_ret (results_none rfl _ _ _) rfl ?_ | refine bodyPost_end (results_none rfl _ _ _) rfl ?_
    have := fin_step ((HD.out _ _ _ HOW5.out HGR.out).from_ z2.out) 0 (by decide)
    rw [HE.out]
    simpa [HDO.out, List.append_assoc] using this

set_option maxRecDepth 100000 in
set_option maxHeartbeats 4000000 in
theorem bw_e_t2 {w0 w : World} {base a : Nat} {q : Q} {L : List EV} {A : Option Addr} {c : Nat} (h : RefP w0 w base a q L A c) (hS : Small q L) (b : UInt8) (hne : q.st ≠ 0) (s10 : q.st ≠ 10) (s12 : q.st ≠ 12) (m2 : q.mids.length ≤ 2) (b92 : b.toNat = 92) (m0 : q.mids ≠ []) (ha : actN q.st b.toNat = 5) (hn : toN q.st b.toNat = 0) :
    Calls Tryd.prog 18 #[.pointer (some ⟨a, 0, none⟩), .int .u8 (b.toNat : Int)] w (RefStep w0 w base a (stepE q b).2 (L ++ (stepE q b).1)) := by
  have E := step_of q b 5 0 false false ha hn (by decide) (by simp [endsN, s10, s12]) (by simp [clearsN])
  have HN := Lib.hid (next_is q h.st b 5 0 ha hn)
  have c0 : w.cell? ⟨a, 0, none⟩ = some (.int .i64 (q.st : Nat)) := by rw [cell_at h.blk]; simp [cellsQ]
  have HE := Lib.hid E
  have HST := Lib.hid hS
  have HH := Lib.hid h
  have e1 : ((0 : Int) != (q.st : Int)) = true := by simp; omega
  have e2 : ((q.st : Int) == 10) = false := by simp; omega
  have e3 : ((q.st : Int) == 12) = false := by simp; omega
  have g1 : decide (((strK q.mids).size : Int) ≤ 2) = true := by rw [strK_size]; simp; omega
  have g2 : ((b.toNat : Int) != 92) = false := by simp; omega
  have g3 : (strK q.mids).toList.isEmpty = false := D5.str_some m0
  have HDO := Lib.hid (mids_esc q b ⟨m2, Or.inr m0⟩ ⟨q.st, [], q.list, q.mids, q.final, q.text⟩ rfl)
  clear h hS ha hn E hne s10 s12 m2 b92 m0
  go_enter Tryd.func18, Tryd.ntmps18
  go_wp2_with fail
  refine (show Calls _ _ _ _ _ from HN.out w).mono ?_
  rintro e w1 ⟨rfl, hb⟩
  have H1 := Lib.hid (HH.out.below hb)
  have z1 := Lib.hid hb.size
  clear hb HH HN c0
  go_wp2_with fail
  refine (End_any H1.out (by have := HST.out.told; omega)).mono ?_
  rintro e w2 ⟨rfl, A2, c2, hR, hz⟩
  have z2 := Lib.hid (Nat.le_trans z1.out hz)
  have c0 : w2.cell? ⟨a, 0, none⟩ = some (.int .i64 (q.st : Nat)) := by rw [cell_at hR.blk]; simp [cellsQ]
  have H2 := Lib.hid hR
  clear hR hz H1 z1
  have y0 : w2.frozen? ⟨a, 0, none⟩ = false := free_at H2.out.blk 0
  have c3 : w2.cell? ⟨a, 3, none⟩ = some (.string (strK q.mids)) := by rw [cell_at H2.out.blk]; rfl
  obtain ⟨i0, hi, hz0, hz1, hz2⟩ := info_parts info_ev
  have HI := Lib.hid hi; have HZ0 := Lib.hid hz0; have HZ1 := Lib.hid hz1; have HZ2 := Lib.hid hz2
  obtain ⟨m, hm⟩ : ∃ m, m = (L ++ markE q).length := ⟨_, rfl⟩
  have c6 : w2.cell? ⟨a, 6, none⟩ = some (.slice A2 m c2) := by rw [cell_at H2.out.blk, hm]; rfl
  have hm1 : m ≤ 1000000 := by rw [hm]; have := HST.out.told; have := mark_len q; simp; omega
  have hla : a < w2.heap.size := H2.out.lt
  obtain ⟨ls, hls, hown0⟩ := tell_own H2.out (.cells #[.int .i64 3, .int .i32 0, .int .u8 (b.toNat : Int), .string (strK q.mids), .slice none 0 0, .string ⟨#[]⟩] 89)
  rw [← hm] at hown0
  have HO := Lib.hid hown0
  have kb := build_esc (b.toNat : Int) (strK q.mids)
  have HB : Hid (base ≤ w2.heap.size) := Lib.hid H2.out.sz
  have HCU := Lib.hid (tell_block H2.out hm (.cells #[.int .i64 3, .int .i32 0, .int .u8 (b.toNat : Int), .string (strK q.mids), .slice none 0 0, .string ⟨#[]⟩] 89))
  have HD := Lib.hid (tell_done H2.out hls hm (.cells #[.int .i64 3, .int .i32 0, .int .u8 (b.toNat : Int), .string (strK q.mids), .slice none 0 0, .string ⟨#[]⟩] 89) ⟨3, 0, b.toNat, q.mids, [], []⟩ [.int .i64 3, .int .i32 0, .int .u8 (b.toNat : Int), .string (strK q.mids), .slice none 0 0, .string ⟨#[]⟩] ⟨none, 0, rfl, fun h => absurd h (by simp)⟩)
  have HA : Hid (∃ C t, w2.heap[a]? = some (.cells C t (0, 0)) ∧ 6 < C.size) := Lib.hid ⟨_, _, H2.out.blk, by simp [cellsQ]⟩
  generalize strK q.mids = M at *
  clear hi hz0 hz1 hz2 hls hown0 hm
  go_wp2
  go_region_law (refine step_append_lies _ rfl (.tmp 157) (.tmp 164) 36 rfl base 89 i0 zeroEv 6 72 Tryd.underlying36 HI.out HZ0.out HZ1.out HZ2.out rfl (by decide) (.slice A2 m c2) m _ (by simp [Act.eval]) HO.out ⟨w2.heap.size, 0, none⟩ 1 1 [.int .i64 3, .int .i32 0, .int .u8 (b.toNat : Int), .string (M), .slice none 0 0, .string ⟨#[]⟩] (by simp [Act.eval]) rfl (one_cells w2 _ _) (by intro u hu; simp at hu; rcases hu with rfl | rfl | rfl | rfl | rfl | rfl <;> rfl) (by omega) (by unfold maxLen; omega) (by omega) (by have := HB.out; simp; omega) _ rfl ?_; intro g c' w5 hown hgrow hat hlt5; have hblk := HCU.out w5 hgrow; obtain ⟨u5, cu5⟩ := cell_kept HA.out hblk; have fu5 := free_kept HA.out hblk; have x0 := (World.cell?_of_block (w := w2) (a := ⟨a, 0, none⟩) hblk).trans c0; have v0 := (World.frozen?_of_block (w := w2) (a := ⟨a, 0, none⟩) hblk).trans y0; have HOW5 := Lib.hid hown; have HGR := Lib.hid hgrow; clear hown hgrow hat hlt5 hblk)
  all_goals
    go_wp2
    (try simp only [Exit.inBlock, Exit.then])
    first | refine bodyPost_ret (results_none rfl _ _ _) rfl ?_ | refine bodyPost_end (results_none rfl _ _ _) rfl ?_
    have := fin_step ((HD.out _ _ _ HOW5.out HGR.out).from_ z2.out) 0 (by decide)
    rw [HE.out]
    simpa [HDO.out, List.append_assoc] using this

set_option maxRecDepth 100000 in
set_option maxHeartbeats 4000000 in
theorem bw_e_n1 {w0 w : World} {base a : Nat} {q : Q} {L : List EV} {A : Option Addr} {c : Nat} (h : RefP w0 w base a q L A c) (hS : Small q L) (b : UInt8) (hne : q.st ≠ 0) (s10 : q.st ≠ 10) (s12 : q.st ≠ 12) (m2 : ¬ q.mids.length ≤ 2) (ha : actN q.st b.toNat = 5) (hn : toN q.st b.toNat = 0) :
    Calls Tryd.prog 18 #[.pointer (some ⟨a, 0, none⟩), .int .u8 (b.toNat : Int)] w (RefStep w0 w base a (stepE q b).2 (L ++ (stepE q b).1)) := by
  have E := step_of q b 5 0 false false ha hn (by decide) (by simp [endsN, s10, s12]) (by simp [clearsN])
  have HN := Lib.hid (next_is q h.st b 5 0 ha hn)
  have c0 : w.cell? ⟨a, 0, none⟩ = some (.int .i64 (q.st : Nat)) := by rw [cell_at h.blk]; simp [cellsQ]
  have HE := Lib.hid E
  have HST := Lib.hid hS
  have HH := Lib.hid h
  have e1 : ((0 : Int) != (q.st : Int)) = true := by simp; omega
  have e2 : ((q.st : Int) == 10) = false := by simp; omega
  have e3 : ((q.st : Int) == 12) = false := by simp; omega
  have g1 : decide (((strK q.mids).size : Int) ≤ 2) = false := by rw [strK_size]; simp; omega
  have HDO := Lib.hid (mids_esc_no q b (fun h => m2 h.1) ⟨q.st, [], q.list, q.mids, q.final, q.text⟩ rfl)
  clear h hS ha hn E hne s10 s12 m2
  go_enter Tryd.func18, Tryd.ntmps18
  go_wp2_with fail
  refine (show Calls _ _ _ _ _ from HN.out w).mono ?_
  rintro e w1 ⟨rfl, hb⟩
  have H1 := Lib.hid (HH.out.below hb)
  have z1 := Lib.hid hb.size
  clear hb HH HN c0
  go_wp2_with fail
  refine (End_any H1.out (by have := HST.out.told; omega)).mono ?_
  rintro e w2 ⟨rfl, A2, c2, hR, hz⟩
  have z2 := Lib.hid (Nat.le_trans z1.out hz)
  have c0 : w2.cell? ⟨a, 0, none⟩ = some (.int .i64 (q.st : Nat)) := by rw [cell_at hR.blk]; simp [cellsQ]
  have H2 := Lib.hid hR
  clear hR hz H1 z1
  have y0 : w2.frozen? ⟨a, 0, none⟩ = false := free_at H2.out.blk 0
  have c3 : w2.cell? ⟨a, 3, none⟩ = some (.string (strK q.mids)) := by rw [cell_at H2.out.blk]; rfl
  have HF : Hid (RefP w0 (w2.setCell ⟨a, 0, none⟩ (.int .i64 (0 : Nat))) base a ⟨0, [], q.list, q.mids, q.final, q.text⟩ (L ++ markE q) _ _) := Lib.hid (H2.out.put (q' := ⟨0, [], q.list, q.mids, q.final, q.text⟩) 0 _ rfl rfl (show (0 : Nat) < 14 from by decide))
  go_wp2
  (try simp only [Exit.inBlock, Exit.then])
  first | refine bodyPost_ret (results_none rfl _ _ _) rfl ?_ | refine bodyPost_end (results_none rfl _ _ _) rfl ?_
  refine ⟨rfl, A2, c2, ?_, by simpa using z2.out⟩
  rw [HE.out]
  simp only [Bool.false_eq_true, if_false, HDO.out, List.append_nil]
  exact HF.out

set_option maxRecDepth 100000 in
set_option maxHeartbeats 4000000 in
theorem bw_e_n2 {w0 w : World} {base a : Nat} {q : Q} {L : List EV} {A : Option Addr} {c : Nat} (h : RefP w0 w base a q L A c) (hS : Small q L) (b : UInt8) (hne : q.st ≠ 0) (s10 : q.st ≠ 10) (s12 : q.st ≠ 12) (m2 : q.mids.length ≤ 2) (b92 : b.toNat = 92) (m0 : q.mids = []) (ha : actN q.st b.toNat = 5) (hn : toN q.st b.toNat = 0) :
    Calls Tryd.prog 18 #[.pointer (some ⟨a, 0, none⟩), .int .u8 (b.toNat : Int)] w (RefStep w0 w base a (stepE q b).2 (L ++ (stepE q b).1)) := by
  have E := step_of q b 5 0 false false ha hn (by decide) (by simp [endsN, s10, s12]) (by simp [clearsN])
  have HN := Lib.hid (next_is q h.st b 5 0 ha hn)
  have c0 : w.cell? ⟨a, 0, none⟩ = some (.int .i64 (q.st : Nat)) := by rw [cell_at h.blk]; simp [cellsQ]
  have HE := Lib.hid E
  have HST := Lib.hid hS
  have HH := Lib.hid h
  have e1 : ((0 : Int) != (q.st : Int)) = true := by simp; omega
  have e2 : ((q.st : Int) == 10) = false := by simp; omega
  have e3 : ((q.st : Int) == 12) = false := by simp; omega
  have g1 : decide (((strK q.mids).size : Int) ≤ 2) = true := by rw [strK_size]; simp; omega
  have g2 : ((b.toNat : Int) != 92) = false := by simp; omega
  have g3 : (strK q.mids).toList.isEmpty = true := by rw [m0]; exact D5.str_none
  have HDO := Lib.hid (mids_esc_no q b (fun h => h.2.elim (fun x => x b92) (fun x => x m0)) ⟨q.st, [], q.list, q.mids, q.final, q.text⟩ rfl)
  clear h hS ha hn E hne s10 s12 m2 b92 m0
  go_enter Tryd.func18, Tryd.ntmps18
  go_wp2_with fail
  refine (show Calls _ _ _ _ _ from HN.out w).mono ?_
  rintro e w1 ⟨rfl, hb⟩
  have H1 := Lib.hid (HH.out.below hb)
  have z1 := Lib.hid hb.size
  clear hb HH HN c0
  go_wp2_with fail
  refine (End_any H1.out (by have := HST.out.told; omega)).mono ?_
  rintro e w2 ⟨rfl, A2, c2, hR, hz⟩
  have z2 := Lib.hid (Nat.le_trans z1.out hz)
  have c0 : w2.cell? ⟨a, 0, none⟩ = some (.int .i64 (q.st : Nat)) := by rw [cell_at hR.blk]; simp [cellsQ]
  have H2 := Lib.hid hR
  clear hR hz H1 z1
  have y0 : w2.frozen? ⟨a, 0, none⟩ = false := free_at H2.out.blk 0
  have c3 : w2.cell? ⟨a, 3, none⟩ = some (.string (strK q.mids)) := by rw [cell_at H2.out.blk]; rfl
  have HF : Hid (RefP w0 (w2.setCell ⟨a, 0, none⟩ (.int .i64 (0 : Nat))) base a ⟨0, [], q.list, q.mids, q.final, q.text⟩ (L ++ markE q) _ _) := Lib.hid (H2.out.put (q' := ⟨0, [], q.list, q.mids, q.final, q.text⟩) 0 _ rfl rfl (show (0 : Nat) < 14 from by decide))
  go_wp2
  (try simp only [Exit.inBlock, Exit.then])
  first | refine bodyPost_ret (results_none rfl _ _ _) rfl ?_ | refine bodyPost_end (results_none rfl _ _ _) rfl ?_
  refine ⟨rfl, A2, c2, ?_, by simpa using z2.out⟩
  rw [HE.out]
  simp only [Bool.false_eq_true, if_false, HDO.out, List.append_nil]
  exact HF.out

set_option maxRecDepth 100000 in
set_option maxHeartbeats 4000000 in
theorem bw_s_n1 {w0 w : World} {base a : Nat} {q : Q} {L : List EV} {A : Option Addr} {c : Nat} (h : RefP w0 w base a q L A c) (hS : Small q L) (b : UInt8) (hne : q.st ≠ 0) (s10 : q.st ≠ 10) (s12 : q.st ≠ 12) (m2 : ¬ q.mids.length ≤ 2) (ha : actN q.st b.toNat = 6) (hn : toN q.st b.toNat = 0) :
    Calls Tryd.prog 18 #[.pointer (some ⟨a, 0, none⟩), .int .u8 (b.toNat : Int)] w (RefStep w0 w base a (stepE q b).2 (L ++ (stepE q b).1)) := by
  have E := step_of q b 6 0 false false ha hn (by decide) (by simp [endsN, s10, s12]) (by simp [clearsN])
  have HN := Lib.hid (next_is q h.st b 6 0 ha hn)
  have c0 : w.cell? ⟨a, 0, none⟩ = some (.int .i64 (q.st : Nat)) := by rw [cell_at h.blk]; simp [cellsQ]
  have HE := Lib.hid E
  have HST := Lib.hid hS
  have HH := Lib.hid h
  have e1 : ((0 : Int) != (q.st : Int)) = true := by simp; omega
  have e2 : ((q.st : Int) == 10) = false := by simp; omega
  have e3 : ((q.st : Int) == 12) = false := by simp; omega
  have g1 : decide (((strK q.mids).size : Int) ≤ 2) = false := by rw [strK_size]; simp; omega
  have HDO := Lib.hid (mids_csi_no q b m2 ⟨q.st, [], q.list, q.mids, q.final, q.text⟩ rfl)
  clear h hS ha hn E hne s10 s12 m2
  go_enter Tryd.func18, Tryd.ntmps18
  go_wp2_with fail
  refine (show Calls _ _ _ _ _ from HN.out w).mono ?_
  rintro e w1 ⟨rfl, hb⟩
  have H1 := Lib.hid (HH.out.below hb)
  have z1 := Lib.hid hb.size
  clear hb HH HN c0
  go_wp2_with fail
  refine (End_any H1.out (by have := HST.out.told; omega)).mono ?_
  rintro e w2 ⟨rfl, A2, c2, hR, hz⟩
  have z2 := Lib.hid (Nat.le_trans z1.out hz)
  have c0 : w2.cell? ⟨a, 0, none⟩ = some (.int .i64 (q.st : Nat)) := by rw [cell_at hR.blk]; simp [cellsQ]
  have H2 := Lib.hid hR
  clear hR hz H1 z1
  have y0 : w2.frozen? ⟨a, 0, none⟩ = false := free_at H2.out.blk 0
  have c3 : w2.cell? ⟨a, 3, none⟩ = some (.string (strK q.mids)) := by rw [cell_at H2.out.blk]; rfl
  have HF : Hid (RefP w0 (w2.setCell ⟨a, 0, none⟩ (.int .i64 (0 : Nat))) base a ⟨0, [], q.list, q.mids, q.final, q.text⟩ (L ++ markE q) _ _) := Lib.hid (H2.out.put (q' := ⟨0, [], q.list, q.mids, q.final, q.text⟩) 0 _ rfl rfl (show (0 : Nat) < 14 from by decide))
  go_wp2
  (try simp only [Exit.inBlock, Exit.then])
  first | refine bodyPost_ret (results_none rfl _ _ _) rfl ?_ | refine bodyPost_end (results_none rfl _ _ _) rfl ?_
  refine ⟨rfl, A2, c2, ?_, by simpa using z2.out⟩
  rw [HE.out]
  simp only [Bool.false_eq_true, if_false, HDO.out, List.append_nil]
  exact HF.out

set_option maxRecDepth 100000 in
set_option maxHeartbeats 4000000 in
theorem bw_s_y {w0 w : World} {base a : Nat} {q : Q} {L : List EV} {A : Option Addr} {c : Nat} (h : RefP w0 w base a q L A c) (hS : Small q L) (b : UInt8) (hne : q.st ≠ 0) (s10 : q.st ≠ 10) (s12 : q.st ≠ 12) (m2 : q.mids.length ≤ 2) (ha : actN q.st b.toNat = 6) (hn : toN q.st b.toNat = 0) :
    Calls Tryd.prog 18 #[.pointer (some ⟨a, 0, none⟩), .int .u8 (b.toNat : Int)] w (RefStep w0 w base a (stepE q b).2 (L ++ (stepE q b).1)) := by
  have E := step_of q b 6 0 false false ha hn (by decide) (by simp [endsN, s10, s12]) (by simp [clearsN])
  have HN := Lib.hid (next_is q h.st b 6 0 ha hn)
  have c0 : w.cell? ⟨a, 0, none⟩ = some (.int .i64 (q.st : Nat)) := by rw [cell_at h.blk]; simp [cellsQ]
  have HE := Lib.hid E
  have HST := Lib.hid hS
  have HH := Lib.hid h
  have e1 : ((0 : Int) != (q.st : Int)) = true := by simp; omega
  have e2 : ((q.st : Int) == 10) = false := by simp; omega
  have e3 : ((q.st : Int) == 12) = false := by simp; omega
  have g1 : decide (((strK q.mids).size : Int) ≤ 2) = true := by rw [strK_size]; simp; omega
  have HDO := Lib.hid (mids_csi q b m2 ⟨q.st, [], q.list, q.mids, q.final, q.text⟩ rfl rfl)
  clear h hS ha hn E hne s10 s12 m2
  go_enter Tryd.func18, Tryd.ntmps18
  go_wp2_with fail
  refine (show Calls _ _ _ _ _ from HN.out w).mono ?_
  rintro e w1 ⟨rfl, hb⟩
  have H1 := Lib.hid (HH.out.below hb)
  have z1 := Lib.hid hb.size
  clear hb HH HN c0
  go_wp2_with fail
  refine (End_any H1.out (by have := HST.out.told; omega)).mono ?_
  rintro e w2 ⟨rfl, A2, c2, hR, hz⟩
  have z2 := Lib.hid (Nat.le_trans z1.out hz)
  have c0 : w2.cell? ⟨a, 0, none⟩ = some (.int .i64 (q.st : Nat)) := by rw [cell_at hR.blk]; simp [cellsQ]
  have H2 := Lib.hid hR
  clear hR hz H1 z1
  have y0 : w2.frozen? ⟨a, 0, none⟩ = false := free_at H2.out.blk 0
  have c3 : w2.cell? ⟨a, 3, none⟩ = some (.string (strK q.mids)) := by rw [cell_at H2.out.blk]; rfl
  obtain ⟨i0, hi, hz0, hz1, hz2⟩ := info_parts info_ev
  have HI := Lib.hid hi; have HZ0 := Lib.hid hz0; have HZ1 := Lib.hid hz1; have HZ2 := Lib.hid hz2
  obtain ⟨m, hm⟩ : ∃ m, m = (L ++ markE q).length := ⟨_, rfl⟩
  have c6 : w2.cell? ⟨a, 6, none⟩ = some (.slice A2 m c2) := by rw [cell_at H2.out.blk, hm]; rfl
  have hm1 : m ≤ 1000000 := by rw [hm]; have := HST.out.told; have := mark_len q; simp; omega
  have hla : a < w2.heap.size := H2.out.lt
  have HF0 := (dcs_facts H2.out hm 4 b.toNat q.mids []).out
  simp only at HF0
  have HF := Lib.hid HF0
  clear HF0
  have HC : Hid (∀ w', Below w2.heap.size w2 w' → w'.cell? ⟨a, 0, none⟩ = some (.int .i64 (q.st : Nat)) ∧ w'.cell? ⟨a, 2, none⟩ = some (.string (strK q.list)) ∧ w'.cell? ⟨a, 3, none⟩ = some (.string (strK q.mids)) ∧ w'.cell? ⟨a, 6, none⟩ = some (.slice A2 m c2) ∧ w'.frozen? ⟨a, 0, none⟩ = false) := Lib.hid (fun w' hw => by
    have h' := RefP.below H2.out hw
    rw [hm]
    exact ⟨by rw [cell_at h'.blk]; rfl, by rw [cell_at h'.blk]; rfl, by rw [cell_at h'.blk]; rfl, by rw [cell_at h'.blk]; rfl, free_at h'.blk 0⟩)
  obtain ⟨_, c2', _, _, _⟩ := HC.out w2 (Below.refl _ _)
  have HAll : Hid (Calls Tryd.prog 40 #[.string (strK q.list)] w2.drew (P7.RefPost w2.drew (P7.Par.parsV q.list))) := Lib.hid (P7.ref_any (strK q.list) q.list (by simp [strK, D5.strK]) (by have := HST.out.list; rw [strK_size]; omega) w2.drew)
  have kb := build_csi (b.toNat : Int) (strK q.mids)
  have HDE := Lib.hid (show ∀ R, RefStep w0 w2 base a ⟨q.st, [], q.list, q.mids, q.final, q.text⟩ (L ++ markE q ++ [⟨4, 0, b.toNat, q.mids, P7.Par.parsV q.list, []⟩]) (.returned (.tuple #[])) R → RefStep w0 w base a (stepE q b).2 (L ++ (stepE q b).1) (.returned (.tuple #[])) (R.setCell ⟨a, 0, none⟩ (.int .i64 ((0 : Nat) : Int))) from fun R hR => by
    have := fin_step (hR.from_ z2.out) 0 (by decide)
    rw [HE.out]
    simpa [HDO.out, List.append_assoc] using this)
  clear HE HDO hi hz0 hz1 hz2 hm
  generalize (P7.Par.parsV q.list) = V at *
  generalize strK q.list = S at *
  generalize strK q.mids = M at *
  go_wp2
  refine wp_region_held_drew (S := (fun w' => w'.cell? ⟨a, 2, none⟩ = some (.string S) ∧ w'.cell? ⟨a, 3, none⟩ = some (.string M))) (by kernel_rfl) ?_ (fun hHeld => ?_)
  · (try dsimp only) <;> (first | go_keep | exact ⟨k2, k3⟩ | exact ⟨x2, x3⟩ | exact ⟨(oth 2 (by decide)).trans x2, (oth 3 (by decide)).trans x3⟩)
  refine wpAnyH_take (i := 0) (oi := { dst := some 176, op := Op.move (Operand.tmp 0), type := 33, pos := "ref.go:90", after := #[], guard := none }) (v := ?_) rfl (by kernel_rfl) (by kernel_rfl) (by kernel_rfl) (fun _ _ _ h => h) (Or.inl ⟨by rfl, ?_⟩) (by assumption) ?_
  rotate_left
  · intro w hSw
    try dsimp only at hSw
    go_simp <;> with_reducible rfl
  try simp only [Act.put, List.setIfInBounds_toArray, List.set_cons_zero, List.set_cons_succ]
  refine wpAnyH_take (i := 1) (oi := { dst := some 177, op := Op.move (Operand.tmp 0), type := 33, pos := "ref.go:90", after := #[], guard := none }) (v := ?_) rfl (by kernel_rfl) (by kernel_rfl) (by kernel_rfl) (fun _ _ _ h => h) (Or.inl ⟨by rfl, ?_⟩) (by assumption) ?_
  rotate_left
  · intro w hSw
    try dsimp only at hSw
    go_simp <;> with_reducible rfl
  try simp only [Act.put, List.setIfInBounds_toArray, List.set_cons_zero, List.set_cons_succ]
  refine wpAnyH_take (i := 2) (oi := { dst := some 178, op := Op.nilCheck (Operand.tmp 177), type := 0, pos := "ref.go:90", after := #[{ on := 1, ground := Ground.data }], guard := none }) (v := ?_) rfl (by kernel_rfl) (by kernel_rfl) (by kernel_rfl) (fun _ _ _ h => h) (Or.inl ⟨by rfl, ?_⟩) (by assumption) ?_
  rotate_left
  · intro w hSw
    try dsimp only at hSw
    go_simp <;> with_reducible rfl
  try simp only [Act.put, List.setIfInBounds_toArray, List.set_cons_zero, List.set_cons_succ]
  refine wpAnyH_take (i := 3) (oi := { dst := some 179, op := Op.fieldAddr 38 (Operand.tmp 178) 6, type := 0, pos := "ref.go:90", after := #[{ on := 2, ground := Ground.data }], guard := none }) (v := ?_) rfl (by kernel_rfl) (by kernel_rfl) (by kernel_rfl) (fun _ _ _ h => h) (Or.inl ⟨by rfl, ?_⟩) (by assumption) ?_
  rotate_left
  · intro w hSw
    try dsimp only at hSw
    go_simp <;> with_reducible rfl
  try simp only [Act.put, List.setIfInBounds_toArray, List.set_cons_zero, List.set_cons_succ]
  refine wpAnyH_take (i := 5) (oi := { dst := some 181, op := Op.move (Operand.tmp 1), type := 5, pos := "ref.go:90", after := #[], guard := none }) (v := ?_) rfl (by kernel_rfl) (by kernel_rfl) (by kernel_rfl) (fun _ _ _ h => h) (Or.inl ⟨by rfl, ?_⟩) (by assumption) ?_
  rotate_left
  · intro w hSw
    try dsimp only at hSw
    go_simp <;> with_reducible rfl
  try simp only [Act.put, List.setIfInBounds_toArray, List.set_cons_zero, List.set_cons_succ]
  refine wpAnyH_take (i := 6) (oi := { dst := some 182, op := Op.move (Operand.tmp 0), type := 33, pos := "ref.go:90", after := #[], guard := none }) (v := ?_) rfl (by kernel_rfl) (by kernel_rfl) (by kernel_rfl) (fun _ _ _ h => h) (Or.inl ⟨by rfl, ?_⟩) (by assumption) ?_
  rotate_left
  · intro w hSw
    try dsimp only at hSw
    go_simp <;> with_reducible rfl
  try simp only [Act.put, List.setIfInBounds_toArray, List.set_cons_zero, List.set_cons_succ]
  refine wpAnyH_take (i := 7) (oi := { dst := some 183, op := Op.nilCheck (Operand.tmp 182), type := 0, pos := "ref.go:90", after := #[{ on := 6, ground := Ground.data }], guard := none }) (v := ?_) rfl (by kernel_rfl) (by kernel_rfl) (by kernel_rfl) (fun _ _ _ h => h) (Or.inl ⟨by rfl, ?_⟩) (by assumption) ?_
  rotate_left
  · intro w hSw
    try dsimp only at hSw
    go_simp <;> with_reducible rfl
  try simp only [Act.put, List.setIfInBounds_toArray, List.set_cons_zero, List.set_cons_succ]
  refine wpAnyH_take (i := 8) (oi := { dst := some 184, op := Op.fieldAddr 38 (Operand.tmp 183) 3, type := 0, pos := "ref.go:90", after := #[{ on := 7, ground := Ground.data }], guard := none }) (v := ?_) rfl (by kernel_rfl) (by kernel_rfl) (by kernel_rfl) (fun _ _ _ h => h) (Or.inl ⟨by rfl, ?_⟩) (by assumption) ?_
  rotate_left
  · intro w hSw
    try dsimp only at hSw
    go_simp <;> with_reducible rfl
  try simp only [Act.put, List.setIfInBounds_toArray, List.set_cons_zero, List.set_cons_succ]
  refine wpAnyH_take (i := 9) (oi := { dst := some 185, op := Op.load 9 (Operand.tmp 184), type := 9, pos := "ref.go:90", after := #[{ on := 8, ground := Ground.data }], guard := none }) (v := ?_) rfl (by kernel_rfl) (by kernel_rfl) (by kernel_rfl) (fun _ _ _ h => h) (Or.inl ⟨by rfl, ?_⟩) (by assumption) ?_
  rotate_left
  · intro w hSw
    try dsimp only at hSw
    go_simp <;> with_reducible rfl
  try simp only [Act.put, List.setIfInBounds_toArray, List.set_cons_zero, List.set_cons_succ]
  refine wpAnyH_take (i := 10) (oi := { dst := some 186, op := Op.move (Operand.tmp 0), type := 33, pos := "ref.go:90", after := #[], guard := none }) (v := ?_) rfl (by kernel_rfl) (by kernel_rfl) (by kernel_rfl) (fun _ _ _ h => h) (Or.inl ⟨by rfl, ?_⟩) (by assumption) ?_
  rotate_left
  · intro w hSw
    try dsimp only at hSw
    go_simp <;> with_reducible rfl
  try simp only [Act.put, List.setIfInBounds_toArray, List.set_cons_zero, List.set_cons_succ]
  refine wpAnyH_take (i := 11) (oi := { dst := some 187, op := Op.nilCheck (Operand.tmp 186), type := 0, pos := "ref.go:90", after := #[{ on := 10, ground := Ground.data }], guard := none }) (v := ?_) rfl (by kernel_rfl) (by kernel_rfl) (by kernel_rfl) (fun _ _ _ h => h) (Or.inl ⟨by rfl, ?_⟩) (by assumption) ?_
  rotate_left
  · intro w hSw
    try dsimp only at hSw
    go_simp <;> with_reducible rfl
  try simp only [Act.put, List.setIfInBounds_toArray, List.set_cons_zero, List.set_cons_succ]
  refine wpAnyH_take (i := 12) (oi := { dst := some 188, op := Op.fieldAddr 38 (Operand.tmp 187) 2, type := 0, pos := "ref.go:90", after := #[{ on := 11, ground := Ground.data }], guard := none }) (v := ?_) rfl (by kernel_rfl) (by kernel_rfl) (by kernel_rfl) (fun _ _ _ h => h) (Or.inl ⟨by rfl, ?_⟩) (by assumption) ?_
  rotate_left
  · intro w hSw
    try dsimp only at hSw
    go_simp <;> with_reducible rfl
  try simp only [Act.put, List.setIfInBounds_toArray, List.set_cons_zero, List.set_cons_succ]
  refine wpAnyH_take (i := 13) (oi := { dst := some 189, op := Op.load 9 (Operand.tmp 188), type := 9, pos := "ref.go:90", after := #[{ on := 12, ground := Ground.data }], guard := none }) (v := ?_) rfl (by kernel_rfl) (by kernel_rfl) (by kernel_rfl) (fun _ _ _ h => h) (Or.inl ⟨by rfl, ?_⟩) (by assumption) ?_
  rotate_left
  · intro w hSw
    try dsimp only at hSw
    go_simp <;> with_reducible rfl
  try simp only [Act.put, List.setIfInBounds_toArray, List.set_cons_zero, List.set_cons_succ]
  refine wpAnyH_ready (rs := [4, 14]) (by kernel_rfl) (by simp) ?_
  refine AllReadyH.cons (o := { dst := some 180, op := Op.load 36 (Operand.tmp 179), type := 36, pos := "ref.go:90", after := #[{ on := 3, ground := Ground.data }], guard := none }) rfl (fun K hK => ?_) ?_
  · skip
    go_simp
    refine hK.out _ _ ?_ (fun hHeld => ?_)
    · (try dsimp only) <;> (first | go_keep | exact ⟨k2, k3⟩ | exact ⟨x2, x3⟩ | exact ⟨(oth 2 (by decide)).trans x2, (oth 3 (by decide)).trans x3⟩)
    clear hK K
    try simp only [Act.put, List.setIfInBounds_toArray, List.set_cons_zero, List.set_cons_succ]
    refine wpAnyH_ready (rs := [14]) (by kernel_rfl) (by simp) ?_
    refine AllReadyH.cons (o := { dst := some 190, op := Op.call { callee := Callee.value (Operand.func 40), args := #[Operand.tmp 189], argTypes := #[9] }, type := 29, pos := "ref.go:90", after := #[{ on := 13, ground := Ground.data }], guard := none }) rfl (fun K hK => ?_) AllReadyH.nil
    go_simp
    go_at_call 40; (with_reducible refine HAll.out.mono ?_); rintro e w4 ⟨A4, cc, rfl, htab, hb4⟩; obtain ⟨k0, k2, k3, k6, l0⟩ := HC.out w4 (of_drew hb4); obtain ⟨ls, hown4, hbs, hal, hcu, hdone⟩ := HF.out w4 A4 cc (of_drew hb4) htab; have HO := Lib.hid hown4; have HBs := Lib.hid hbs; have HCU := Lib.hid hcu; have HDN := Lib.hid hdone; clear htab hb4 hown4 hbs hcu hdone
    try (go_wp2_with fail)
    refine hK.out _ _ ?_ (fun hHeld => ?_)
    · (try dsimp only) <;> (first | go_keep | exact ⟨k2, k3⟩ | exact ⟨x2, x3⟩ | exact ⟨(oth 2 (by decide)).trans x2, (oth 3 (by decide)).trans x3⟩)
    clear hK K
    try simp only [Act.put, List.setIfInBounds_toArray, List.set_cons_zero, List.set_cons_succ]
    refine wpAnyH_take (i := 15) (oi := { dst := some 191, op := Op.build 89 #[(0, Operand.const (Value.int IntKind.i64 4)), (2, Operand.tmp 181), (3, Operand.tmp 185), (4, Operand.tmp 190)], type := 89, pos := "ref.go:90", after := #[{ on := 5, ground := Ground.data }, { on := 9, ground := Ground.data }, { on := 14, ground := Ground.data }], guard := none }) (v := ?_) rfl (by kernel_rfl) (by kernel_rfl) (by kernel_rfl) (fun _ _ _ h => h) (Or.inl ⟨by rfl, ?_⟩) (by assumption) ?_
    rotate_left
    · intro w hSw
      try dsimp only at hSw
      go_simp <;> with_reducible rfl
    try simp only [Act.put, List.setIfInBounds_toArray, List.set_cons_zero, List.set_cons_succ]
    refine wpAnyH_ready (rs := [16]) (by kernel_rfl) (by simp) ?_
    refine AllReadyH.cons (o := { dst := some 192, op := Op.buildSlice 36 1 #[(0, Operand.tmp 191)], type := 36, pos := "ref.go:90", after := #[{ on := 15, ground := Ground.data }], guard := none }) rfl (fun K hK => ?_) AllReadyH.nil
    go_simp
    refine hK.out _ _ ?_ (fun hHeld => ?_)
    · (try dsimp only) <;> (first | go_keep | exact ⟨k2, k3⟩ | exact ⟨x2, x3⟩ | exact ⟨(oth 2 (by decide)).trans x2, (oth 3 (by decide)).trans x3⟩)
    clear hK K
    try simp only [Act.put, List.setIfInBounds_toArray, List.set_cons_zero, List.set_cons_succ]
    refine wpAnyH_ready (rs := [17]) (by kernel_rfl) (by simp) ?_
    refine AllReadyH.cons (o := { dst := some 193, op := Op.call { callee := Callee.builtin Builtin.append, args := #[Operand.tmp 180, Operand.tmp 192], argTypes := #[36, 36] }, type := 36, pos := "ref.go:90", after := #[{ on := 4, ground := Ground.data }, { on := 16, ground := Ground.data }, { on := 14, ground := Ground.chain }], guard := none }) rfl (fun K hK => ?_) AllReadyH.nil
    refine step_append_lies _ rfl (.tmp 180) (.tmp 192) 36 rfl base 89 i0 zeroEv 6 72 Tryd.underlying36 HI.out HZ0.out HZ1.out HZ2.out rfl (by decide) (.slice A2 m c2) m _ (by simp [Act.eval]) HO.out ⟨w4.heap.size, 0, none⟩ 1 1 [.int .i64 4, .int .i32 0, .int .u8 (b.toNat : Int), .string M, .slice A4 V.length cc, .string ⟨#[]⟩] (by simp [Act.eval]) rfl (one_cells w4 _ _) (by intro u hu; simp at hu; rcases hu with rfl | rfl | rfl | rfl | rfl | rfl <;> rfl) (by omega) (by unfold maxLen; omega) (by omega) (by have := HBs.out; simp; omega) _ rfl ?_; intro g c' w5 hown hgrow hat hlt5; obtain ⟨⟨u5, cu5⟩, fu5, hb5⟩ := HCU.out w5 hgrow; have x0 := (World.cell?_of_block (w := w4) (a := ⟨a, 0, none⟩) hb5).trans k0; have v0 := (World.frozen?_of_block (w := w4) (a := ⟨a, 0, none⟩) hb5).trans l0; have x2 := (World.cell?_of_block (w := w4) (a := ⟨a, 2, none⟩) hb5).trans k2; have x3 := (World.cell?_of_block (w := w4) (a := ⟨a, 3, none⟩) hb5).trans k3; have HOW5 := Lib.hid hown; have HGR := Lib.hid hgrow; clear hown hgrow hat hlt5 hb5
    refine hK.out _ _ ?_ (fun hHeld => ?_)
    · (try dsimp only) <;> (first | go_keep | exact ⟨k2, k3⟩ | exact ⟨x2, x3⟩ | exact ⟨(oth 2 (by decide)).trans x2, (oth 3 (by decide)).trans x3⟩)
    clear hK K
    try simp only [Act.put, List.setIfInBounds_toArray, List.set_cons_zero, List.set_cons_succ]
    refine wpAnyH_take (i := 18) (oi := { dst := some 194, op := Op.nilCheck (Operand.tmp 176), type := 0, pos := "ref.go:90", after := #[{ on := 0, ground := Ground.data }, { on := 0, ground := Ground.phase }, { on := 1, ground := Ground.phase }, { on := 2, ground := Ground.phase }, { on := 3, ground := Ground.phase }, { on := 4, ground := Ground.phase }, { on := 5, ground := Ground.phase }, { on := 6, ground := Ground.phase }, { on := 7, ground := Ground.phase }, { on := 8, ground := Ground.phase }, { on := 9, ground := Ground.phase }, { on := 10, ground := Ground.phase }, { on := 11, ground := Ground.phase }, { on := 12, ground := Ground.phase }, { on := 13, ground := Ground.phase }, { on := 14, ground := Ground.phase }, { on := 15, ground := Ground.phase }, { on := 16, ground := Ground.phase }, { on := 17, ground := Ground.phase }], guard := none }) (v := ?_) rfl (by kernel_rfl) (by kernel_rfl) (by kernel_rfl) (fun _ _ _ h => h) (Or.inl ⟨by rfl, ?_⟩) (by assumption) ?_
    rotate_left
    · intro w hSw
      try dsimp only at hSw
      go_simp <;> with_reducible rfl
    try simp only [Act.put, List.setIfInBounds_toArray, List.set_cons_zero, List.set_cons_succ]
    refine wpAnyH_take (i := 19) (oi := { dst := some 195, op := Op.fieldAddr 38 (Operand.tmp 194) 6, type := 0, pos := "ref.go:90", after := #[{ on := 18, ground := Ground.data }, { on := 0, ground := Ground.phase }, { on := 1, ground := Ground.phase }, { on := 2, ground := Ground.phase }, { on := 3, ground := Ground.phase }, { on := 4, ground := Ground.phase }, { on := 5, ground := Ground.phase }, { on := 6, ground := Ground.phase }, { on := 7, ground := Ground.phase }, { on := 8, ground := Ground.phase }, { on := 9, ground := Ground.phase }, { on := 10, ground := Ground.phase }, { on := 11, ground := Ground.phase }, { on := 12, ground := Ground.phase }, { on := 13, ground := Ground.phase }, { on := 14, ground := Ground.phase }, { on := 15, ground := Ground.phase }, { on := 16, ground := Ground.phase }, { on := 17, ground := Ground.phase }], guard := none }) (v := ?_) rfl (by kernel_rfl) (by kernel_rfl) (by kernel_rfl) (fun _ _ _ h => h) (Or.inl ⟨by rfl, ?_⟩) (by assumption) ?_
    rotate_left
    · intro w hSw
      try dsimp only at hSw
      go_simp <;> with_reducible rfl
    try simp only [Act.put, List.setIfInBounds_toArray, List.set_cons_zero, List.set_cons_succ]
    refine wpAnyH_ready (rs := [20]) (by kernel_rfl) (by simp) ?_
    refine AllReadyH.cons (o := { dst := none, op := Op.store 36 (Operand.tmp 195) (Operand.tmp 193), type := 0, pos := "ref.go:90", after := #[{ on := 19, ground := Ground.data }, { on := 17, ground := Ground.data }, { on := 17, ground := Ground.chain }, { on := 0, ground := Ground.phase }, { on := 1, ground := Ground.phase }, { on := 2, ground := Ground.phase }, { on := 3, ground := Ground.phase }, { on := 4, ground := Ground.phase }, { on := 5, ground := Ground.phase }, { on := 6, ground := Ground.phase }, { on := 7, ground := Ground.phase }, { on := 8, ground := Ground.phase }, { on := 9, ground := Ground.phase }, { on := 10, ground := Ground.phase }, { on := 11, ground := Ground.phase }, { on := 12, ground := Ground.phase }, { on := 13, ground := Ground.phase }, { on := 14, ground := Ground.phase }, { on := 15, ground := Ground.phase }, { on := 16, ground := Ground.phase }, { on := 17, ground := Ground.phase }], guard := none }) rfl (fun K hK => ?_) AllReadyH.nil
    go_simp
    refine hK.out _ _ ?_ (fun hHeld => ?_)
    · (try dsimp only) <;> (first | go_keep | exact ⟨k2, k3⟩ | exact ⟨x2, x3⟩ | exact ⟨(oth 2 (by decide)).trans x2, (oth 3 (by decide)).trans x3⟩)
    clear hK K
    try simp only [Act.put, List.setIfInBounds_toArray, List.set_cons_zero, List.set_cons_succ]
    refine wpAnyH_done (by kernel_rfl) ?_ _
    go_wp2
    (try simp only [Exit.inBlock, Exit.then])
    first | refine bodyPost_ret (results_none rfl _ _ _) rfl ?_ | refine bodyPost_end (results_none rfl _ _ _) rfl ?_
    exact HDE.out _ (HDN.out _ _ _ HOW5.out HGR.out)
  refine AllReadyH.cons (o := { dst := some 190, op := Op.call { callee := Callee.value (Operand.func 40), args := #[Operand.tmp 189], argTypes := #[9] }, type := 29, pos := "ref.go:90", after := #[{ on := 13, ground := Ground.data }], guard := none }) rfl (fun K hK => ?_) AllReadyH.nil
  go_simp
  go_at_call 40; (with_reducible refine HAll.out.mono ?_); rintro e w4 ⟨A4, cc, rfl, htab, hb4⟩; obtain ⟨k0, k2, k3, k6, l0⟩ := HC.out w4 (of_drew hb4); obtain ⟨ls, hown4, hbs, hal, hcu, hdone⟩ := HF.out w4 A4 cc (of_drew hb4) htab; have HO := Lib.hid hown4; have HBs := Lib.hid hbs; have HCU := Lib.hid hcu; have HDN := Lib.hid hdone; clear htab hb4 hown4 hbs hcu hdone
  try (go_wp2_with fail)
  refine hK.out _ _ ?_ (fun hHeld => ?_)
  · (try dsimp only) <;> (first | go_keep | exact ⟨k2, k3⟩ | exact ⟨x2, x3⟩ | exact ⟨(oth 2 (by decide)).trans x2, (oth 3 (by decide)).trans x3⟩)
  clear hK K
  try simp only [Act.put, List.setIfInBounds_toArray, List.set_cons_zero, List.set_cons_succ]
  refine wpAnyH_take (i := 15) (oi := { dst := some 191, op := Op.build 89 #[(0, Operand.const (Value.int IntKind.i64 4)), (2, Operand.tmp 181), (3, Operand.tmp 185), (4, Operand.tmp 190)], type := 89, pos := "ref.go:90", after := #[{ on := 5, ground := Ground.data }, { on := 9, ground := Ground.data }, { on := 14, ground := Ground.data }], guard := none }) (v := ?_) rfl (by kernel_rfl) (by kernel_rfl) (by kernel_rfl) (fun _ _ _ h => h) (Or.inl ⟨by rfl, ?_⟩) (by assumption) ?_
  rotate_left
  · intro w hSw
    try dsimp only at hSw
    go_simp <;> with_reducible rfl
  try simp only [Act.put, List.setIfInBounds_toArray, List.set_cons_zero, List.set_cons_succ]
  refine wpAnyH_ready (rs := [4, 16]) (by kernel_rfl) (by simp) ?_
  refine AllReadyH.cons (o := { dst := some 180, op := Op.load 36 (Operand.tmp 179), type := 36, pos := "ref.go:90", after := #[{ on := 3, ground := Ground.data }], guard := none }) rfl (fun K hK => ?_) ?_
  · skip
    go_simp
    refine hK.out _ _ ?_ (fun hHeld => ?_)
    · (try dsimp only) <;> (first | go_keep | exact ⟨k2, k3⟩ | exact ⟨x2, x3⟩ | exact ⟨(oth 2 (by decide)).trans x2, (oth 3 (by decide)).trans x3⟩)
    clear hK K
    try simp only [Act.put, List.setIfInBounds_toArray, List.set_cons_zero, List.set_cons_succ]
    refine wpAnyH_ready (rs := [16]) (by kernel_rfl) (by simp) ?_
    refine AllReadyH.cons (o := { dst := some 192, op := Op.buildSlice 36 1 #[(0, Operand.tmp 191)], type := 36, pos := "ref.go:90", after := #[{ on := 15, ground := Ground.data }], guard := none }) rfl (fun K hK => ?_) AllReadyH.nil
    go_simp
    refine hK.out _ _ ?_ (fun hHeld => ?_)
    · (try dsimp only) <;> (first | go_keep | exact ⟨k2, k3⟩ | exact ⟨x2, x3⟩ | exact ⟨(oth 2 (by decide)).trans x2, (oth 3 (by decide)).trans x3⟩)
    clear hK K
    try simp only [Act.put, List.setIfInBounds_toArray, List.set_cons_zero, List.set_cons_succ]
    refine wpAnyH_ready (rs := [17]) (by kernel_rfl) (by simp) ?_
    refine AllReadyH.cons (o := { dst := some 193, op := Op.call { callee := Callee.builtin Builtin.append, args := #[Operand.tmp 180, Operand.tmp 192], argTypes := #[36, 36] }, type := 36, pos := "ref.go:90", after := #[{ on := 4, ground := Ground.data }, { on := 16, ground := Ground.data }, { on := 14, ground := Ground.chain }], guard := none }) rfl (fun K hK => ?_) AllReadyH.nil
    refine step_append_lies _ rfl (.tmp 180) (.tmp 192) 36 rfl base 89 i0 zeroEv 6 72 Tryd.underlying36 HI.out HZ0.out HZ1.out HZ2.out rfl (by decide) (.slice A2 m c2) m _ (by simp [Act.eval]) HO.out ⟨w4.heap.size, 0, none⟩ 1 1 [.int .i64 4, .int .i32 0, .int .u8 (b.toNat : Int), .string M, .slice A4 V.length cc, .string ⟨#[]⟩] (by simp [Act.eval]) rfl (one_cells w4 _ _) (by intro u hu; simp at hu; rcases hu with rfl | rfl | rfl | rfl | rfl | rfl <;> rfl) (by omega) (by unfold maxLen; omega) (by omega) (by have := HBs.out; simp; omega) _ rfl ?_; intro g c' w5 hown hgrow hat hlt5; obtain ⟨⟨u5, cu5⟩, fu5, hb5⟩ := HCU.out w5 hgrow; have x0 := (World.cell?_of_block (w := w4) (a := ⟨a, 0, none⟩) hb5).trans k0; have v0 := (World.frozen?_of_block (w := w4) (a := ⟨a, 0, none⟩) hb5).trans l0; have x2 := (World.cell?_of_block (w := w4) (a := ⟨a, 2, none⟩) hb5).trans k2; have x3 := (World.cell?_of_block (w := w4) (a := ⟨a, 3, none⟩) hb5).trans k3; have HOW5 := Lib.hid hown; have HGR := Lib.hid hgrow; clear hown hgrow hat hlt5 hb5
    refine hK.out _ _ ?_ (fun hHeld => ?_)
    · (try dsimp only) <;> (first | go_keep | exact ⟨k2, k3⟩ | exact ⟨x2, x3⟩ | exact ⟨(oth 2 (by decide)).trans x2, (oth 3 (by decide)).trans x3⟩)
    clear hK K
    try simp only [Act.put, List.setIfInBounds_toArray, List.set_cons_zero, List.set_cons_succ]
    refine wpAnyH_take (i := 18) (oi := { dst := some 194, op := Op.nilCheck (Operand.tmp 176), type := 0, pos := "ref.go:90", after := #[{ on := 0, ground := Ground.data }, { on := 0, ground := Ground.phase }, { on := 1, ground := Ground.phase }, { on := 2, ground := Ground.phase }, { on := 3, ground := Ground.phase }, { on := 4, ground := Ground.phase }, { on := 5, ground := Ground.phase }, { on := 6, ground := Ground.phase }, { on := 7, ground := Ground.phase }, { on := 8, ground := Ground.phase }, { on := 9, ground := Ground.phase }, { on := 10, ground := Ground.phase }, { on := 11, ground := Ground.phase }, { on := 12, ground := Ground.phase }, { on := 13, ground := Ground.phase }, { on := 14, ground := Ground.phase }, { on := 15, ground := Ground.phase }, { on := 16, ground := Ground.phase }, { on := 17, ground := Ground.phase }], guard := none }) (v := ?_) rfl (by kernel_rfl) (by kernel_rfl) (by kernel_rfl) (fun _ _ _ h => h) (Or.inl ⟨by rfl, ?_⟩) (by assumption) ?_
    rotate_left
    · intro w hSw
      try dsimp only at hSw
      go_simp <;> with_reducible rfl
    try simp only [Act.put, List.setIfInBounds_toArray, List.set_cons_zero, List.set_cons_succ]
    refine wpAnyH_take (i := 19) (oi := { dst := some 195, op := Op.fieldAddr 38 (Operand.tmp 194) 6, type := 0, pos := "ref.go:90", after := #[{ on := 18, ground := Ground.data }, { on := 0, ground := Ground.phase }, { on := 1, ground := Ground.phase }, { on := 2, ground := Ground.phase }, { on := 3, ground := Ground.phase }, { on := 4, ground := Ground.phase }, { on := 5, ground := Ground.phase }, { on := 6, ground := Ground.phase }, { on := 7, ground := Ground.phase }, { on := 8, ground := Ground.phase }, { on := 9, ground := Ground.phase }, { on := 10, ground := Ground.phase }, { on := 11, ground := Ground.phase }, { on := 12, ground := Ground.phase }, { on := 13, ground := Ground.phase }, { on := 14, ground := Ground.phase }, { on := 15, ground := Ground.phase }, { on := 16, ground := Ground.phase }, { on := 17, ground := Ground.phase }], guard := none }) (v := ?_) rfl (by kernel_rfl) (by kernel_rfl) (by kernel_rfl) (fun _ _ _ h => h) (Or.inl ⟨by rfl, ?_⟩) (by assumption) ?_
    rotate_left
    · intro w hSw
      try dsimp only at hSw
      go_simp <;> with_reducible rfl
    try simp only [Act.put, List.setIfInBounds_toArray, List.set_cons_zero, List.set_cons_succ]
    refine wpAnyH_ready (rs := [20]) (by kernel_rfl) (by simp) ?_
    refine AllReadyH.cons (o := { dst := none, op := Op.store 36 (Operand.tmp 195) (Operand.tmp 193), type := 0, pos := "ref.go:90", after := #[{ on := 19, ground := Ground.data }, { on := 17, ground := Ground.data }, { on := 17, ground := Ground.chain }, { on := 0, ground := Ground.phase }, { on := 1, ground := Ground.phase }, { on := 2, ground := Ground.phase }, { on := 3, ground := Ground.phase }, { on := 4, ground := Ground.phase }, { on := 5, ground := Ground.phase }, { on := 6, ground := Ground.phase }, { on := 7, ground := Ground.phase }, { on := 8, ground := Ground.phase }, { on := 9, ground := Ground.phase }, { on := 10, ground := Ground.phase }, { on := 11, ground := Ground.phase }, { on := 12, ground := Ground.phase }, { on := 13, ground := Ground.phase }, { on := 14, ground := Ground.phase }, { on := 15, ground := Ground.phase }, { on := 16, ground := Ground.phase }, { on := 17, ground := Ground.phase }], guard := none }) rfl (fun K hK => ?_) AllReadyH.nil
    go_simp
    refine hK.out _ _ ?_ (fun hHeld => ?_)
    · (try dsimp only) <;> (first | go_keep | exact ⟨k2, k3⟩ | exact ⟨x2, x3⟩ | exact ⟨(oth 2 (by decide)).trans x2, (oth 3 (by decide)).trans x3⟩)
    clear hK K
    try simp only [Act.put, List.setIfInBounds_toArray, List.set_cons_zero, List.set_cons_succ]
    refine wpAnyH_done (by kernel_rfl) ?_ _
    go_wp2
    (try simp only [Exit.inBlock, Exit.then])
    first | refine bodyPost_ret (results_none rfl _ _ _) rfl ?_ | refine bodyPost_end (results_none rfl _ _ _) rfl ?_
    exact HDE.out _ (HDN.out _ _ _ HOW5.out HGR.out)
  refine AllReadyH.cons (o := { dst := some 192, op := Op.buildSlice 36 1 #[(0, Operand.tmp 191)], type := 36, pos := "ref.go:90", after := #[{ on := 15, ground := Ground.data }], guard := none }) rfl (fun K hK => ?_) AllReadyH.nil
  go_simp
  refine hK.out _ _ ?_ (fun hHeld => ?_)
  · (try dsimp only) <;> (first | go_keep | exact ⟨k2, k3⟩ | exact ⟨x2, x3⟩ | exact ⟨(oth 2 (by decide)).trans x2, (oth 3 (by decide)).trans x3⟩)
  clear hK K
  try simp only [Act.put, List.setIfInBounds_toArray, List.set_cons_zero, List.set_cons_succ]
  refine wpAnyH_ready (rs := [4]) (by kernel_rfl) (by simp) ?_
  refine AllReadyH.cons (o := { dst := some 180, op := Op.load 36 (Operand.tmp 179), type := 36, pos := "ref.go:90", after := #[{ on := 3, ground := Ground.data }], guard := none }) rfl (fun K hK => ?_) AllReadyH.nil
  go_simp
  refine hK.out _ _ ?_ (fun hHeld => ?_)
  · (try dsimp only) <;> (first | go_keep | exact ⟨k2, k3⟩ | exact ⟨x2, x3⟩ | exact ⟨(oth 2 (by decide)).trans x2, (oth 3 (by decide)).trans x3⟩)
  clear hK K
  try simp only [Act.put, List.setIfInBounds_toArray, List.set_cons_zero, List.set_cons_succ]
  refine wpAnyH_ready (rs := [17]) (by kernel_rfl) (by simp) ?_
  refine AllReadyH.cons (o := { dst := some 193, op := Op.call { callee := Callee.builtin Builtin.append, args := #[Operand.tmp 180, Operand.tmp 192], argTypes := #[36, 36] }, type := 36, pos := "ref.go:90", after := #[{ on := 4, ground := Ground.data }, { on := 16, ground := Ground.data }, { on := 14, ground := Ground.chain }], guard := none }) rfl (fun K hK => ?_) AllReadyH.nil
  refine step_append_lies _ rfl (.tmp 180) (.tmp 192) 36 rfl base 89 i0 zeroEv 6 72 Tryd.underlying36 HI.out HZ0.out HZ1.out HZ2.out rfl (by decide) (.slice A2 m c2) m _ (by simp [Act.eval]) HO.out ⟨w4.heap.size, 0, none⟩ 1 1 [.int .i64 4, .int .i32 0, .int .u8 (b.toNat : Int), .string M, .slice A4 V.length cc, .string ⟨#[]⟩] (by simp [Act.eval]) rfl (one_cells w4 _ _) (by intro u hu; simp at hu; rcases hu with rfl | rfl | rfl | rfl | rfl | rfl <;> rfl) (by omega) (by unfold maxLen; omega) (by omega) (by have := HBs.out; simp; omega) _ rfl ?_; intro g c' w5 hown hgrow hat hlt5; obtain ⟨⟨u5, cu5⟩, fu5, hb5⟩ := HCU.out w5 hgrow; have x0 := (World.cell?_of_block (w := w4) (a := ⟨a, 0, none⟩) hb5).trans k0; have v0 := (World.frozen?_of_block (w := w4) (a := ⟨a, 0, none⟩) hb5).trans l0; have x2 := (World.cell?_of_block (w := w4) (a := ⟨a, 2, none⟩) hb5).trans k2; have x3 := (World.cell?_of_block (w := w4) (a := ⟨a, 3, none⟩) hb5).trans k3; have HOW5 := Lib.hid hown; have HGR := Lib.hid hgrow; clear hown hgrow hat hlt5 hb5
  refine hK.out _ _ ?_ (fun hHeld => ?_)
  · (try dsimp only) <;> (first | go_keep | exact ⟨k2, k3⟩ | exact ⟨x2, x3⟩ | exact ⟨(oth 2 (by decide)).trans x2, (oth 3 (by decide)).trans x3⟩)
  clear hK K
  try simp only [Act.put, List.setIfInBounds_toArray, List.set_cons_zero, List.set_cons_succ]
  refine wpAnyH_take (i := 18) (oi := { dst := some 194, op := Op.nilCheck (Operand.tmp 176), type := 0, pos := "ref.go:90", after := #[{ on := 0, ground := Ground.data }, { on := 0, ground := Ground.phase }, { on := 1, ground := Ground.phase }, { on := 2, ground := Ground.phase }, { on := 3, ground := Ground.phase }, { on := 4, ground := Ground.phase }, { on := 5, ground := Ground.phase }, { on := 6, ground := Ground.phase }, { on := 7, ground := Ground.phase }, { on := 8, ground := Ground.phase }, { on := 9, ground := Ground.phase }, { on := 10, ground := Ground.phase }, { on := 11, ground := Ground.phase }, { on := 12, ground := Ground.phase }, { on := 13, ground := Ground.phase }, { on := 14, ground := Ground.phase }, { on := 15, ground := Ground.phase }, { on := 16, ground := Ground.phase }, { on := 17, ground := Ground.phase }], guard := none }) (v := ?_) rfl (by kernel_rfl) (by kernel_rfl) (by kernel_rfl) (fun _ _ _ h => h) (Or.inl ⟨by rfl, ?_⟩) (by assumption) ?_
  rotate_left
  · intro w hSw
    try dsimp only at hSw
    go_simp <;> with_reducible rfl
  try simp only [Act.put, List.setIfInBounds_toArray, List.set_cons_zero, List.set_cons_succ]
  refine wpAnyH_take (i := 19) (oi := { dst := some 195, op := Op.fieldAddr 38 (Operand.tmp 194) 6, type := 0, pos := "ref.go:90", after := #[{ on := 18, ground := Ground.data }, { on := 0, ground := Ground.phase }, { on := 1, ground := Ground.phase }, { on := 2, ground := Ground.phase }, { on := 3, ground := Ground.phase }, { on := 4, ground := Ground.phase }, { on := 5, ground := Ground.phase }, { on := 6, ground := Ground.phase }, { on := 7, ground := Ground.phase }, { on := 8, ground := Ground.phase }, { on := 9, ground := Ground.phase }, { on := 10, ground := Ground.phase }, { on := 11, ground := Ground.phase }, { on := 12, ground := Ground.phase }, { on := 13, ground := Ground.phase }, { on := 14, ground := Ground.phase }, { on := 15, ground := Ground.phase }, { on := 16, ground := Ground.phase }, { on := 17, ground := Ground.phase }], guard := none }) (v := ?_) rfl (by kernel_rfl) (by kernel_rfl) (by kernel_rfl) (fun _ _ _ h => h) (Or.inl ⟨by rfl, ?_⟩) (by assumption) ?_
  rotate_left
  · intro w hSw
    try dsimp only at hSw
    go_simp <;> with_reducible rfl
  try simp only [Act.put, List.setIfInBounds_toArray, List.set_cons_zero, List.set_cons_succ]
  refine wpAnyH_ready (rs := [20]) (by kernel_rfl) (by simp) ?_
  refine AllReadyH.cons (o := { dst := none, op := Op.store 36 (Operand.tmp 195) (Operand.tmp 193), type := 0, pos := "ref.go:90", after := #[{ on := 19, ground := Ground.data }, { on := 17, ground := Ground.data }, { on := 17, ground := Ground.chain }, { on := 0, ground := Ground.phase }, { on := 1, ground := Ground.phase }, { on := 2, ground := Ground.phase }, { on := 3, ground := Ground.phase }, { on := 4, ground := Ground.phase }, { on := 5, ground := Ground.phase }, { on := 6, ground := Ground.phase }, { on := 7, ground := Ground.phase }, { on := 8, ground := Ground.phase }, { on := 9, ground := Ground.phase }, { on := 10, ground := Ground.phase }, { on := 11, ground := Ground.phase }, { on := 12, ground := Ground.phase }, { on := 13, ground := Ground.phase }, { on := 14, ground := Ground.phase }, { on := 15, ground := Ground.phase }, { on := 16, ground := Ground.phase }, { on := 17, ground := Ground.phase }], guard := none }) rfl (fun K hK => ?_) AllReadyH.nil
  go_simp
  refine hK.out _ _ ?_ (fun hHeld => ?_)
  · (try dsimp only) <;> (first | go_keep | exact ⟨k2, k3⟩ | exact ⟨x2, x3⟩ | exact ⟨(oth 2 (by decide)).trans x2, (oth 3 (by decide)).trans x3⟩)
  clear hK K
  try simp only [Act.put, List.setIfInBounds_toArray, List.set_cons_zero, List.set_cons_succ]
  refine wpAnyH_done (by kernel_rfl) ?_ _
  go_wp2
  (try simp only [Exit.inBlock, Exit.then])
  first | refine bodyPost_ret (results_none rfl _ _ _) rfl ?_ | refine bodyPost_end (results_none rfl _ _ _) rfl ?_
  exact HDE.out _ (HDN.out _ _ _ HOW5.out HGR.out)

end Go.Proofs.YtfekjlajagoooaaDoor

/-! ## Layer 8: the document's Byte where a character may be printed. -/
namespace Go.Proofs.YtfekjlajagoooaaDoor
open Go.RowKit Ev

/-- Blocks that are no parser's and no events' stay. -/
def Frame (w w' : World) : Prop := ∀ (k : Nat) (cur : Array Value) (t : TypeId), w.heap[k]? = some (.cells cur t (0, 0)) → t ≠ 89 → t ≠ 38 → w'.heap[k]? = w.heap[k]?
theorem Frame.trans {w w1 w2 : World} (h : Frame w w1) (k : Frame w1 w2) : Frame w w2 := fun j cur t hj h1 h2 => (k j cur t ((h j cur t hj h1 h2).trans hj) h1 h2).trans (h j cur t hj h1 h2)
theorem tell_frame {w0 w w1 : World} {base a : Nat} {q : Q} {L : List EV} {A : Option Addr} {c : Nat} (h : RefP w0 w base a q L A c) {o : Obj} {v : Value} (hg : (w.alloc o).grownBy w1 (Value.slice A L.length c).ownBlock) : Frame w (w1.setCell ⟨a, 6, none⟩ v) := by
  intro k cur t hk h1 h2
  have hkl : k < w.heap.size := (Array.getElem?_eq_some_iff.1 hk).1
  rw [Below.heap_setCell _ _ _ _ (fun e => by
    have e : k = a := e
    subst e
    rw [h.blk] at hk
    cases hk
    exact h2 rfl)]
  refine (hg.block k (by simp; omega) (fun e => ?_)).trans (heap_alloc_old w o hkl)
  obtain ⟨_, _, cur', hc⟩ := h.told.ge k e.symm
  rw [hk] at hc
  cases hc
  exact h1 rfl

theorem print_frame {w0 w : World} {base a : Nat} {q : Q} {L : List EV} {A : Option Addr} {c : Nat} (h : RefP w0 w base a q L A c) (hL : L.length ≤ 1000000) (r : Nat) :
    Calls Tryd.prog 39 #[.pointer (some ⟨a, 0, none⟩), .int .i32 (r : Int)] w fun e w' => e = .returned (.tuple #[]) ∧ ∃ A' c', RefP w0 w' base a q (L ++ [printE r]) A' c' ∧ w.heap.size ≤ w'.heap.size ∧ Frame w w' := by
  obtain ⟨i0, hi, hz0, hz1, hz2⟩ := info_parts info_ev
  have HI := Lib.hid hi; have HZ0 := Lib.hid hz0; have HZ1 := Lib.hid hz1; have HZ2 := Lib.hid hz2
  have HR := Lib.hid h
  obtain ⟨ls, hls, hown0⟩ := h.told
  have HLS := Lib.hid hls
  obtain ⟨n, hn⟩ : ∃ n, n = L.length := ⟨_, rfl⟩
  have HN := Lib.hid hn
  have c6 : w.cell? ⟨a, 6, none⟩ = some (.slice A n c) := by rw [cell_at h.blk, hn]; rfl
  have HO : Hid ((w.alloc (.cells #[.int .i64 1, .int .i32 r, .int .u8 0, .string ⟨#[]⟩, .slice none 0 0, .string ⟨#[]⟩] 89)).ownsRow base 89 6 (.slice A n c) n ls.flatten) := Lib.hid (by
    have := World.ownsRow.alloc hown0 (.cells #[.int .i64 1, .int .i32 r, .int .u8 0, .string ⟨#[]⟩, .slice none 0 0, .string ⟨#[]⟩] 89)
    rw [hn]
    exact this)
  have kb := build_print r
  have hn1 : n ≤ 1000000 := by omega
  have HB : Hid (base ≤ w.heap.size) := Lib.hid h.sz
  clear hi hz0 hz1 hz2 h hls hown0 hn hL
  go_enter Tryd.func39, Tryd.ntmps39
  go_wp2_with (at_builtin; refine wpList_append_own _ rfl (.tmp 8) (.tmp 11) 36 rfl base 89 i0 zeroEv 6 72 Tryd.underlying36 HI.out HZ0.out HZ1.out HZ2.out rfl (by decide) _ _ _ rfl HO.out ⟨w.heap.size, 0, none⟩ 1 1 [.int .i64 1, .int .i32 r, .int .u8 0, .string ⟨#[]⟩, .slice none 0 0, .string ⟨#[]⟩] rfl rfl ?d1 ?d2 ?d3 ?d4 ?d5 ?_)
  case d1 => exact one_cells w _ _
  case d2 => intro u hu; simp at hu; rcases hu with rfl | rfl | rfl | rfl | rfl | rfl <;> rfl
  case d3 => unfold maxLen; omega
  case d4 => omega
  case d5 => have := HB.out; simp; omega
  intro v' w2 hown hg _
  obtain ⟨g, c', rfl, hR, ⟨u, x6⟩, y6, hsz⟩ := HR.out.tell HLS.out (e := printE r) (l := [.int .i64 1, .int .i32 r, .int .u8 0, .string ⟨#[]⟩, .slice none 0 0, .string ⟨#[]⟩]) ⟨none, 0, rfl, fun h => absurd h (by simp [printE])⟩ (by rw [← HN.out]; exact hown) (by rw [← HN.out]; exact hg)
  have hfr := tell_frame (v := .slice (some ⟨g, 0, none⟩) (L.length + 1) c') HR.out (by rw [← HN.out]; exact hg)
  have HF := Lib.hid (And.intro hR (And.intro hsz hfr))
  rw [← HN.out] at HF ⊢
  clear hown hg hR hsz hfr c6 kb
  go_wp2
  go_end0
  exact ⟨rfl, _, _, HF.out.1, by simpa using HF.out.2.1, HF.out.2.2⟩

/-- Behind the decoder's Byte. -/
theorem RefP.stirs {w0 w w' : World} {base a : Nat} {q : Q} {L : List EV} {A : Option Addr} {c : Nat} (h : RefP w0 w base a q L A c) {k : List UInt8} (hs : Stirs a 1 1 w w') (hp : Part w' a 1 #[.string (strK k)]) (hk : D5.Dec.fullB k = false) : RefP w0 w' base a { q with kept := k } L A c := by
  obtain ⟨C', e1, e2, e3⟩ := hs.part _ _ h.blk
  have hC : C' = cellsQ { q with kept := k } (.slice A L.length c) := by
    obtain ⟨C2, t2, f1, f2, f3⟩ := hp
    rw [e1] at f1
    cases f1
    have h1 : C'[1]? = some (.string (strK k)) := f3 0 (by show 0 < 1; omega)
    apply Array.ext
    · rw [e2]; rfl
    · intro i h2 h3
      have hi : i < 7 := h3
      have hh : C'[i]? = (cellsQ { q with kept := k } (.slice A L.length c))[i]? := by
        by_cases e : i = 1
        · subst e; exact h1
        · rw [e3 i (by omega)]
          have : i = 0 ∨ i = 2 ∨ i = 3 ∨ i = 4 ∨ i = 5 ∨ i = 6 := by omega
          rcases this with rfl | rfl | rfl | rfl | rfl | rfl <;> rfl
      rw [Array.getElem?_eq_getElem h2, Array.getElem?_eq_getElem h3] at hh
      exact Option.some.inj hh
  subst hC
  have hka : ∀ (j : Nat) (cur : Array Value) (t : TypeId), w.heap[j]? = some (.cells cur t (0, 0)) → t ≠ 38 → w'.heap[j]? = w.heap[j]? := fun j cur t hj ht => hs.block j (Array.getElem?_eq_some_iff.1 hj).1 (fun e => by
    subst e
    rw [h.blk] at hj
    cases hj
    exact ht rfl)
  refine ⟨e1, h.told.keep ⟨hs.size, fun j cur t hj ht => hka j cur t hj (by rcases ht with e | e <;> rw [e] <;> decide)⟩ fun g hg => ?_, hk, h.st, hs.below h.ge h.old h.sz, h.ge, Nat.le_trans h.sz hs.size⟩
  obtain ⟨_, _, cur, hc⟩ := h.told.ge g hg
  exact hka g cur _ hc (by decide)
theorem RefP.isRef {w0 w : World} {base a : Nat} {q : Q} {L : List EV} {A : Option Addr} {c : Nat} (h : RefP w0 w base a q L A c) : D5.IsRef w a 1 q.kept :=
  ⟨⟨_, _, h.blk, by show 1 + 1 ≤ 7; omega, fun i hi => by
    have hi : i < 1 := hi
    have : i = 0 := by omega
    subst this
    rfl⟩, h.ok⟩

theorem step_print (q : Q) (b : UInt8) (hs : q.st = 0) (ha : actN q.st b.toNat = 1) (hn : toN q.st b.toNat = 0) : stepE q b = ((D5.Dec.comes q.kept b).1.map printE, { q with kept := (D5.Dec.comes q.kept b).2 }) := by
  unfold stepE readyE
  rw [ha, hn, hs]
  simp [endsN, clearsN, doE, ← hs]
theorem runes_at {w : World} {base : Nat} {v : Value} {l : List Nat} (h : D5.OwnRunes w base v l) : ∃ A c, v = .slice A l.length c ∧ ∀ k, k < l.length → ∃ g cur, A = some ⟨g, 0, none⟩ ∧ w.heap[g]? = some (.cells cur 21 (0, 0)) ∧ cur[k]? = some (.int .i32 (l.getD k 0 : Nat)) := by
  obtain ⟨A, c, e, _, hx⟩ := D5.own_shape h
  refine ⟨A, c, e, fun k hk => ?_⟩
  obtain ⟨g, e1, _, e3⟩ := hx k hk
  rcases h.2 with ⟨e', _⟩ | ⟨g', cap, cur, e', _, hh, _⟩
  · rw [e] at e'
    injection e' with f1 f2 f3
    rw [e1] at f1
    cases f1
  · rw [e] at e'
    injection e' with f1 f2 f3
    rw [e1] at f1
    cases f1
    exact ⟨g, cur, e1, hh, by rw [← cell_at hh]; exact e3⟩

set_option maxRecDepth 100000 in
set_option maxHeartbeats 4000000 in
theorem bw_print {w0 w : World} {base a : Nat} {q : Q} {L : List EV} {A : Option Addr} {c : Nat} (h : RefP w0 w base a q L A c) (hS : Small q L) (b : UInt8) (hs : q.st = 0) (ha : actN q.st b.toNat = 1) (hn : toN q.st b.toNat = 0) :
    Calls Tryd.prog 18 #[.pointer (some ⟨a, 0, none⟩), .int .u8 (b.toNat : Int)] w (RefStep w0 w base a (stepE q b).2 (L ++ (stepE q b).1)) := by
  have E := step_print q b hs ha hn
  have hcnt := D5.Dec.comes_count q.kept b h.ok
  have hkp := D5.Dec.comes_keeps q.kept b
  have HN := Lib.hid (next_is q h.st b 1 0 ha hn)
  obtain ⟨T, hT⟩ : ∃ T, T = D5.Dec.comes q.kept b := ⟨_, rfl⟩
  rw [← hT] at E hcnt hkp
  have HT := Lib.hid hT
  have HE := Lib.hid E
  have HSt := Lib.hid hs
  have HST := Lib.hid hS
  have HH := Lib.hid h
  have c0 : w.cell? ⟨a, 0, none⟩ = some (.int .i64 0) := by rw [cell_at h.blk]; simp [cellsQ, hs]
  have HKP := Lib.hid hkp
  have hl2 : T.1.length ≤ 2 := by omega
  clear h hS ha hn E hs hT hcnt hkp
  go_enter Tryd.func18, Tryd.ntmps18
  go_wp2_with fail
  refine (show Calls _ _ _ _ _ from HSt.out ▸ HN.out w).mono ?_
  rintro e w1 ⟨rfl, hb⟩
  have H1 := Lib.hid (HH.out.below hb)
  have z1 := Lib.hid hb.size
  have x0 : w1.cell? ⟨a, 0, none⟩ = some (.int .i64 0) := by rw [cell_at H1.out.blk]; simp [cellsQ, HSt.out]
  clear hb HH HN c0
  go_wp2_with fail
  refine (D5.ref_byte a 1 q.kept b w1 H1.out.isRef).mono ?_
  rintro e w2 ⟨v, rfl, hO, hI, hSt⟩
  rw [← HT.out] at hO hI
  have H2 := Lib.hid (H1.out.stirs hSt hI.blk hI.ok)
  have z2 := Lib.hid (Nat.le_trans z1.out hSt.size)
  obtain ⟨A5, c5, rfl, hx⟩ := runes_at hO
  have HX := Lib.hid hx
  obtain ⟨n, hn⟩ : ∃ n, n = T.1.length := ⟨_, rfl⟩
  have HNn := Lib.hid hn
  rw [← hn]
  have hn2 : n ≤ 2 := by omega
  clear hO hI hSt hx x0 H1 z1 hn hl2
  have HF0 : Hid (Frame w2 w2) := Lib.hid fun _ _ _ _ _ _ => rfl
  go_wp2
  go_loopw [7] (fun i wr => ∃ (k : Nat) (A' : Option Addr) (c' : Nat), k ≤ n ∧ i = .int .i64 k ∧ Hid (RefP w0 wr base a { q with kept := T.2 } (L ++ (T.1.take k).map printE) A' c') ∧ Hid (w.heap.size ≤ wr.heap.size) ∧ Hid (Frame w2 wr)) (fun i _ => n - (RowKit.intOf i).toNat)
  case atStart => exact ⟨0, _, _, Nat.zero_le _, rfl, Lib.hid (by simpa using H2.out), z2, HF0⟩
  case round =>
    obtain ⟨k, A', c', hk, rfl, HR, HZ, HFr⟩ := hrel
    rename_i wr
    by_cases hlt : k < n
    · have hlt' : k < T.1.length := by rw [← HNn.out]; exact hlt
      obtain ⟨g, cur, hA, hb, hc⟩ := HX.out k hlt'
      subst hA
      have hcell : wr.cell? ⟨g, k, none⟩ = some (.int .i32 (T.1.getD k 0 : Nat)) := by
        rw [cell_at ((HFr.out g cur _ hb (by decide) (by decide)).trans hb)]
        exact hc
      have HTk : Hid (T.1.take (k + 1) = T.1.take k ++ [T.1.getD k 0]) := Lib.hid (by
        rw [List.take_succ_eq_append_getElem hlt']
        simp [hlt'])
      have HP := Lib.hid (print_frame HR.out (by have := HST.out.told; simp; have := List.length_take_le k T.1; omega) (T.1.getD k 0))
      generalize T.1.getD k 0 = r at *
      clear hb hc
      go_wp2_with fail
      refine (show Calls _ _ _ _ _ from HP.out).mono ?_
      rintro e w3 ⟨rfl, A6, c6, hR, hz, hfr⟩
      have HR3 : Hid (RefP w0 w3 base a { q with kept := T.2 } (L ++ (T.1.take (k + 1)).map printE) A6 c6) := Lib.hid (by
        rw [HTk.out, List.map_append, ← List.append_assoc]
        exact hR)
      have HZ3 := Lib.hid (Nat.le_trans HZ.out hz)
      have HF3 := Lib.hid (HFr.out.trans hfr)
      clear hR hz hfr HP HR hcell
      go_wp2
      go_roundw
      case rel => exact ⟨k + 1, A6, c6, by omega, by go_num, HR3, HZ3, HF3⟩
      case measure => simp [RowKit.intOf]; omega
    · have hkn : k = n := by omega
      subst hkn
      have HF : Hid (RefP w0 (wr.setCell ⟨a, 0, none⟩ (.int .i64 0)) base a { q with kept := T.2 } (L ++ T.1.map printE) A' c') := Lib.hid (by
        have hR := HR.out
        rw [HNn.out, List.take_length] at hR
        exact hR.put 0 _ (by simp [cellsQ, HSt.out]) hR.ok hR.st)
      have x0 : ∃ u, wr.cell? ⟨a, 0, none⟩ = some u := ⟨_, by rw [cell_at HR.out.blk]; rfl⟩
      obtain ⟨u0, x0⟩ := x0
      have y0 : wr.frozen? ⟨a, 0, none⟩ = false := free_at HR.out.blk 0
      clear HR
      go_wp2
      (try simp only [Exit.inBlock, Exit.then])
      first | refine bodyPost_ret (results_none rfl _ _ _) rfl ?_ | refine bodyPost_end (results_none rfl _ _ _) rfl ?_
      refine ⟨rfl, A', c', ?_, by simpa using HZ.out⟩
      rw [HE.out]
      exact HF.out
end Go.Proofs.YtfekjlajagoooaaDoor

/-! ## Layer 8: the document's Byte, whole; its All. -/
namespace Go.Proofs.YtfekjlajagoooaaDoor
open Go.RowKit Ev

set_option maxRecDepth 100000 in
theorem grid_w1 : ∀ s, s < 14 → ∀ c, c < 256 → (actN s c = 1 → s = 0 ∧ toN s c = 0) := by decide +kernel
set_option maxRecDepth 100000 in
theorem grid_w2 : ∀ s, s < 14 → ∀ c, c < 256 → (actN s c = 2 → toN s c = s ∨ toN s c = 0) := by decide +kernel
set_option maxRecDepth 100000 in
theorem grid_w0b : ∀ s, s < 14 → ∀ c, c < 256 → (!(actN s c == 0) || (toN s c == s || (s == 10 && toN s c == 1) || (s == 12 && (toN s c == 0 || toN s c == 1)) || (s != 10 && s != 12))) = true := by decide +kernel
theorem grid_w0 (s : Nat) (hs : s < 14) (c : Nat) (hc : c < 256) (h : actN s c = 0) : toN s c = s ∨ (s = 10 ∧ toN s c = 1) ∨ (s = 12 ∧ (toN s c = 0 ∨ toN s c = 1)) ∨ (s ≠ 10 ∧ s ≠ 12) := by
  have := grid_w0b s hs c hc
  simp [h] at this
  omega
set_option maxRecDepth 100000 in
theorem grid_w34b : ∀ s, s < 14 → ∀ c, c < 256 → (!(actN s c == 3 || actN s c == 4) || (toN s c == s || (s != 10 && s != 12 && toN s c != 1 && toN s c != 3 && toN s c != 7 && toN s c != 12))) = true := by decide +kernel
theorem grid_w34 (s : Nat) (hs : s < 14) (c : Nat) (hc : c < 256) (h : actN s c = 3 ∨ actN s c = 4) : toN s c = s ∨ (s ≠ 10 ∧ s ≠ 12 ∧ toN s c ≠ 1 ∧ toN s c ≠ 3 ∧ toN s c ≠ 7 ∧ toN s c ≠ 12) := by
  have := grid_w34b s hs c hc
  rcases h with h | h <;> simp [h] at this <;> omega
set_option maxRecDepth 100000 in
theorem grid_w5b : ∀ s, s < 14 → ∀ c, c < 256 → (!(actN s c == 5) || (toN s c == 0 && s != 0 && s != 10 && s != 12)) = true := by decide +kernel
theorem grid_w5 (s : Nat) (hs : s < 14) (c : Nat) (hc : c < 256) (h : actN s c = 5) : toN s c = 0 ∧ s ≠ 0 ∧ s ≠ 10 ∧ s ≠ 12 := by
  have := grid_w5b s hs c hc
  simp [h] at this
  omega
set_option maxRecDepth 100000 in
theorem grid_w6b : ∀ s, s < 14 → ∀ c, c < 256 → (!(actN s c == 6) || (toN s c == 0 && s != 0 && s != 10 && s != 12)) = true := by decide +kernel
theorem grid_w6 (s : Nat) (hs : s < 14) (c : Nat) (hc : c < 256) (h : actN s c = 6) : toN s c = 0 ∧ s ≠ 0 ∧ s ≠ 10 ∧ s ≠ 12 := by
  have := grid_w6b s hs c hc
  simp [h] at this
  omega
set_option maxRecDepth 100000 in
theorem grid_w7b : ∀ s, s < 14 → ∀ c, c < 256 → (!(actN s c == 7) || (toN s c == 10 && s != 10 && s != 12)) = true := by decide +kernel
theorem grid_w7 (s : Nat) (hs : s < 14) (c : Nat) (hc : c < 256) (h : actN s c = 7) : toN s c = 10 ∧ s ≠ 10 ∧ s ≠ 12 := by
  have := grid_w7b s hs c hc
  simp [h] at this
  omega
set_option maxRecDepth 100000 in
theorem grid_w8 : ∀ s, s < 14 → ∀ c, c < 256 → (actN s c = 8 → toN s c = s) := by decide +kernel

theorem Byte_any {w0 w : World} {base a : Nat} {q : Q} {L : List EV} {A : Option Addr} {c : Nat} (h : RefP w0 w base a q L A c) (hS : Small q L) (b : UInt8) :
    Calls Tryd.prog 18 #[.pointer (some ⟨a, 0, none⟩), .int .u8 (b.toNat : Int)] w (RefStep w0 w base a (stepE q b).2 (L ++ (stepE q b).1)) := by
  have g1 := grid_w1 q.st h.st b.toNat b.toNat_lt
  have g0 := grid_w0 q.st h.st b.toNat b.toNat_lt
  have g2 := grid_w2 q.st h.st b.toNat b.toNat_lt
  have g34 := grid_w34 q.st h.st b.toNat b.toNat_lt
  have g5 := grid_w5 q.st h.st b.toNat b.toNat_lt
  have g6 := grid_w6 q.st h.st b.toNat b.toNat_lt
  have g7 := grid_w7 q.st h.st b.toNat b.toNat_lt
  have g8 := grid_w8 q.st h.st b.toNat b.toNat_lt
  have ga := (grid_st q.st h.st b.toNat b.toNat_lt).2.1
  have : actN q.st b.toNat = 0 ∨ actN q.st b.toNat = 1 ∨ actN q.st b.toNat = 2 ∨ actN q.st b.toNat = 3 ∨ actN q.st b.toNat = 4 ∨ actN q.st b.toNat = 5 ∨ actN q.st b.toNat = 6 ∨ actN q.st b.toNat = 7 ∨ actN q.st b.toNat = 8 := by omega
  rcases this with ha | ha | ha | ha | ha | ha | ha | ha | ha
  · rcases g0 ha with e | ⟨s, e⟩ | ⟨s, e | e⟩ | ⟨s10, s12⟩
    · exact bw_z_same h hS b ha e
    · exact bw_z_10_1 h hS b s ha e
    · exact bw_z_12_0 h hS b s 0 (by omega) (by decide) (by decide) (by decide) (by decide) ha e
    · exact bw_z_12_1 h hS b s ha e
    · by_cases e : toN q.st b.toNat = q.st
      · exact bw_z_same h hS b ha e
      by_cases e1 : toN q.st b.toNat = 1
      · exact bw_z_1 h hS b (by omega) s10 s12 ha e1
      by_cases e3 : toN q.st b.toNat = 3
      · exact bw_z_3 h hS b (by omega) s10 s12 ha e3
      by_cases e7 : toN q.st b.toNat = 7
      · exact bw_z_7 h hS b (by omega) s10 s12 ha e7
      by_cases e12 : toN q.st b.toNat = 12
      · exact bw_z_12 h hS b (by omega) s10 s12 ha e12
      exact bw_z_n h hS b (toN q.st b.toNat) e e1 e3 e7 e12 s10 s12 ha rfl
  · obtain ⟨s, e⟩ := g1 ha
    exact bw_print h hS b s ha e
  · by_cases e : toN q.st b.toNat = q.st
    · exact bw_x_same h hS b ha e
    have e0 : toN q.st b.toNat = 0 := by
      rcases g2 ha with e' | e'
      · exact absurd e' e
      · exact e'
    by_cases s10 : q.st = 10
    · exact bw_x_10 h hS b s10 ha e0
    by_cases s12 : q.st = 12
    · exact bw_x_12 h hS b s12 ha e0
    exact bw_x_0 h hS b (by omega) s10 s12 ha e0
  · rcases g34 (Or.inl ha) with e | ⟨s10, s12, k1, k3, k7, k12⟩
    · exact bw_c_same h hS b ha e
    · by_cases e : toN q.st b.toNat = q.st
      · exact bw_c_same h hS b ha e
      · exact bw_c_n h hS b (toN q.st b.toNat) e k1 k3 k7 k12 s10 s12 ha rfl
  · rcases g34 (Or.inr ha) with e | ⟨s10, s12, k1, k3, k7, k12⟩
    · exact bw_p_same h hS b ha e
    · by_cases e : toN q.st b.toNat = q.st
      · exact bw_p_same h hS b ha e
      · exact bw_p_n h hS b (toN q.st b.toNat) e k1 k3 k7 k12 s10 s12 ha rfl
  · obtain ⟨e, s0, s10, s12⟩ := g5 ha
    by_cases m2 : q.mids.length ≤ 2
    · by_cases b92 : b.toNat = 92
      · by_cases m0 : q.mids = []
        · exact bw_e_n2 h hS b s0 s10 s12 m2 b92 m0 ha e
        · exact bw_e_t2 h hS b s0 s10 s12 m2 b92 m0 ha e
      · exact bw_e_t1 h hS b s0 s10 s12 m2 b92 ha e
    · exact bw_e_n1 h hS b s0 s10 s12 m2 ha e
  · obtain ⟨e, s0, s10, s12⟩ := g6 ha
    by_cases m2 : q.mids.length ≤ 2
    · exact bw_s_y h hS b s0 s10 s12 m2 ha e
    · exact bw_s_n1 h hS b s0 s10 s12 m2 ha e
  · obtain ⟨e, s10, s12⟩ := g7 ha
    exact bw_h_10 h hS b s10 s10 s12 ha e
  · exact bw_t_same h hS b ha (g8 ha)

/-! ### All -/
/-- What a byte may make longer. -/
theorem step_len (q : Q) (b : UInt8) (hk : D5.Dec.fullB q.kept = false) : (stepE q b).1.length ≤ 4 ∧ (stepE q b).2.list.length ≤ q.list.length + 1 ∧ (stepE q b).2.mids.length ≤ q.mids.length + 1 ∧ (stepE q b).2.text.length ≤ q.text.length + 1 := by
  have h1 := mark_len q
  have h2 := str_len q b.toNat
  have hm : (if actN q.st b.toNat = 1 then [] else markE q).length ≤ 1 := by split <;> simp [h1]
  have hs : (if endsN q.st (toN q.st b.toNat) then strE q b.toNat else []).length ≤ 1 := by split <;> simp [h2]
  have hr : ∀ R : Q, (R.kept = q.kept ∨ R.kept = []) → (doE (actN q.st b.toNat) R b).1.length ≤ 2 ∧ (doE (actN q.st b.toNat) R b).2.list.length ≤ R.list.length + 1 ∧ (doE (actN q.st b.toNat) R b).2.mids.length ≤ R.mids.length + 1 ∧ (doE (actN q.st b.toNat) R b).2.text.length ≤ R.text.length + 1 := by
    intro R hR
    have hc : (D5.Dec.comes R.kept b).1.length ≤ 2 := by
      rcases hR with e | e <;> rw [e]
      · have := D5.Dec.comes_count q.kept b hk; omega
      · have := D5.Dec.comes_count [] b rfl; omega
    generalize actN q.st b.toNat = act
    unfold doE
    repeat' split
    all_goals (refine ⟨?_, ?_, ?_, ?_⟩ <;> simp <;> omega)
  have hq : ∀ R, R = readyE q (actN q.st b.toNat) (toN q.st b.toNat) → (R.kept = q.kept ∨ R.kept = []) ∧ R.list.length ≤ q.list.length ∧ R.mids.length ≤ q.mids.length ∧ R.text.length ≤ q.text.length := by
    intro R hR
    subst hR
    unfold readyE
    repeat' split
    all_goals simp
  obtain ⟨k1, k2, k3, k4⟩ := hq _ rfl
  obtain ⟨r1, r2, r3, r4⟩ := hr _ k1
  unfold stepE
  simp only
  refine ⟨by rw [List.length_append, List.length_append]; omega, by omega, by omega, by omega⟩
end Go.Proofs.YtfekjlajagoooaaDoor

/-! ## Layer 8: the document's All. -/
namespace Go.Proofs.YtfekjlajagoooaaDoor
open Go.RowKit Ev

theorem build_refp (W : World) : (Instr.build 38 #[]).run Tryd.prog W = .ok (.agg (cellsQ q0 (.slice none 0 0))) W := run_build W 38 #[] _ (by kernel_rfl)
theorem refp_new (w : World) : RefP w (w.alloc (.cells (cellsQ q0 (.slice none 0 0)) 38)) w.heap.size w.heap.size q0 [] none 0 :=
  ⟨Deep.blk_alloc_new _ _, Told.nil _ _ _, rfl, by decide, (Below.refl _ _).alloc (Nat.le_refl _) _, Nat.le_refl _, by simp⟩

/-- How long what it keeps may be behind k bytes. -/
structure Bnd (q : Q) (L : List EV) (k : Nat) : Prop where
  told : L.length ≤ 4 * k
  list : q.list.length ≤ k
  mids : q.mids.length ≤ k
  text : q.text.length ≤ k
theorem Bnd.small {q : Q} {L : List EV} {k : Nat} (h : Bnd q L k) (hk : k ≤ 200000) : Small q L := ⟨by have := h.told; omega, by have := h.list; omega, by have := h.mids; omega, by have := h.text; omega⟩
theorem Bnd.step {q : Q} {L : List EV} {k : Nat} (h : Bnd q L k) (hk : D5.Dec.fullB q.kept = false) (b : UInt8) : Bnd (stepE q b).2 (L ++ (stepE q b).1) (k + 1) := by
  obtain ⟨h1, h2, h3, h4⟩ := step_len q b hk
  exact ⟨by rw [List.length_append]; have := h.told; omega, by have := h.list; omega, by have := h.mids; omega, by have := h.text; omega⟩
theorem runE_takeS (l : List UInt8) (k : Nat) (hk : k < l.length) : runE q0 (l.take (k + 1)) = ((runE q0 (l.take k)).1 ++ (stepE (runE q0 (l.take k)).2 l[k]).1, (stepE (runE q0 (l.take k)).2 l[k]).2) := by
  rw [List.take_succ_eq_append_getElem hk]
  exact runE_snoc q0 (l.take k) l[k]

/-- The document's parser, behind the first k bytes. -/
def RefAt (w0 wr : World) (base a : Nat) (l : List UInt8) (k : Nat) : Prop := Bnd (runE q0 (l.take k)).2 (runE q0 (l.take k)).1 k ∧ ∃ A c, RefP w0 wr base a (runE q0 (l.take k)).2 (runE q0 (l.take k)).1 A c
theorem refE_byte {w0 w : World} {base a : Nat} {l : List UInt8} {k : Nat} (h : RefAt w0 w base a l k) (hk : k < l.length) (hm : k ≤ 200000) :
    Calls Tryd.prog 18 #[.pointer (some ⟨a, 0, none⟩), .int .u8 ((l[k]).toNat : Int)] w fun e w' => e = .returned (.tuple #[]) ∧ RefAt w0 w' base a l (k + 1) ∧ w.heap.size ≤ w'.heap.size := by
  obtain ⟨hb, A, c, hR⟩ := h
  refine (Byte_any hR (hb.small hm) l[k]).mono ?_
  rintro e w1 ⟨rfl, A2, c2, h2, hz⟩
  refine ⟨rfl, ?_, hz⟩
  unfold RefAt
  rw [runE_takeS l k hk]
  exact ⟨hb.step hR.ok _, A2, c2, h2⟩

/-- What All answers: the events, of the call's own. -/
def AllE (w : World) (L : List EV) (e : Ending) (w' : World) : Prop := ∃ A c, e = .returned (.slice A L.length c) ∧ Told w' w.heap.size 89 (.slice A L.length c) L ∧ Below w.heap.size w w'

set_option maxRecDepth 100000 in
set_option maxHeartbeats 1000000 in
theorem allE_any (s : ByteArray) (l : List UInt8) (hl : l = s.data.toList) (hs : s.size ≤ 100000) (w : World) :
    Calls Tryd.prog 22 #[.string s] w (AllE w (allE l)) := by
  have hlen : l.length = s.size := by rw [hl]; rfl
  have HL := Lib.hid hl
  have HLen := Lib.hid hlen
  have kb := build_refp
  clear hl hlen
  go_enter Tryd.func22, Tryd.ntmps22
  go_wp2
  go_loopw [4] (fun i wr => ∃ k : Nat, k ≤ s.size ∧ i = .int .i64 k ∧ RefAt w wr w.heap.size w.heap.size l k) (fun i _ => s.size - (RowKit.intOf i).toNat)
  case atStart => exact ⟨0, Nat.zero_le _, rfl, ⟨Nat.zero_le _, Nat.zero_le _, Nat.zero_le _, Nat.zero_le _⟩, none, 0, refp_new w⟩
  case round =>
    obtain ⟨k, hk, rfl, href⟩ := hrel
    rename_i wr
    by_cases hlt : k < s.size
    · have hlt' : k < l.length := by rw [HLen.out]; exact hlt
      have hb : l[k] = s[k] := by have := HL.out; subst this; rfl
      have C0 := refE_byte href hlt' (by omega)
      rw [hb] at C0
      have C := Lib.hid C0
      clear C0 href hb
      go_wp2_with fail
      refine (show Calls _ _ _ _ _ from C.out).mono ?_
      rintro e w1 ⟨rfl, h1, _⟩
      have H1 := Lib.hid h1
      clear h1 C
      go_wp2
      go_roundw
      case rel => exact ⟨k + 1, by omega, by go_num, H1.out⟩
      case measure => simp [RowKit.intOf]; omega
    · have hkn : k = s.size := by omega
      subst hkn
      obtain ⟨hbn, A, c, hR⟩ := href
      rw [List.take_of_length_le (by rw [HLen.out]; exact Nat.le_refl _)] at hbn hR
      have C := Lib.hid (End_any hR (by have := hbn.told; omega))
      clear hR hbn
      go_wp2_with fail
      refine (show Calls _ _ _ _ _ from C.out).mono ?_
      rintro e w1 ⟨rfl, A2, c2, h2, _⟩
      have HX : Hid (AllE w (allE l) (.returned (.slice A2 ((runE q0 l).1 ++ markE (runE q0 l).2).length c2)) w1) := Lib.hid ⟨A2, c2, rfl, h2.told, h2.old⟩
      obtain ⟨n, hn⟩ : ∃ n, n = ((runE q0 l).1 ++ markE (runE q0 l).2).length := ⟨_, rfl⟩
      have c6 : w1.cell? ⟨w.heap.size, 6, none⟩ = some (.slice A2 n c2) := by rw [cell_at h2.blk, hn]; rfl
      rw [← hn] at HX
      clear h2 C hn
      go_wp2
      go_ret
      exact HX.out
end Go.Proofs.YtfekjlajagoooaaDoor
