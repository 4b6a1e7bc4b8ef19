/- Layer 3: the document's own quota: Take. -/
import Derived.Test.YthjechngpjkgnaaRefQ
namespace Go.Proofs.Ythjechngpjkgnaa
open Go.RowKit Go.Maps Go.ChangeMaps

/-- Only the struct r and its takes (v), and new blocks, have turned. -/
structure Moved (w w' : World) (r : Nat) (v v' : Value) : Prop where
  os : w'.os = w.os
  tape : w'.tape = w.tape
  output : w'.output = w.output
  size : w.heap.size ≤ w'.heap.size
  block : ∀ k, k < w.heap.size → k ≠ r → v.ownBlock ≠ some k → w'.heap[k]? = w.heap[k]?
  own : ∀ g, v'.ownBlock = some g → v.ownBlock = some g ∨ w.heap.size ≤ g

def takeL (most : Int) (l : List Tk) (key : ByteArray) (x : Int) : List Tk := if okB most (tk key l) x then l ++ [⟨key, x⟩] else l

def RTakePost (w : World) (r : Nat) (most : Int) (v : Value) (l : List Tk) (key : ByteArray) (x : Int) (b : Bool) (e : Ending) (w' : World) : Prop :=
  ∃ v', e = .returned (.bool b) ∧ IsR w' r most v' (takeL most l key x) ∧ Moved w w' r v v'

theorem info_take : (Try.prog.info? 65).map (fun i => (i.zero, i.size, i.bytes)) = some (some (.agg #[.string ⟨#[]⟩, .int .i64 0]), 2, 24) := by kernel_rfl

section
variable {w w' : World} {r : Nat} {most : Int} {v : Value} {l : List Tk}

theorem isR_ne (h : IsR w r most v l) : v.ownBlock ≠ some r := by
  intro e
  rcases h.own.2 with ⟨rfl, _⟩ | ⟨g, cap', cur, rfl, _, hh, _⟩
  · simp [Value.ownBlock] at e
  · have : g = r := by simpa [Value.ownBlock] using e
    subst this
    have := h.blk
    rw [hh] at this
    injection this with this
    injection this with _ ht
    exact absurd ht (by decide)

theorem tks_snoc {base : Nat} {x : Tk} {m : Nat} (hm : m = l.length + 1) (h : w.ownsRow base 65 2 v m (flat l ++ x.cells)) : Tks w base v (l ++ [x]) := by
  subst hm
  unfold Tks
  rw [show (l ++ [x]).length = l.length + 1 by simp, show flat (l ++ [x]) = flat l ++ x.cells by simp [flat]]
  exact h

theorem news_tk {B : Nat} {x : Tk} {t : TypeId} (h : w.heap[B]? = some (.cells #[.string x.k, .int .i64 x.n] t (0, 0))) : ∀ j u, x.cells[j]? = some u → w.cell? ((⟨B, 0, none⟩ : Addr).add j) = some u := by
  intro j u hu
  rw [Addr.add_mid, cell_of h]
  simpa [Tk.cells] using hu
theorem one_tk (x : Tk) : ∀ u ∈ x.cells, u.oneCell' = true := by
  intro u hu
  simp [Tk.cells] at hu
  rcases hu with rfl | rfl <;> rfl

/-- Behind the append and the store. -/
theorem rtake_done {wa w5 : World} {x : Tk} {g cap' : Nat} (h : IsR w r most v l) (ha : Below w.heap.size w wa)
    (hown : w5.ownsRow 0 65 2 (.slice (some ⟨g, 0, none⟩) (l.length + 1) cap') (l.length + 1) (flat l ++ x.cells)) (hg : wa.grownBy w5 v.ownBlock) (hat : v.ownBlock = some g ∨ w.heap.size ≤ g) (h0 : okB most (tk x.k l) x.n = true) :
    RTakePost w r most v l x.k x.n true (.returned (.bool true)) (w5.setCell ⟨r, 1, none⟩ (.slice (some ⟨g, 0, none⟩) (l.length + 1) cap')) := by
  have hne := isR_ne h
  have hr := lt_of h.blk
  have hsa := ha.size
  have hs5 := hg.size
  have hkeep : ∀ k, k < w.heap.size → v.ownBlock ≠ some k → w5.heap[k]? = w.heap[k]? := fun k hk hn => (hg.block k (Nat.lt_of_lt_of_le hk hsa) (fun e => hn e.symm)).trans (ha.block k hk)
  have hset : ∀ k, k ≠ r → (w5.setCell ⟨r, 1, none⟩ (.slice (some ⟨g, 0, none⟩) (l.length + 1) cap')).heap[k]? = w5.heap[k]? := fun k hk => Below.heap_setCell w5 ⟨r, 1, none⟩ _ k hk
  have hgr : g ≠ r := by
    rintro rfl
    rcases hat with h | h
    · exact hne h
    · omega
  have hb5 : w5.heap[r]? = some (.cells #[.int .i64 most, v] 43 (0, 0)) := (hkeep r hr hne).trans h.blk
  refine ⟨.slice (some ⟨g, 0, none⟩) (l.length + 1) cap', rfl, ⟨(blk_set hb5 1 _).trans rfl, ?_⟩, ?_⟩
  · rw [takeL, if_pos h0]
    refine tks_block (tks_snoc rfl hown) fun k hk => hset k ?_
    have : g = k := by simpa [Value.ownBlock] using hk
    omega
  · refine ⟨hg.os.trans ha.os, hg.tape.trans ha.tape, hg.output.trans ha.output, by simp [World.setCell]; omega, fun k hk hkg hn => ?_, fun k hk => ?_⟩
    · rw [hset k hkg, hkeep k hk hn]
    · have : g = k := by simpa [Value.ownBlock] using hk
      exact this ▸ hat

theorem rtake_not {key : ByteArray} {x : Int} (h : IsR w r most v l) (h0 : okB most (tk key l) x = false) : RTakePost w r most v l key x false (.returned (.bool false)) w :=
  ⟨v, rfl, by rw [takeL, h0]; exact h, rfl, rfl, rfl, Nat.le_refl _, fun _ _ _ _ => rfl, fun _ h => Or.inl h⟩

set_option maxHeartbeats 1600000 in
theorem rtake_any (key : ByteArray) (x : Int) (h : IsR w r most v l) (hG : Good l) (hm : tk key l ≤ most ∧ most ≤ 1099511627776) (hlen : l.length ≤ 300) {b : Bool} (hb : okB most (tk key l) x = b) :
    Calls Try.prog 16 #[.pointer (some ⟨r, 0, none⟩), .string key, .int .i64 x] w (RTakePost w r most v l key x b) := by
  have HL := Lib.hid (rleft_any key h hG hm)
  have hnn := tk_nonneg key l hG
  cases b with
  | false =>
    have HP := Lib.hid (rtake_not h hb)
    have hx : x < 0 ∨ 0 ≤ x ∧ most - tk key l < x := by
      simp [okB] at hb
      omega
    clear h hG hb
    rcases hx with hx | ⟨hx, hx2⟩
    · go_enter Try.func16, Try.ntmps16
      go_wp2_with fail
      go_ret
      exact HP.out
    · go_enter Try.func16, Try.ntmps16
      go_wp2_with fail
      refine HL.out.mono ?_
      rintro e w' ⟨rfl, rfl⟩
      go_wp2_with fail
      go_ret
      exact HP.out
  | true =>
    have hx : 0 ≤ x ∧ x ≤ most - tk key l := by simpa [okB] using hb
    obtain ⟨i0, hi, hz0, hz1, hz2⟩ := info_parts info_take
    have HI := Lib.hid hi; have HZ0 := Lib.hid hz0; have HZ1 := Lib.hid hz1; have HZ2 := Lib.hid hz2
    have H := Lib.hid h
    have HB := Lib.hid hb
    have c1 := h.cells.2
    have hr := lt_of h.blk
    have HA := Lib.hid ((Below.refl _ w).alloc (Nat.le_refl _) (.cells #[.string key, .int .i64 x] 65))
    have HOW := Lib.hid (show (w.alloc (.cells #[.string key, .int .i64 x] 65)).ownsRow 0 65 2 v l.length (flat l) from World.ownsRow.alloc h.own _)
    have HN1 := Lib.hid (show ∀ j u, (Tk.cells ⟨key, x⟩)[j]? = some u → (w.alloc (.cells #[.string key, .int .i64 x] 65)).cell? ((⟨w.heap.size, 0, none⟩ : Addr).add j) = some u from news_tk (x := ⟨key, x⟩) (MapKept.heap_alloc w _).1)
    have HN2 := Lib.hid (one_tk ⟨key, x⟩)
    have HCU := Lib.hid (show ∀ w5 : World, ((w.alloc (.cells #[.string key, .int .i64 x] 65)).grownBy w5 v.ownBlock) → w5.cell? ⟨r, 1, none⟩ = some v ∧ w5.frozen? ⟨r, 1, none⟩ = false from by
      intro w5 hg
      have hb : w5.heap[r]? = w.heap[r]? := (hg.block r (by simp; omega) (fun e => isR_ne H.out e.symm)).trans (HA.out.block r hr)
      exact ⟨(World.cell?_of_block (w := w) (a := ⟨r, 1, none⟩) hb).trans H.out.cells.2, (World.frozen?_of_block (w := w) (a := ⟨r, 1, none⟩) hb).trans (frozen_of H.out.blk 1)⟩)
    clear h hG hb hi hz0 hz1 hz2
    go_enter Try.func16, Try.ntmps16
    go_wp2_with fail
    refine HL.out.mono ?_
    rintro e w' ⟨rfl, rfl⟩
    go_wp2_with (at_builtin; refine wpList_append_lies _ rfl (.tmp 20) (.tmp 24) 41 rfl 0 65 i0 _ 2 24 Try.underlying41 HI.out HZ0.out HZ1.out HZ2.out rfl (by decide) v l.length _ rfl HOW.out ⟨w.heap.size, 0, none⟩ 1 1 (Tk.cells ⟨key, x⟩) rfl rfl HN1.out HN2.out (by omega) (by unfold maxLen; omega) (by omega) (Nat.zero_le _) _ rfl ?_; intro g cap' w5 hown hgrow hat hlt5; have cu5 := (HCU.out w5 hgrow).1; have fu5 := (HCU.out w5 hgrow).2; have HOW5 := Lib.hid hown; have HGR := Lib.hid hgrow; have HAT := Lib.hid hat; clear hown hgrow hat hlt5)
    go_ret
    exact rtake_done (x := ⟨key, x⟩) H.out HA.out HOW5.out HGR.out (HAT.out.imp id (by rintro rfl; simp)) HB.out

end
end Go.Proofs.Ythjechngpjkgnaa
