/- Layer 2: At, Seen. -/
import Derived.Test.YtjfonbkeamhnmaaAudD
import Derived.OwnWalk
namespace Go.Proofs.Ytjfonbkeamhnmaa
open Go.RowKit Lat

theorem at_none (gb lb n : Nat) (T : Nat → Nat → Bool) (v : Value) (l : List Ent) (i : Int) (w : World) (h : IsLog w gb lb n T v l) (hi : i < 0 ∨ (l.length : Int) ≤ i) :
    Calls Try.prog 20 #[.pointer (some ⟨gb, 0, none⟩), .int .i64 i] w fun e w' => e = .returned (.tuple #[noEnt, .bool false]) ∧ Below w.heap.size w w' := by
  have H := Lib.hid (fun o => h.alloc o)
  clear h
  by_cases h0 : i < 0
  · clear hi
    go_enter Try.func20, Try.ntmps20
    go_wp2
    refine bodyPost_ret (v := .tuple #[noEnt, .bool false]) (by simp [results, Try.results20, go_sem, noEnt]) rfl ⟨rfl, ?_⟩
    exact (Below.refl _ w).alloc (Nat.le_refl _) _
  · have hd : decide (i < 0) = false := by simpa using h0
    have hd2 : decide ((l.length : Int) ≤ i) = true := by simp; omega
    go_enter Try.func20, Try.ntmps20
    go_wp2_with (go_at_call 12; refine (logLen_any gb lb n T v l _ (H.out _)).mono ?_; rintro e w' ⟨rfl, rfl⟩)
    refine bodyPost_ret (v := .tuple #[noEnt, .bool false]) (by simp [results, Try.results20, go_sem, noEnt]) rfl ⟨rfl, ?_⟩
    exact (Below.refl _ w).alloc (Nat.le_refl _) _

theorem at_some (gb lb n : Nat) (T : Nat → Nat → Bool) (v : Value) (l : List Ent) (k : Nat) (w : World) (h : IsLog w gb lb n T v l) (hk : k < l.length) :
    Calls Try.prog 20 #[.pointer (some ⟨gb, 0, none⟩), .int .i64 k] w fun e w' => e = .returned (.tuple #[(l[k]).val, .bool true]) ∧ Below w.heap.size w w' := by
  have H := Lib.hid (fun o => h.alloc o)
  obtain ⟨A, c, rfl, hm, hr⟩ := ents_shape h.own
  obtain ⟨g, rfl, hg, hra⟩ := hr k hk
  have c1 : ∀ o : Obj, (w.alloc o).cell? ⟨gb, 1, none⟩ = _ := fun o => (h.alloc o).cells.2
  generalize l[k] = x at hra
  obtain ⟨xb, xf, xt, xs⟩ := x
  have hra' : ∀ o : Obj, (w.alloc o).rangeAt g (k * 4) (Ent.cells ⟨xb, xf, xt, xs⟩) := fun o j u hj => (World.cell?_alloc_lt w o _ hg).trans (hra j u hj)
  have k0 := fun o => hra' o 0 _ rfl
  have k1 := fun o => hra' o 1 _ rfl
  have k2 := fun o => hra' o 2 _ rfl
  have k3 := fun o => hra' o 3 _ rfl
  simp only [Nat.add_zero] at k0
  clear h hr hra hra'
  have hd2 : decide ((l.length : Int) ≤ k) = false := by simp; omega
  go_enter Try.func20, Try.ntmps20
  go_wp2_with (go_at_call 12; refine (logLen_any gb lb n T _ l _ (H.out _)).mono ?_; rintro e w' ⟨rfl, rfl⟩)
  refine bodyPost_ret (v := .tuple #[Ent.val ⟨xb, xf, xt, xs⟩, .bool true]) (by simp [results, Try.results20, go_sem, Ent.val]) rfl ⟨rfl, ?_⟩
  exact (Below.refl _ w).alloc (Nat.le_refl _) _

def seenL (n : Nat) (T : Nat → Nat → Bool) (l : List Ent) (x : Int) : List Ent := l.filter fun y => belowV n T y.b x
theorem seen_snoc (n : Nat) (T : Nat → Nat → Bool) (l : List Ent) (x : Int) (y : Ent) : seenL n T (l ++ [y]) x = seenL n T l x ++ if belowV n T y.b x then [y] else [] := by
  unfold seenL
  rw [List.filter_append]
  cases h : belowV n T y.b x <;> simp [h]
theorem seen_len (n : Nat) (T : Nat → Nat → Bool) (l : List Ent) (x : Int) : (seenL n T l x).length ≤ l.length := List.length_filter_le _ _

theorem info_ent : (Try.prog.info? 30).map (fun i => (i.zero, i.size, i.bytes)) = some (some (.agg #[.int .i64 0, .int .i64 0, .int .i64 0, .string ⟨#[]⟩]), 4, 40) := by kernel_rfl

/-- The cells of a new block of one entry. -/
theorem news_ent {w : World} {B : Nat} {x : Ent} {t : TypeId} (h : w.heap[B]? = some (.cells #[.int .i64 x.b, .int .i64 x.f, .int .i64 x.t, .string x.s] t (0, 0))) : ∀ j u, x.cells[j]? = some u → w.cell? ((⟨B, 0, none⟩ : Addr).add j) = some u := by
  intro j u hu
  rw [Addr.add_mid, cell_of h]
  simpa [Ent.cells] using hu
theorem one_ent (x : Ent) : ∀ u ∈ x.cells, u.oneCell' = true := by
  intro u hu
  simp [Ent.cells] at hu
  rcases hu with rfl | rfl | rfl | rfl <;> rfl

theorem ents_snoc {w : World} {base : Nat} {v : Value} {l : List Ent} {x : Ent} {m : Nat} (hm : m = l.length + 1) (h : w.ownsRow base 30 4 v m (flat l ++ x.cells)) : Ents w base v (l ++ [x]) := by
  subst hm
  unfold Ents
  rw [show (l ++ [x]).length = l.length + 1 by simp, show flat (l ++ [x]) = flat l ++ x.cells by simp [flat]]
  exact h
theorem ents_ge {w : World} {base : Nat} {v : Value} {l : List Ent} (h : Ents w base v l) : ∀ g, v.ownBlock = some g → base ≤ g := fun g hg => (World.ownsRow.lt h g hg).1

def SeenPost (w : World) (l : List Ent) (e : Ending) (w' : World) : Prop := ∃ v, e = .returned v ∧ Ents w' w.heap.size v l ∧ Below w.heap.size w w'

set_option maxHeartbeats 1000000 in
theorem seen_any (gb lb n : Nat) (T : Nat → Nat → Bool) (v : Value) (l : List Ent) (x : Int) (w : World) (h : IsLog w gb lb n T v l) (hlen : l.length ≤ 100000) :
    Calls Try.prog 13 #[.pointer (some ⟨gb, 0, none⟩), .int .i64 x] w (SeenPost w (seenL n T l x)) := by
  have c1 := h.cells.2
  have C0 := Lib.hid h.cells.1
  have hgb := lt_of h.blk
  obtain ⟨A, c, rfl, hm, hr⟩ := ents_shape h.own
  have H := Lib.hid h
  have HL := Lib.hid h.lat
  have HR := Lib.hid hr
  obtain ⟨i0, hi, hz0, hz1, hz2⟩ := info_parts info_ent
  have HI := Lib.hid hi; have HZ0 := Lib.hid hz0; have HZ1 := Lib.hid hz1; have HZ2 := Lib.hid hz2
  clear h hr hi hz0 hz1 hz2
  go_enter Try.func13, Try.ntmps13
  go_wp2_with (go_at_call 26; refine (made_any gb lb n T _ l _ H.out).mono ?_; rintro e w' ⟨rfl, rfl⟩)
  clear c1
  go_loopw [5, 16] (fun r i wr => ∃ k : Nat, k ≤ l.length ∧ i = .int .i64 k ∧ Ents wr w.heap.size r (seenL n T (l.take k) x) ∧ Below w.heap.size w wr) (fun _ i _ => l.length - (intOf i).toNat)
  case atStart => exact ⟨0, Nat.zero_le _, rfl, ⟨rfl, Or.inl ⟨rfl, rfl⟩⟩, Below.refl _ _⟩
  case round =>
    obtain ⟨k, hk, rfl, hown, hB⟩ := hrel
    rename_i r
    by_cases hlt : k < l.length
    · obtain ⟨g, rfl, hg, hra⟩ := HR.out k hlt
      have hs := seen_snoc n T (l.take k) x l[k]
      rw [← take_snoc' l k hlt] at hs
      generalize l[k] = y at hs hra
      obtain ⟨yb, yf, yt, ys⟩ := y
      have HRA := Lib.hid (show wr.rangeAt g (k * 4) (Ent.cells ⟨yb, yf, yt, ys⟩) from fun j u hj => (hB.cell (p := ⟨g, k * 4 + j, none⟩) hg).trans (hra j u hj))
      have k0 := HRA.out 0 _ rfl
      have k1 := HRA.out 1 _ rfl
      have k2 := HRA.out 2 _ rfl
      have k3 := HRA.out 3 _ rfl
      simp only [Nat.add_zero] at k0
      have hgw : gb < wr.heap.size := Nat.lt_of_lt_of_le hgb hB.size
      have c0 : ∀ o : Obj, (wr.alloc o).cell? ⟨gb, 0, none⟩ = some (.pointer (some ⟨lb, 0, none⟩)) := fun o => (World.cell?_alloc_lt wr o ⟨gb, 0, none⟩ hgw).trans ((hB.cell (p := ⟨gb, 0, none⟩) hgb).trans C0.out)
      have hLw := HL.out.below hB (Nat.le_refl _)
      have HLW := Lib.hid (fun (o : Obj) q => (hLw.below ((Below.refl _ wr).alloc (Nat.le_refl _) o) (Nat.le_refl _)).drewN q)
      have hln : (seenL n T (l.take k) x).length ≤ k := Nat.le_trans (seen_len _ _ _ _) (List.length_take_le _ _)
      have HO := Lib.hid hown
      have HB := Lib.hid hB
      clear hra hB hown hLw
      cases hyb : belowV n T yb x
      · have HS := Lib.hid (show seenL n T (l.take (k + 1)) x = seenL n T (l.take k) x by rw [hs, hyb]; simp)
        have HC := Lib.hid (show ∀ W : World, IsLat W lb n T → Calls Try.prog 24 #[.pointer (some ⟨lb, 0, none⟩), .int .i64 yb, .int .i64 x] W fun e w' => e = .returned (.bool false) ∧ W = w' from fun W hW => hyb ▸ below_any lb n T yb x W hW)
        clear hs hyb
        go_wp2
        go_quiet ((go_at_call 24; exact still_left (HC.out _ (HLW.out _ _))))
        go_wp2
        go_roundw
        case rel => exact ⟨k + 1, by omega, by go_num, by rw [HS.out]; exact World.ownsRow.alloc HO.out _, below_drew (HB.out.alloc HB.out.size _) _⟩
        case measure => simp [intOf]; omega
      · have HS := Lib.hid (show seenL n T (l.take (k + 1)) x = seenL n T (l.take k) x ++ [⟨yb, yf, yt, ys⟩] by rw [hs, hyb]; simp)
        have HC := Lib.hid (show ∀ W : World, IsLat W lb n T → Calls Try.prog 24 #[.pointer (some ⟨lb, 0, none⟩), .int .i64 yb, .int .i64 x] W fun e w' => e = .returned (.bool true) ∧ W = w' from fun W hW => hyb ▸ below_any lb n T yb x W hW)
        clear hs hyb
        go_wp2
        go_quiet ((go_at_call 24; exact still_left (HC.out _ (HLW.out _ _))))
        go_wp2_with (at_builtin; refine wpList_append_own _ rfl (.tmp 28) (.tmp 30) 34 rfl w.heap.size 30 i0 _ 4 40 Try.underlying34 HI.out HZ0.out HZ1.out HZ2.out rfl (by decide) _ _ _ rfl (World.ownsRow.alloc (w := (wr.alloc _).drewN _) (World.ownsRow.alloc HO.out _) _) ⟨wr.heap.size + 1, 0, none⟩ 1 1 (Ent.cells ⟨yb, yf, yt, ys⟩) rfl rfl ?c1 ?c2 ?c3 ?c4 ?c5 ?_)
        case c1 => exact news_ent (x := ⟨yb, yf, yt, ys⟩) (by rw [show wr.heap.size + 1 = ((wr.alloc _).drewN _).heap.size from by simp]; exact heap_alloc_new _ _)
        case c2 => exact one_ent _
        case c3 => unfold maxLen; omega
        case c4 => omega
        case c5 => have := HB.out.size; simp; omega
        intro v' w1 hown' hg _
        have HO2 := Lib.hid (show Ents w1 w.heap.size v' (seenL n T (l.take (k + 1)) x) from by rw [HS.out]; exact ents_snoc rfl hown')
        have HB2 := Lib.hid (((below_drew (HB.out.alloc HB.out.size _) _).alloc (by have := HB.out.size; simp; omega) _).grown hg (by have := HB.out.size; simp; omega) (ents_ge HO.out))
        clear hown' hg HO HB
        go_wp2
        go_roundw
        case rel => exact ⟨k + 1, by omega, by go_num, HO2.out, HB2.out⟩
        case measure => simp [intOf]; omega
    · have hkn : k = l.length := by omega
      subst hkn
      have HO := Lib.hid hown
      have HB := Lib.hid hB; clear hB hown
      go_wp2
      go_ret
      rw [List.take_length] at HO
      exact ⟨_, rfl, HO.out, HB.out⟩
end Go.Proofs.Ytjfonbkeamhnmaa
