/- Layer 14: the law's wakes. -/
import Derived.Test.YtpanhkhiomgclaaBaT
set_option linter.unusedVariables false
namespace Go.Proofs.Ytpanhkhiomgclaa.Ba
open Go.RowKit

/-- Two literals beside what a call has made: the law's same of both. -/
theorem same_lit {w V : World} {v : Value} {l : List Int} (m : List Int) (hv : LiesI V v l) (hm : m.length ≤ 1000) (hl : l.length ≤ 100000) (hb : Below w.heap.size w V) : Calls Try.prog 17 #[v, .slice (some ⟨V.heap.size, 0, none⟩) m.length m.length] (V.alloc (.cells (intsC m).toArray 3)) fun e w' => e = .returned (.bool (decide (l = m))) ∧ Below V.heap.size V w' := by
  have hA : Below V.heap.size V (V.alloc (.cells (intsC m).toArray 3)) := (Below.refl _ _).alloc (Nat.le_refl _) _
  exact (same_any (hv.below hA) (lit_ints V m hm) hl).mono fun e w' ⟨he, hb⟩ => ⟨he, hA.trans (hb.mono hA.size)⟩

set_option maxRecDepth 100000 in
set_option maxHeartbeats 4000000 in
theorem wakes_any (w : World) : Calls Try.prog 8 #[] w fun e w' => e = .returned (.bool true) ∧ Below w.heap.size w w' := by
  have K0 := Lib.hid (new_any 2 w (in_small (by decide) (by decide)))
  go_enter Try.func8, Try.ntmps8
  go_wp2_with fail
  refine (show Calls _ _ _ _ _ from K0.out).mono ?_
  intro e w1 hp
  obtain ⟨s, rfl, h1⟩ := mine_new (w := w) (by decide) (Below.refl _ _) hp
  obtain ⟨p, rfl⟩ := h1.ptr
  have H := Lib.hid h1
  clear h1 hp K0
  have K1 := Lib.hid (mine_put H.out 1 (by decide))
  clear H
  go_wp2_with fail
  refine (show Calls _ _ _ _ _ from K1.out).mono ?_
  rintro e w2 ⟨rfl, h, -⟩
  have H := Lib.hid h
  clear h K1
  have K1 := Lib.hid (mine_put H.out 2 (by decide))
  clear H
  go_wp2_with fail
  refine (show Calls _ _ _ _ _ from K1.out).mono ?_
  rintro e w3 ⟨rfl, h, -⟩
  have H := Lib.hid h
  clear h K1
  have K1 := Lib.hid (mine_put H.out 3 (by decide))
  clear H
  go_wp2_with fail
  refine (show Calls _ _ _ _ _ from K1.out).mono ?_
  rintro e w4 ⟨rfl, h, -⟩
  have H : Hid (MineB w w4 (.pointer (some ⟨p, 0, none⟩)) 2 1 [2, 3]) := Lib.hid h
  clear h K1
  have K1 : Hid (Calls Try.prog 14 #[.pointer (some ⟨p, 0, none⟩), .int .i64 0] w4 fun e w' => e = .returned (.tuple #[.int .i64 2, .bool true]) ∧ MineB w w' (.pointer (some ⟨p, 0, none⟩)) 2 1 [2, 3] ∧ Below w4.heap.size w4 w') := Lib.hid (mine_at H.out 0 (in_small (by decide) (by decide)))
  clear H
  go_wp2_with fail
  refine (show Calls _ _ _ _ _ from K1.out).mono ?_
  rintro e w5 ⟨rfl, h, -⟩
  have H := Lib.hid h
  clear h K1
  have K1 : Hid (Calls Try.prog 18 #[.pointer (some ⟨p, 0, none⟩), .int .i64 9] w5 fun e w' => ∃ A c, e = .returned (.slice A 2 c) ∧ OwnI w' w5.heap.size (.slice A 2 c) [2, 3] ∧ MineB w w' (.pointer (some ⟨p, 0, none⟩)) 2 1 [2, 3] ∧ Below w5.heap.size w5 w') := Lib.hid (mine_last H.out 9 (in_small (by decide) (by decide)))
  clear H
  go_wp2_with fail
  refine (show Calls _ _ _ _ _ from K1.out).mono ?_
  rintro e w6 ⟨A6, c6, rfl, ho, h, -⟩
  have KS : Hid (Calls Try.prog 17 #[.slice A6 2 c6, .slice (some ⟨w6.heap.size, 0, none⟩) 2 2] (w6.alloc (.cells #[.int .i64 2, .int .i64 3] 3)) fun e w' => e = .returned (.bool true) ∧ Below w6.heap.size w6 w') := Lib.hid (same_lit [2, 3] (ownI_lies ho) (by decide) (by decide) (Below.refl _ _))
  have H := Lib.hid h
  clear h ho K1
  go_wp2_with fail
  refine (show Calls _ _ _ _ _ from KS.out).mono ?_
  rintro e w7 ⟨rfl, hb⟩
  have H := Lib.hid (H.out.old hb)
  clear hb KS
  have K1 : Hid (Calls Try.prog 15 #[.pointer (some ⟨p, 0, none⟩)] w7 fun e w' => e = .returned (.int .i64 2) ∧ MineB w w' (.pointer (some ⟨p, 0, none⟩)) 2 1 [2, 3] ∧ Below w7.heap.size w7 w') := Lib.hid (mine_len H.out)
  clear H
  go_wp2_with fail
  refine (show Calls _ _ _ _ _ from K1.out).mono ?_
  rintro e w8 ⟨rfl, h, -⟩
  have H := Lib.hid h
  clear h K1
  have K1 : Hid (Calls Try.prog 16 #[.pointer (some ⟨p, 0, none⟩)] w8 fun e w' => e = .returned (.int .i64 1) ∧ MineB w w' (.pointer (some ⟨p, 0, none⟩)) 2 1 [2, 3] ∧ Below w8.heap.size w8 w') := Lib.hid (mine_gone H.out)
  clear H
  go_wp2_with fail
  refine (show Calls _ _ _ _ _ from K1.out).mono ?_
  rintro e w9 ⟨rfl, h, -⟩
  have H := Lib.hid h
  clear h K1
  have K1 : Hid (Calls Try.prog 20 #[.pointer (some ⟨p, 0, none⟩), .int .i64 9] w9 fun e w' => ∃ A c, e = .returned (.slice A 2 c) ∧ OwnI w' w9.heap.size (.slice A 2 c) [2, 3] ∧ MineB w w' (.pointer (some ⟨p, 0, none⟩)) 2 1 [2, 3] ∧ Below w9.heap.size w9 w') := Lib.hid (mine_all H.out 9 (by decide) (by decide))
  clear H
  go_wp2_with fail
  refine (show Calls _ _ _ _ _ from K1.out).mono ?_
  rintro e w10 ⟨A10, c10, rfl, ho, h, -⟩
  have KS : Hid (Calls Try.prog 17 #[.slice A10 2 c10, .slice (some ⟨w10.heap.size, 0, none⟩) 2 2] (w10.alloc (.cells #[.int .i64 2, .int .i64 3] 3)) fun e w' => e = .returned (.bool true) ∧ Below w10.heap.size w10 w') := Lib.hid (same_lit [2, 3] (ownI_lies ho) (by decide) (by decide) (Below.refl _ _))
  have H := Lib.hid h
  clear h ho K1
  go_wp2_with fail
  refine (show Calls _ _ _ _ _ from KS.out).mono ?_
  rintro e w11 ⟨rfl, hb⟩
  have H := Lib.hid (H.out.old hb)
  clear hb KS
  go_wp2
  go_ret
  exact ⟨rfl, H.out.below⟩
end Go.Proofs.Ytpanhkhiomgclaa.Ba
