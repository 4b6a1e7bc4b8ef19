/- Layer 12: the program's some, nearest; Right and where a cursor comes to. -/
import Derived.Test.YtfkiihddcinckaaTbR
import Derived.Test.YtfkiihddcinckaaTbG
import Derived.Test.YtfkiihddcinckaaTbS
set_option linter.unusedVariables false
namespace Go.Proofs.Ytfkiihddcinckaa.Tb
open Go.RowKit

theorem some_any (n : Int) (w : World) : Calls Try.prog 43 #[.int .i64 n] w fun e w' => e = .returned (.int .i64 (max n 1)) ∧ w = w' := by
  go_enter Try.func43, Try.ntmps43
  go_wp2
  all_goals
    go_ret
    exact ⟨ret_num (by omega), rfl⟩
theorem nearest_any (n a b : Int) (w : World) : Calls Try.prog 40 #[.int .i64 n, .int .i64 a, .int .i64 b] w fun e w' => e = .returned (.int .i64 (max a (min n b))) ∧ w = w' := by
  go_enter Try.func40, Try.ntmps40
  go_wp2
  all_goals
    go_ret
    exact ⟨ret_num (by omega), rfl⟩

abbrev areaV (W H T B : Int) : Value := .agg #[.int .i64 W, .int .i64 H, .int .i64 T, .int .i64 B]
theorem near_max (n a b : Int) (h : a ≤ b) : max a (min n b) = nearV n a b := by
  unfold nearV
  by_cases h1 : n < a
  · rw [if_pos h1]; omega
  · rw [if_neg h1]
    by_cases h2 : n > b
    · rw [if_pos h2]; omega
    · rw [if_neg h2]; omega
section
variable (W H T B : Int) (w : World)

set_option maxRecDepth 100000 in
theorem right_any0 : Calls Try.prog 25 #[areaV W H T B] w fun e w' => e = .returned (.bool (mayB W H T B)) ∧ Below w.heap.size w w' := by
  have HB : Hid (Below w.heap.size w (w.alloc (.cells #[.int .i64 W, .int .i64 H, .int .i64 T, .int .i64 B] 43))) := Lib.hid ((Below.refl _ _).alloc (Nat.le_refl _) _)
  go_enter Try.func25, Try.ntmps25
  go_wp2
  all_goals
    go_ret
    first
      | exact ⟨ret_bool (by rw [Bool.eq_iff_iff, may_iff]; simp only [Bool.false_eq_true, false_iff]; omega), HB.out⟩
      | exact ⟨ret_bool (by rw [Bool.eq_iff_iff, may_iff]; simp only [decide_eq_true_eq]; omega), HB.out⟩

/-- An area in memory, from a world on. -/
def arO (W H T B : Int) : Obj := .cells #[.int .i64 W, .int .i64 H, .int .i64 T, .int .i64 B] 43
theorem ar_new : ∃ W0, w.alloc (arO W H T B) = W0 ∧ Below w.heap.size w W0 ∧ w.heap.size < W0.heap.size ∧ ∀ V, Below W0.heap.size W0 V → V.heap[w.heap.size]? = some (arO W H T B) :=
  ⟨_, rfl, (Below.refl _ _).alloc (Nat.le_refl _) _, by simp, fun V hV => (hV.block _ (by simp)).trans (heap_new w _)⟩

/-- Of an area that may not be: 0. -/
def ZeroP (w : World) (r : Value) (e : Ending) (w' : World) : Prop := e = .returned r ∧ Below w.heap.size w w'

set_option maxRecDepth 100000 in
theorem up_no (hm : mayB W H T B = false) (y n : Int) : Calls Try.prog 27 #[areaV W H T B, .int .i64 y, .int .i64 n] w fun e w' => e = .returned (.int .i64 0) ∧ Below w.heap.size w w' := by
  obtain ⟨W0, hW0, hB, hlt, hq⟩ := ar_new W H T B w
  have HR : Hid (Calls Try.prog 25 #[areaV W H T B] W0 fun e w' => e = .returned (.bool false) ∧ Below W0.heap.size W0 w') := Lib.hid (by have := right_any0 W H T B W0; rwa [hm] at this)
  have HQ := Lib.hid hq
  have HW := Lib.hid hW0
  have HB := Lib.hid hB
  have HR0 := (HQ.out W0 (Below.refl _ _))
  have c0 := cell_of HR0 0
  have c1 := cell_of HR0 1
  have c2 := cell_of HR0 2
  have c3 := cell_of HR0 3
  clear hW0 hB hq hm hlt HR0
  go_enter Try.func27, Try.ntmps27
  go_upto_region 1 with fail
  change Code.wp _ _ _ _ (w.alloc (arO W H T B))
  rw [HW.out]
  clear HW
  go_wp2_with fail
  refine (show Calls _ _ _ _ _ from HR.out).mono ?_
  rintro e w1 ⟨rfl, j1⟩
  have J1 := Lib.hid (HB.out.trans (j1.mono HB.out.size))
  clear j1 c0 c1 c2 c3
  go_wp2
  go_ret
  exact ⟨rfl, J1.out⟩

set_option maxRecDepth 100000 in
theorem down_no (hm : mayB W H T B = false) (y n : Int) : Calls Try.prog 28 #[areaV W H T B, .int .i64 y, .int .i64 n] w fun e w' => e = .returned (.int .i64 0) ∧ Below w.heap.size w w' := by
  obtain ⟨W0, hW0, hB, hlt, hq⟩ := ar_new W H T B w
  have HR : Hid (Calls Try.prog 25 #[areaV W H T B] W0 fun e w' => e = .returned (.bool false) ∧ Below W0.heap.size W0 w') := Lib.hid (by have := right_any0 W H T B W0; rwa [hm] at this)
  have HQ := Lib.hid hq
  have HW := Lib.hid hW0
  have HB := Lib.hid hB
  have HR0 := (HQ.out W0 (Below.refl _ _))
  have c0 := cell_of HR0 0
  have c1 := cell_of HR0 1
  have c2 := cell_of HR0 2
  have c3 := cell_of HR0 3
  clear hW0 hB hq hm hlt HR0
  go_enter Try.func28, Try.ntmps28
  go_upto_region 1 with fail
  change Code.wp _ _ _ _ (w.alloc (arO W H T B))
  rw [HW.out]
  clear HW
  go_wp2_with fail
  refine (show Calls _ _ _ _ _ from HR.out).mono ?_
  rintro e w1 ⟨rfl, j1⟩
  have J1 := Lib.hid (HB.out.trans (j1.mono HB.out.size))
  clear j1 c0 c1 c2 c3
  go_wp2
  go_ret
  exact ⟨rfl, J1.out⟩

set_option maxRecDepth 100000 in
theorem left_no (hm : mayB W H T B = false) (x n : Int) : Calls Try.prog 29 #[areaV W H T B, .int .i64 x, .int .i64 n] w fun e w' => e = .returned (.int .i64 0) ∧ Below w.heap.size w w' := by
  obtain ⟨W0, hW0, hB, hlt, hq⟩ := ar_new W H T B w
  have HR : Hid (Calls Try.prog 25 #[areaV W H T B] W0 fun e w' => e = .returned (.bool false) ∧ Below W0.heap.size W0 w') := Lib.hid (by have := right_any0 W H T B W0; rwa [hm] at this)
  have HQ := Lib.hid hq
  have HW := Lib.hid hW0
  have HB := Lib.hid hB
  have HR0 := (HQ.out W0 (Below.refl _ _))
  have c0 := cell_of HR0 0
  have c1 := cell_of HR0 1
  have c2 := cell_of HR0 2
  have c3 := cell_of HR0 3
  clear hW0 hB hq hm hlt HR0
  go_enter Try.func29, Try.ntmps29
  go_upto_region 1 with fail
  change Code.wp _ _ _ _ (w.alloc (arO W H T B))
  rw [HW.out]
  clear HW
  go_wp2_with fail
  refine (show Calls _ _ _ _ _ from HR.out).mono ?_
  rintro e w1 ⟨rfl, j1⟩
  have J1 := Lib.hid (HB.out.trans (j1.mono HB.out.size))
  clear j1 c0 c1 c2 c3
  go_wp2
  go_ret
  exact ⟨rfl, J1.out⟩

set_option maxRecDepth 100000 in
theorem ahead_no (hm : mayB W H T B = false) (x n : Int) : Calls Try.prog 30 #[areaV W H T B, .int .i64 x, .int .i64 n] w fun e w' => e = .returned (.int .i64 0) ∧ Below w.heap.size w w' := by
  obtain ⟨W0, hW0, hB, hlt, hq⟩ := ar_new W H T B w
  have HR : Hid (Calls Try.prog 25 #[areaV W H T B] W0 fun e w' => e = .returned (.bool false) ∧ Below W0.heap.size W0 w') := Lib.hid (by have := right_any0 W H T B W0; rwa [hm] at this)
  have HQ := Lib.hid hq
  have HW := Lib.hid hW0
  have HB := Lib.hid hB
  have HR0 := (HQ.out W0 (Below.refl _ _))
  have c0 := cell_of HR0 0
  have c1 := cell_of HR0 1
  have c2 := cell_of HR0 2
  have c3 := cell_of HR0 3
  clear hW0 hB hq hm hlt HR0
  go_enter Try.func30, Try.ntmps30
  go_upto_region 1 with fail
  change Code.wp _ _ _ _ (w.alloc (arO W H T B))
  rw [HW.out]
  clear HW
  go_wp2_with fail
  refine (show Calls _ _ _ _ _ from HR.out).mono ?_
  rintro e w1 ⟨rfl, j1⟩
  have J1 := Lib.hid (HB.out.trans (j1.mono HB.out.size))
  clear j1 c0 c1 c2 c3
  go_wp2
  go_ret
  exact ⟨rfl, J1.out⟩

set_option maxRecDepth 100000 in
theorem to_no (hm : mayB W H T B = false) (o : Bool) (x y : Int) : Calls Try.prog 26 #[areaV W H T B, .bool o, .int .i64 x, .int .i64 y] w fun e w' => e = .returned (.tuple #[.int .i64 0, .int .i64 0]) ∧ Below w.heap.size w w' := by
  obtain ⟨W0, hW0, hB, hlt, hq⟩ := ar_new W H T B w
  have HR : Hid (Calls Try.prog 25 #[areaV W H T B] W0 fun e w' => e = .returned (.bool false) ∧ Below W0.heap.size W0 w') := Lib.hid (by have := right_any0 W H T B W0; rwa [hm] at this)
  have HQ := Lib.hid hq
  have HW := Lib.hid hW0
  have HB := Lib.hid hB
  have HR0 := (HQ.out W0 (Below.refl _ _))
  have c0 := cell_of HR0 0
  have c1 := cell_of HR0 1
  have c2 := cell_of HR0 2
  have c3 := cell_of HR0 3
  clear hW0 hB hq hm hlt HR0
  go_enter Try.func26, Try.ntmps26
  go_upto_region 1 with fail
  change Code.wp _ _ _ _ (w.alloc (arO W H T B))
  rw [HW.out]
  clear HW
  go_wp2_with fail
  refine (show Calls _ _ _ _ _ from HR.out).mono ?_
  rintro e w1 ⟨rfl, j1⟩
  have J1 := Lib.hid (HB.out.trans (j1.mono HB.out.size))
  clear j1 c0 c1 c2 c3
  go_wp2
  go_ret2
  exact ⟨rfl, J1.out⟩
end
end Go.Proofs.Ytfkiihddcinckaa.Tb
