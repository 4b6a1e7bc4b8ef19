/- Layer 12: the program's Up, Down, Left, Ahead, To in an area that may be. -/
import Derived.Test.YtfkiihddcinckaaTbPa
import Derived.Deep.QuietTactic
import Derived.BigQuiet
set_option linter.unusedVariables false
namespace Go.Proofs.Ytfkiihddcinckaa.Tb
open Go.RowKit

theorem some_is (n : Int) : ∃ nn : Int, nn = max n 1 ∧ 1 ≤ nn ∧ ∀ V, Calls Try.prog 43 #[.int .i64 n] V fun e w' => e = .returned (.int .i64 nn) ∧ V = w' :=
  ⟨max n 1, rfl, by omega, fun V => some_any n V⟩
theorem near_is (y b : Int) (h : 0 ≤ b) : ∃ yy : Int, yy = nearV y 0 b ∧ 0 ≤ yy ∧ yy ≤ b ∧ ∀ V, Calls Try.prog 40 #[.int .i64 y, .int .i64 0, .int .i64 b] V fun e w' => e = .returned (.int .i64 yy) ∧ V = w' :=
  ⟨_, rfl, (near_in h).1, (near_in h).2, fun V => by rw [← near_max y 0 b h]; exact nearest_any y 0 b V⟩
section
variable (W H T B : Int) (w : World)

set_option maxRecDepth 100000 in
set_option maxHeartbeats 1000000 in
theorem up_yes (hm : mayB W H T B = true) (y n : Int) (hy : IntIn y) (hn : IntIn n) : Calls Try.prog 27 #[areaV W H T B, .int .i64 y, .int .i64 n] w fun e w' => e = .returned (.int .i64 (upV H T y n)) ∧ Below w.heap.size w w' := by
  obtain ⟨W0, hW0, hB, hlt, hq⟩ := ar_new W H T B w
  have HR : Hid (Calls Try.prog 25 #[areaV W H T B] W0 fun e w' => e = .returned (.bool true) ∧ Below W0.heap.size W0 w') := Lib.hid (by have := right_any0 W H T B W0; rwa [hm] at this)
  obtain ⟨⟨hW1, hW4⟩, ⟨hH1, hH4⟩, hT0, hBH, hTB⟩ := may_iff.1 hm
  obtain ⟨yy, eyy, hy0, hy1, ky⟩ := near_is y (H - 1) (by omega)
  have EY := Lib.hid eyy
  have KY := Lib.hid ky
  clear eyy ky
  obtain ⟨nn, enn, hn1, kn⟩ := some_is n
  have EN := Lib.hid enn
  have KN := Lib.hid kn
  have z1 : IntKind.i64.wrap (yy - nn) = yy - nn := IntWalk.i64_in _ (by have := hn.2; have := EN.out; omega)
  clear enn kn
  have HQ := Lib.hid hq
  have HW := Lib.hid hW0
  have HB := Lib.hid hB
  have HR0 := (HQ.out W0 (Below.refl _ _))
  have c0 := cell_of HR0 0
  have c1 := cell_of HR0 1
  have c2 := cell_of HR0 2
  have c3 := cell_of HR0 3
  clear hW0 hB hq hm hlt HR0
  go_enter Try.func27, Try.ntmps27
  go_upto_region 1 with fail
  change Code.wp _ _ _ _ (w.alloc (arO W H T B))
  rw [HW.out]
  clear HW
  go_wp2_with fail
  refine (show Calls _ _ _ _ _ from HR.out).mono ?_
  rintro e w1 ⟨rfl, j1⟩
  have J1 := Lib.hid (HB.out.trans (j1.mono HB.out.size))
  have HR1 := (HQ.out w1 j1)
  clear j1 c0 c1 c2 c3
  have c0 := cell_of HR1 0
  have c1 := cell_of HR1 1
  have c2 := cell_of HR1 2
  have c3 := cell_of HR1 3
  clear HR1
  go_wp2_with fail
  refine (show Calls _ _ _ _ _ from KY.out _).mono ?_
  rintro e w2 ⟨rfl, rfl⟩
  by_cases hcs : yy ≥ T
  · have g : decide (yy ≥ T) = true := by simpa using hcs
    go_wp2_with fail
    refine (show Calls _ _ _ _ _ from KN.out _).mono ?_
    rintro e w2 ⟨rfl, rfl⟩
    go_wp2
    all_goals
      go_ret
      exact ⟨ret_num (by unfold upV; rw [← EY.out, if_pos hcs]; unfold stepUp; have := EN.out; omega), J1.out⟩
  · have g : decide (yy ≥ T) = false := by simpa using hcs
    go_wp2_with fail
    refine (show Calls _ _ _ _ _ from KN.out _).mono ?_
    rintro e w2 ⟨rfl, rfl⟩
    go_wp2
    all_goals
      go_ret
      exact ⟨ret_num (by unfold upV; rw [← EY.out, if_neg (by omega)]; unfold stepUp; have := EN.out; omega), J1.out⟩

set_option maxRecDepth 100000 in
set_option maxHeartbeats 1000000 in
theorem down_yes (hm : mayB W H T B = true) (y n : Int) (hy : IntIn y) (hn : IntIn n) : Calls Try.prog 28 #[areaV W H T B, .int .i64 y, .int .i64 n] w fun e w' => e = .returned (.int .i64 (downV H B y n)) ∧ Below w.heap.size w w' := by
  obtain ⟨W0, hW0, hB, hlt, hq⟩ := ar_new W H T B w
  have HR : Hid (Calls Try.prog 25 #[areaV W H T B] W0 fun e w' => e = .returned (.bool true) ∧ Below W0.heap.size W0 w') := Lib.hid (by have := right_any0 W H T B W0; rwa [hm] at this)
  obtain ⟨⟨hW1, hW4⟩, ⟨hH1, hH4⟩, hT0, hBH, hTB⟩ := may_iff.1 hm
  obtain ⟨yy, eyy, hy0, hy1, ky⟩ := near_is y (H - 1) (by omega)
  have EY := Lib.hid eyy
  have KY := Lib.hid ky
  clear eyy ky
  obtain ⟨nn, enn, hn1, kn⟩ := some_is n
  have EN := Lib.hid enn
  have KN := Lib.hid kn
  clear enn kn
  have HQ := Lib.hid hq
  have HW := Lib.hid hW0
  have HB := Lib.hid hB
  have HR0 := (HQ.out W0 (Below.refl _ _))
  have c0 := cell_of HR0 0
  have c1 := cell_of HR0 1
  have c2 := cell_of HR0 2
  have c3 := cell_of HR0 3
  clear hW0 hB hq hm hlt HR0
  go_enter Try.func28, Try.ntmps28
  go_upto_region 1 with fail
  change Code.wp _ _ _ _ (w.alloc (arO W H T B))
  rw [HW.out]
  clear HW
  go_wp2_with fail
  refine (show Calls _ _ _ _ _ from HR.out).mono ?_
  rintro e w1 ⟨rfl, j1⟩
  have J1 := Lib.hid (HB.out.trans (j1.mono HB.out.size))
  have HR1 := (HQ.out w1 j1)
  clear j1 c0 c1 c2 c3
  have c0 := cell_of HR1 0
  have c1 := cell_of HR1 1
  have c2 := cell_of HR1 2
  have c3 := cell_of HR1 3
  clear HR1
  go_wp2_with fail
  refine (show Calls _ _ _ _ _ from KY.out _).mono ?_
  rintro e w2 ⟨rfl, rfl⟩
  by_cases hcs : yy ≤ B
  · have g : decide (yy ≤ B) = true := by simpa using hcs
    go_wp2_with fail
    refine (show Calls _ _ _ _ _ from KN.out _).mono ?_
    rintro e w2 ⟨rfl, rfl⟩
    go_wp2
    all_goals
      go_ret
      exact ⟨ret_num (by unfold downV; rw [← EY.out, if_pos hcs]; unfold stepDown; have := EN.out; omega), J1.out⟩
  · have g : decide (yy ≤ B) = false := by simpa using hcs
    go_wp2_with fail
    refine (show Calls _ _ _ _ _ from KN.out _).mono ?_
    rintro e w2 ⟨rfl, rfl⟩
    go_wp2
    all_goals
      go_ret
      exact ⟨ret_num (by unfold downV; rw [← EY.out, if_neg (by omega)]; unfold stepDown; have := EN.out; omega), J1.out⟩

set_option maxRecDepth 100000 in
set_option maxHeartbeats 1000000 in
theorem left_yes (hm : mayB W H T B = true) (x n : Int) (hx : IntIn x) (hn : IntIn n) : Calls Try.prog 29 #[areaV W H T B, .int .i64 x, .int .i64 n] w fun e w' => e = .returned (.int .i64 (leftV W x n)) ∧ Below w.heap.size w w' := by
  obtain ⟨W0, hW0, hB, hlt, hq⟩ := ar_new W H T B w
  have HR : Hid (Calls Try.prog 25 #[areaV W H T B] W0 fun e w' => e = .returned (.bool true) ∧ Below W0.heap.size W0 w') := Lib.hid (by have := right_any0 W H T B W0; rwa [hm] at this)
  obtain ⟨⟨hW1, hW4⟩, ⟨hH1, hH4⟩, hT0, hBH, hTB⟩ := may_iff.1 hm
  obtain ⟨yy, eyy, hy0, hy1, ky⟩ := near_is x (W - 1) (by omega)
  have EY := Lib.hid eyy
  have KY := Lib.hid ky
  clear eyy ky
  obtain ⟨nn, enn, hn1, kn⟩ := some_is n
  have EN := Lib.hid enn
  have KN := Lib.hid kn
  have z1 : IntKind.i64.wrap (yy - nn) = yy - nn := IntWalk.i64_in _ (by have := hn.2; have := EN.out; omega)
  clear enn kn
  have HQ := Lib.hid hq
  have HW := Lib.hid hW0
  have HB := Lib.hid hB
  have HR0 := (HQ.out W0 (Below.refl _ _))
  have c0 := cell_of HR0 0
  have c1 := cell_of HR0 1
  have c2 := cell_of HR0 2
  have c3 := cell_of HR0 3
  clear hW0 hB hq hm hlt HR0
  go_enter Try.func29, Try.ntmps29
  go_upto_region 1 with fail
  change Code.wp _ _ _ _ (w.alloc (arO W H T B))
  rw [HW.out]
  clear HW
  go_wp2_with fail
  refine (show Calls _ _ _ _ _ from HR.out).mono ?_
  rintro e w1 ⟨rfl, j1⟩
  have J1 := Lib.hid (HB.out.trans (j1.mono HB.out.size))
  have HR1 := (HQ.out w1 j1)
  clear j1 c0 c1 c2 c3
  have c0 := cell_of HR1 0
  have c1 := cell_of HR1 1
  have c2 := cell_of HR1 2
  have c3 := cell_of HR1 3
  clear HR1
  go_wp2_with fail
  refine (show Calls _ _ _ _ _ from KY.out _).mono ?_
  rintro e w2 ⟨rfl, rfl⟩
  go_wp2_with fail
  refine (show Calls _ _ _ _ _ from KN.out _).mono ?_
  rintro e w2 ⟨rfl, rfl⟩
  go_wp2
  all_goals
    go_ret
    exact ⟨ret_num (by unfold leftV; rw [← EY.out]; unfold stepUp; have := EN.out; omega), J1.out⟩

set_option maxRecDepth 100000 in
set_option maxHeartbeats 1000000 in
theorem ahead_yes (hm : mayB W H T B = true) (x n : Int) (hx : IntIn x) (hn : IntIn n) : Calls Try.prog 30 #[areaV W H T B, .int .i64 x, .int .i64 n] w fun e w' => e = .returned (.int .i64 (aheadV W x n)) ∧ Below w.heap.size w w' := by
  obtain ⟨W0, hW0, hB, hlt, hq⟩ := ar_new W H T B w
  have HR : Hid (Calls Try.prog 25 #[areaV W H T B] W0 fun e w' => e = .returned (.bool true) ∧ Below W0.heap.size W0 w') := Lib.hid (by have := right_any0 W H T B W0; rwa [hm] at this)
  obtain ⟨⟨hW1, hW4⟩, ⟨hH1, hH4⟩, hT0, hBH, hTB⟩ := may_iff.1 hm
  obtain ⟨yy, eyy, hy0, hy1, ky⟩ := near_is x (W - 1) (by omega)
  have EY := Lib.hid eyy
  have KY := Lib.hid ky
  clear eyy ky
  obtain ⟨nn, enn, hn1, kn⟩ := some_is n
  have EN := Lib.hid enn
  have KN := Lib.hid kn
  clear enn kn
  have HQ := Lib.hid hq
  have HW := Lib.hid hW0
  have HB := Lib.hid hB
  have HR0 := (HQ.out W0 (Below.refl _ _))
  have c0 := cell_of HR0 0
  have c1 := cell_of HR0 1
  have c2 := cell_of HR0 2
  have c3 := cell_of HR0 3
  clear hW0 hB hq hm hlt HR0
  go_enter Try.func30, Try.ntmps30
  go_upto_region 1 with fail
  change Code.wp _ _ _ _ (w.alloc (arO W H T B))
  rw [HW.out]
  clear HW
  go_wp2_with fail
  refine (show Calls _ _ _ _ _ from HR.out).mono ?_
  rintro e w1 ⟨rfl, j1⟩
  have J1 := Lib.hid (HB.out.trans (j1.mono HB.out.size))
  have HR1 := (HQ.out w1 j1)
  clear j1 c0 c1 c2 c3
  have c0 := cell_of HR1 0
  have c1 := cell_of HR1 1
  have c2 := cell_of HR1 2
  have c3 := cell_of HR1 3
  clear HR1
  go_wp2_with fail
  refine (show Calls _ _ _ _ _ from KY.out _).mono ?_
  rintro e w2 ⟨rfl, rfl⟩
  have z2 : IntKind.i64.wrap (W - 1) = W - 1 := IntWalk.i64_in _ (by omega)
  have z3 : IntKind.i64.wrap (W - 1 - yy) = W - 1 - yy := IntWalk.i64_in _ (by omega)
  by_cases hcs : nn ≤ W - 1 - yy
  all_goals
    go_wp2_with fail
    go_quiet ((go_at_call 43; exact Calls.quiet_of_same ((KN.out _).mono fun e w1 h => ⟨h.1, h.2.symm⟩)))
    go_wp2
    go_ret
    exact ⟨ret_num (by unfold aheadV; rw [← EY.out]; unfold stepDown; have := EN.out; omega), below_drew J1.out _⟩

set_option maxRecDepth 100000 in
set_option maxHeartbeats 1000000 in
theorem to_yes (hm : mayB W H T B = true) (o : Bool) (x y : Int) : Calls Try.prog 26 #[areaV W H T B, .bool o, .int .i64 x, .int .i64 y] w fun e w' => e = .returned (.tuple #[.int .i64 (toxV W x), .int .i64 (toyV H T B o y)]) ∧ Below w.heap.size w w' := by
  obtain ⟨W0, hW0, hB, hlt, hq⟩ := ar_new W H T B w
  have HR : Hid (Calls Try.prog 25 #[areaV W H T B] W0 fun e w' => e = .returned (.bool true) ∧ Below W0.heap.size W0 w') := Lib.hid (by have := right_any0 W H T B W0; rwa [hm] at this)
  obtain ⟨⟨hW1, hW4⟩, ⟨hH1, hH4⟩, hT0, hBH, hTB⟩ := may_iff.1 hm
  obtain ⟨xx, exx, hx0, hx1, kx⟩ := near_is x (W - 1) (by omega)
  have EX := Lib.hid exx
  have KX := Lib.hid kx
  clear exx kx
  have HQ := Lib.hid hq
  have HW := Lib.hid hW0
  have HB := Lib.hid hB
  have HR0 := (HQ.out W0 (Below.refl _ _))
  have c0 := cell_of HR0 0
  have c1 := cell_of HR0 1
  have c2 := cell_of HR0 2
  have c3 := cell_of HR0 3
  clear hW0 hB hq hm hlt HR0
  cases o
  all_goals
    go_enter Try.func26, Try.ntmps26
    go_upto_region 1 with fail
    change Code.wp _ _ _ _ (w.alloc (arO W H T B))
    rw [HW.out]
    clear HW
    go_wp2_with fail
    refine (show Calls _ _ _ _ _ from HR.out).mono ?_
    rintro e w1 ⟨rfl, j1⟩
    have J1 := Lib.hid (HB.out.trans (j1.mono HB.out.size))
    have HR1 := (HQ.out w1 j1)
    clear j1 c0 c1 c2 c3
    have c0 := cell_of HR1 0
    have c1 := cell_of HR1 1
    have c2 := cell_of HR1 2
    have c3 := cell_of HR1 3
    clear HR1
    have z2 : IntKind.i64.wrap (H - 1) = H - 1 := IntWalk.i64_in _ (by omega)
    go_wp2_with fail
    go_quiet (fail)
  · obtain ⟨yy, eyy, hy0, hy1, ky⟩ := near_is y (H - 1) (by omega)
    have EY := Lib.hid eyy
    have KY := Lib.hid ky
    clear eyy ky
    go_wp2_with fail
    refine (show Calls _ _ _ _ _ from KX.out _).mono ?_
    rintro e w2 ⟨rfl, rfl⟩
    go_wp2_with fail
    refine (show Calls _ _ _ _ _ from KY.out _).mono ?_
    rintro e w2 ⟨rfl, rfl⟩
    go_wp2
    go_ret2
    exact ⟨by rw [EX.out, EY.out]; rfl, below_drew J1.out _⟩
  · obtain ⟨yy, eyy, hy0, hy1, ky⟩ := near_is y (B - T) (by omega)
    have EY := Lib.hid eyy
    have KY := Lib.hid ky
    clear eyy ky
    go_wp2_with fail
    go_quiet (fail)
    go_wp2_with fail
    refine (show Calls _ _ _ _ _ from KX.out _).mono ?_
    rintro e w2 ⟨rfl, rfl⟩
    go_wp2_with fail
    refine (show Calls _ _ _ _ _ from KY.out _).mono ?_
    rintro e w2 ⟨rfl, rfl⟩
    go_wp2
    go_ret2
    exact ⟨by rw [EX.out, EY.out]; rfl, below_drew J1.out _⟩
end
/-! ### the contracts -/
theorem right_any (W H T B : Int) (hW : IntIn W) (hH : IntIn H) (hT : IntIn T) (hB : IntIn B) (w : World) : Calls Try.prog 25 #[areaV W H T B] w fun e w' => e = .returned (.bool (mayB W H T B)) ∧ Below w.heap.size w w' := right_any0 W H T B w
theorem up_any (W H T B : Int) (hW : IntIn W) (hH : IntIn H) (hT : IntIn T) (hB : IntIn B) (w : World) (y n : Int) (hy : IntIn y) (hn : IntIn n) : Calls Try.prog 27 #[areaV W H T B, .int .i64 y, .int .i64 n] w fun e w' => e = .returned (.int .i64 (if mayB W H T B then upV H T y n else 0)) ∧ Below w.heap.size w w' := by
  cases hm : mayB W H T B
  · exact up_no W H T B w hm y n
  · exact up_yes W H T B w hm y n hy hn
theorem down_any (W H T B : Int) (hW : IntIn W) (hH : IntIn H) (hT : IntIn T) (hB : IntIn B) (w : World) (y n : Int) (hy : IntIn y) (hn : IntIn n) : Calls Try.prog 28 #[areaV W H T B, .int .i64 y, .int .i64 n] w fun e w' => e = .returned (.int .i64 (if mayB W H T B then downV H B y n else 0)) ∧ Below w.heap.size w w' := by
  cases hm : mayB W H T B
  · exact down_no W H T B w hm y n
  · exact down_yes W H T B w hm y n hy hn
theorem left_any (W H T B : Int) (hW : IntIn W) (hH : IntIn H) (hT : IntIn T) (hB : IntIn B) (w : World) (x n : Int) (hy : IntIn x) (hn : IntIn n) : Calls Try.prog 29 #[areaV W H T B, .int .i64 x, .int .i64 n] w fun e w' => e = .returned (.int .i64 (if mayB W H T B then leftV W x n else 0)) ∧ Below w.heap.size w w' := by
  cases hm : mayB W H T B
  · exact left_no W H T B w hm x n
  · exact left_yes W H T B w hm x n hy hn
theorem ahead_any (W H T B : Int) (hW : IntIn W) (hH : IntIn H) (hT : IntIn T) (hB : IntIn B) (w : World) (x n : Int) (hy : IntIn x) (hn : IntIn n) : Calls Try.prog 30 #[areaV W H T B, .int .i64 x, .int .i64 n] w fun e w' => e = .returned (.int .i64 (if mayB W H T B then aheadV W x n else 0)) ∧ Below w.heap.size w w' := by
  cases hm : mayB W H T B
  · exact ahead_no W H T B w hm x n
  · exact ahead_yes W H T B w hm x n hy hn
theorem to_any (W H T B : Int) (hW : IntIn W) (hH : IntIn H) (hT : IntIn T) (hB : IntIn B) (w : World) (o : Bool) (x y : Int) (hx : IntIn x) (hy : IntIn y) : Calls Try.prog 26 #[areaV W H T B, .bool o, .int .i64 x, .int .i64 y] w fun e w' => e = .returned (.tuple #[.int .i64 (if mayB W H T B then toxV W x else 0), .int .i64 (if mayB W H T B then toyV H T B o y else 0)]) ∧ Below w.heap.size w w' := by
  cases hm : mayB W H T B
  · exact to_no W H T B w hm o x y
  · exact to_yes W H T B w hm o x y
end Go.Proofs.Ytfkiihddcinckaa.Tb
