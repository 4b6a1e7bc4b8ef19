/- Layer 12: TabsMoves. -/
import Derived.Test.YtfkiihddcinckaaTbK
set_option linter.unusedVariables false
namespace Go.Proofs.Ytfkiihddcinckaa.Tb
open Go.RowKit

abbrev areaO (W H T B : Int) : Obj := .cells #[.int .i64 W, .int .i64 H, .int .i64 T, .int .i64 B] 43 (0, 0)
theorem box_area (w : World) (W H T B : Int) : ∃ W0, W0 = w.alloc (areaO W H T B) ∧ Below w.heap.size w W0 ∧ W0.heap.size = w.heap.size + 1 ∧ W0.heap[w.heap.size]? = some (areaO W H T B) :=
  ⟨_, rfl, (Below.refl _ _).alloc (Nat.le_refl _) _, by simp, heap_new w _⟩
/-- The tests of the law, one by one: all hold, or which is the first that does not. -/
theorem may_key (W H T B : Int) : (mayB W H T B = true ∧ decide (W ≥ 1) = true ∧ decide (W ≤ 400) = true ∧ decide (H ≥ 1) = true ∧ decide (H ≤ 400) = true ∧ decide (T ≥ 0) = true ∧ decide (B ≤ H - 1) = true ∧ decide (T ≤ B) = true) ∨
    mayB W H T B = false ∧ (decide (W ≥ 1) = false ∨ (decide (W ≥ 1) = true ∧ decide (W ≤ 400) = false) ∨ (decide (W ≥ 1) = true ∧ decide (W ≤ 400) = true ∧ decide (H ≥ 1) = false) ∨ (decide (W ≥ 1) = true ∧ decide (W ≤ 400) = true ∧ decide (H ≥ 1) = true ∧ decide (H ≤ 400) = false) ∨
      (decide (W ≥ 1) = true ∧ decide (W ≤ 400) = true ∧ decide (H ≥ 1) = true ∧ decide (H ≤ 400) = true ∧ decide (T ≥ 0) = false) ∨ (decide (W ≥ 1) = true ∧ decide (W ≤ 400) = true ∧ decide (H ≥ 1) = true ∧ decide (H ≤ 400) = true ∧ decide (T ≥ 0) = true ∧ decide (B ≤ H - 1) = false) ∨
      (decide (W ≥ 1) = true ∧ decide (W ≤ 400) = true ∧ decide (H ≥ 1) = true ∧ decide (H ≤ 400) = true ∧ decide (T ≥ 0) = true ∧ decide (B ≤ H - 1) = true ∧ decide (T ≤ B) = false)) := by
  unfold mayB
  by_cases h1 : W ≥ 1
  · by_cases h2 : W ≤ 400
    · by_cases h3 : H ≥ 1
      · by_cases h4 : H ≤ 400
        · by_cases h5 : T ≥ 0
          · by_cases h6 : B ≤ H - 1
            · by_cases h7 : T ≤ B
              · left; simp [h1, h2, h3, h4, h5, h6, h7]
              · right; simp [h1, h2, h3, h4, h5, h6, h7]
            · right; simp [h1, h2, h3, h4, h5, h6]
          · right; simp [h1, h2, h3, h4, h5]
        · right; simp [h1, h2, h3, h4]
      · right; simp [h1, h2, h3]
    · right; simp [h1, h2]
  · right; simp [h1]

set_option maxRecDepth 100000 in
set_option maxHeartbeats 8000000 in
theorem moves_no (W H T B x y n : Int) (o : Bool) (hW : IntIn W) (hH : IntIn H) (hT : IntIn T) (hB : IntIn B) (hx : IntIn x) (hy : IntIn y) (hn : IntIn n) (w : World) (hm : mayB W H T B = false) : Calls Try.prog 4 #[areaV W H T B, .int .i64 x, .int .i64 y, .int .i64 n, .bool o] w fun e w' => e = .returned (.bool true) ∧ Below w.heap.size w w' := by
  have key := (may_key W H T B).resolve_left (fun h => by rw [h.1] at hm; cases hm)
  obtain ⟨W0, hW0, hb, hs, hp⟩ := box_area w W H T B
  have HB := Lib.hid hb
  have HW0 := Lib.hid hW0
  obtain ⟨P, hP⟩ : ∃ P, P = w.heap.size := ⟨_, rfl⟩
  rw [← hP] at hp hs
  have HP := Lib.hid hP
  have HQ : Hid (∀ V, Below W0.heap.size W0 V → V.heap[P]? = some (areaO W H T B)) := Lib.hid fun V hV => (hV.block P (by omega)).trans hp
  have HRi : Hid (∀ V, Calls Try.prog 25 #[areaV W H T B] V fun e w' => e = .returned (.bool false) ∧ Below V.heap.size V w') := Lib.hid fun V => by have := right_any W H T B hW hH hT hB V; rwa [hm] at this
  have HTo : Hid (∀ V, Calls Try.prog 26 #[areaV W H T B, .bool o, .int .i64 x, .int .i64 y] V fun e w' => e = .returned (.tuple #[.int .i64 0, .int .i64 0]) ∧ Below V.heap.size V w') := Lib.hid fun V => by have := to_any W H T B hW hH hT hB V o x y hx hy; rwa [hm] at this
  have HUp : Hid (∀ V, Calls Try.prog 27 #[areaV W H T B, .int .i64 y, .int .i64 n] V fun e w' => e = .returned (.int .i64 0) ∧ Below V.heap.size V w') := Lib.hid fun V => by have := up_any W H T B hW hH hT hB V y n hy hn; rwa [hm] at this
  have HDo : Hid (∀ V, Calls Try.prog 28 #[areaV W H T B, .int .i64 y, .int .i64 n] V fun e w' => e = .returned (.int .i64 0) ∧ Below V.heap.size V w') := Lib.hid fun V => by have := down_any W H T B hW hH hT hB V y n hy hn; rwa [hm] at this
  have HLe : Hid (∀ V, Calls Try.prog 29 #[areaV W H T B, .int .i64 x, .int .i64 n] V fun e w' => e = .returned (.int .i64 0) ∧ Below V.heap.size V w') := Lib.hid fun V => by have := left_any W H T B hW hH hT hB V x n hx hn; rwa [hm] at this
  have HAh : Hid (∀ V, Calls Try.prog 30 #[areaV W H T B, .int .i64 x, .int .i64 n] V fun e w' => e = .returned (.int .i64 0) ∧ Below V.heap.size V w') := Lib.hid fun V => by have := ahead_any W H T B hW hH hT hB V x n hx hn; rwa [hm] at this
  have zH : ¬ (decide (H ≥ 1) = true ∧ decide (H ≤ 400) = true) ∨ IntKind.i64.wrap (H - 1) = H - 1 := by
    by_cases h : 1 ≤ H ∧ H ≤ 400
    · exact Or.inr (IntWalk.i64_in _ (by omega))
    · exact Or.inl (by simp; omega)
  have HWk := Lib.hid wakes_any
  clear hm hb hW0 hs hP hp hW hH hT hB hx hy hn
  have k2 := key.2
  clear key
  have c0 := cell_of (HQ.out W0 (Below.refl _ _)) 0
  have c1 := cell_of (HQ.out W0 (Below.refl _ _)) 1
  have c2 := cell_of (HQ.out W0 (Below.refl _ _)) 2
  have c3 := cell_of (HQ.out W0 (Below.refl _ _)) 3
  rcases k2 with h1 | ⟨h1, h2⟩ | ⟨h1, h2, h3⟩ | ⟨h1, h2, h3, h4⟩ | ⟨h1, h2, h3, h4, h5⟩ | ⟨h1, h2, h3, h4, h5, h6⟩ | ⟨h1, h2, h3, h4, h5, h6, h7⟩
  all_goals
    try replace zH := zH.resolve_left (fun hh => hh ⟨h3, h4⟩)
    go_enter Try.func4, Try.ntmps4
    go_upto_region 1 with fail
    change Code.wp _ _ _ _ (w.alloc (areaO W H T B))
    rw [← HW0.out, ← HP.out]
    go_wp2_with fail
    refine (show Calls _ _ _ _ _ from HRi.out _).mono ?_
    rintro e y1 ⟨rfl, j1⟩
    have J1 : Hid (Below W0.heap.size W0 y1) := Lib.hid j1
    clear c0 c1 c2 c3 j1
    have c0 := cell_of (HQ.out y1 J1.out) 0
    have c1 := cell_of (HQ.out y1 J1.out) 1
    have c2 := cell_of (HQ.out y1 J1.out) 2
    have c3 := cell_of (HQ.out y1 J1.out) 3
    go_wp2_with fail
    refine (show Calls _ _ _ _ _ from HTo.out _).mono ?_
    rintro e y2 ⟨rfl, j2⟩
    have J2 : Hid (Below W0.heap.size W0 y2) := Lib.hid (J1.out.trans (j2.mono J1.out.size))
    clear c0 c1 c2 c3 j2 J1
    have c0 := cell_of (HQ.out y2 J2.out) 0
    have c1 := cell_of (HQ.out y2 J2.out) 1
    have c2 := cell_of (HQ.out y2 J2.out) 2
    have c3 := cell_of (HQ.out y2 J2.out) 3
    go_wp2_with fail
    refine (show Calls _ _ _ _ _ from HUp.out _).mono ?_
    rintro e y3 ⟨rfl, j3⟩
    have J3 : Hid (Below W0.heap.size W0 y3) := Lib.hid (J2.out.trans (j3.mono J2.out.size))
    clear c0 c1 c2 c3 j3 J2
    have c0 := cell_of (HQ.out y3 J3.out) 0
    have c1 := cell_of (HQ.out y3 J3.out) 1
    have c2 := cell_of (HQ.out y3 J3.out) 2
    have c3 := cell_of (HQ.out y3 J3.out) 3
    go_wp2_with fail
    refine (show Calls _ _ _ _ _ from HDo.out _).mono ?_
    rintro e y4 ⟨rfl, j4⟩
    have J4 : Hid (Below W0.heap.size W0 y4) := Lib.hid (J3.out.trans (j4.mono J3.out.size))
    clear c0 c1 c2 c3 j4 J3
    have c0 := cell_of (HQ.out y4 J4.out) 0
    have c1 := cell_of (HQ.out y4 J4.out) 1
    have c2 := cell_of (HQ.out y4 J4.out) 2
    have c3 := cell_of (HQ.out y4 J4.out) 3
    go_wp2_with fail
    refine (show Calls _ _ _ _ _ from HLe.out _).mono ?_
    rintro e y5 ⟨rfl, j5⟩
    have J5 : Hid (Below W0.heap.size W0 y5) := Lib.hid (J4.out.trans (j5.mono J4.out.size))
    clear c0 c1 c2 c3 j5 J4
    have c0 := cell_of (HQ.out y5 J5.out) 0
    have c1 := cell_of (HQ.out y5 J5.out) 1
    have c2 := cell_of (HQ.out y5 J5.out) 2
    have c3 := cell_of (HQ.out y5 J5.out) 3
    go_wp2_with fail
    refine (show Calls _ _ _ _ _ from HAh.out _).mono ?_
    rintro e y6 ⟨rfl, j6⟩
    have J6 : Hid (Below W0.heap.size W0 y6) := Lib.hid (J5.out.trans (j6.mono J5.out.size))
    clear c0 c1 c2 c3 j6 J5
    have c0 := cell_of (HQ.out y6 J6.out) 0
    have c1 := cell_of (HQ.out y6 J6.out) 1
    have c2 := cell_of (HQ.out y6 J6.out) 2
    have c3 := cell_of (HQ.out y6 J6.out) 3
    go_wp2_with fail
    refine (show Calls _ _ _ _ _ from HWk.out _).mono ?_
    rintro e y7 ⟨rfl, j7⟩
    have J7 : Hid (Below W0.heap.size W0 y7) := Lib.hid (J6.out.trans (j7.mono J6.out.size))
    clear c0 c1 c2 c3 j7 J6
    have c0 := cell_of (HQ.out y7 J7.out) 0
    have c1 := cell_of (HQ.out y7 J7.out) 1
    have c2 := cell_of (HQ.out y7 J7.out) 2
    have c3 := cell_of (HQ.out y7 J7.out) 3
    go_wp2
    go_ret
    exact ⟨rfl, HB.out.trans (J7.out.mono HB.out.size)⟩

set_option maxRecDepth 100000 in
set_option maxHeartbeats 8000000 in
theorem moves_yes (W H T B x y n : Int) (o : Bool) (hW : IntIn W) (hH : IntIn H) (hT : IntIn T) (hB : IntIn B) (hx : IntIn x) (hy : IntIn y) (hn : IntIn n) (w : World) (hm : mayB W H T B = true) : Calls Try.prog 4 #[areaV W H T B, .int .i64 x, .int .i64 y, .int .i64 n, .bool o] w fun e w' => e = .returned (.bool true) ∧ Below w.heap.size w w' := by
  have hb0 := may_iff.1 hm
  obtain ⟨W0, hW0, hb, hs, hp⟩ := box_area w W H T B
  have HB := Lib.hid hb
  have HW0 := Lib.hid hW0
  obtain ⟨P, hP⟩ : ∃ P, P = w.heap.size := ⟨_, rfl⟩
  rw [← hP] at hp hs
  have HP := Lib.hid hP
  have HQ : Hid (∀ V, Below W0.heap.size W0 V → V.heap[P]? = some (areaO W H T B)) := Lib.hid fun V hV => (hV.block P (by omega)).trans hp
  have hnx := near_in (n := x) (low := 0) (high := W - 1) (by omega)
  have hny := near_in (n := y) (low := 0) (high := H - 1) (by omega)
  have hno := near_in (n := y) (low := 0) (high := B - T) (by omega)
  have HRi : Hid (∀ V, Calls Try.prog 25 #[areaV W H T B] V fun e w' => e = .returned (.bool true) ∧ Below V.heap.size V w') := Lib.hid fun V => by have := right_any W H T B hW hH hT hB V; rwa [hm] at this
  have HTo : Hid (∀ V, Calls Try.prog 26 #[areaV W H T B, .bool o, .int .i64 x, .int .i64 y] V fun e w' => e = .returned (.tuple #[.int .i64 (nearV x 0 (W - 1)), .int .i64 (toyV H T B o y)]) ∧ Below V.heap.size V w') := Lib.hid fun V => by have := to_any W H T B hW hH hT hB V o x y hx hy; rwa [hm, if_pos rfl, if_pos rfl] at this
  have HUp : Hid (∀ V, Calls Try.prog 27 #[areaV W H T B, .int .i64 y, .int .i64 n] V fun e w' => e = .returned (.int .i64 (upV H T y n)) ∧ Below V.heap.size V w') := Lib.hid fun V => by have := up_any W H T B hW hH hT hB V y n hy hn; rwa [hm, if_pos rfl] at this
  have HDo : Hid (∀ V, Calls Try.prog 28 #[areaV W H T B, .int .i64 y, .int .i64 n] V fun e w' => e = .returned (.int .i64 (downV H B y n)) ∧ Below V.heap.size V w') := Lib.hid fun V => by have := down_any W H T B hW hH hT hB V y n hy hn; rwa [hm, if_pos rfl] at this
  have HLe : Hid (∀ V, Calls Try.prog 29 #[areaV W H T B, .int .i64 x, .int .i64 n] V fun e w' => e = .returned (.int .i64 (stepUp (nearV x 0 (W - 1)) n 0)) ∧ Below V.heap.size V w') := Lib.hid fun V => by have := left_any W H T B hW hH hT hB V x n hx hn; rwa [hm, if_pos rfl] at this
  have HAh : Hid (∀ V, Calls Try.prog 30 #[areaV W H T B, .int .i64 x, .int .i64 n] V fun e w' => e = .returned (.int .i64 (stepDown (nearV x 0 (W - 1)) n (W - 1))) ∧ Below V.heap.size V w') := Lib.hid fun V => by have := ahead_any W H T B hW hH hT hB V x n hx hn; rwa [hm, if_pos rfl] at this
  have HRu : Hid (∀ V, Calls Try.prog 32 #[.int .i64 H, .int .i64 T, .int .i64 y, .int .i64 n] V fun e w' => e = .returned (.int .i64 (upV H T y n)) ∧ V = w') := Lib.hid fun V => rup_any H T y n V (by omega)
  have HRd : Hid (∀ V, Calls Try.prog 33 #[.int .i64 H, .int .i64 B, .int .i64 y, .int .i64 n] V fun e w' => e = .returned (.int .i64 (downV H B y n)) ∧ V = w') := Lib.hid fun V => rdown_any H B y n V (by omega)
  have HNx : Hid (∀ V, Calls Try.prog 31 #[.int .i64 x, .int .i64 W] V fun e w' => e = .returned (.int .i64 (nearV x 0 (W - 1))) ∧ V = w') := Lib.hid fun V => rnear_any x W V (by omega)
  have HNy : Hid (∀ V, Calls Try.prog 31 #[.int .i64 y, .int .i64 H] V fun e w' => e = .returned (.int .i64 (nearV y 0 (H - 1))) ∧ V = w') := Lib.hid fun V => rnear_any y H V (by omega)
  have HNo : Hid (∀ V, Calls Try.prog 31 #[.int .i64 y, .int .i64 (B - T + 1)] V fun e w' => e = .returned (.int .i64 (nearV y 0 (B - T))) ∧ V = w') := Lib.hid fun V => by
    have := rnear_any y (B - T + 1) V (by omega)
    rwa [show B - T + 1 - 1 = B - T by omega] at this
  have HMl : Hid (∀ V, Calls Try.prog 34 #[.int .i64 (nearV x 0 (W - 1)), .int .i64 n, .int .i64 (-1), .int .i64 0] V fun e w' => e = .returned (.int .i64 (stepUp (nearV x 0 (W - 1)) n 0)) ∧ V = w') := Lib.hid fun V => move_up _ n 0 V (by omega)
  have HMa : Hid (∀ V, Calls Try.prog 34 #[.int .i64 (nearV x 0 (W - 1)), .int .i64 n, .int .i64 1, .int .i64 (W - 1)] V fun e w' => e = .returned (.int .i64 (stepDown (nearV x 0 (W - 1)) n (W - 1))) ∧ V = w') := Lib.hid fun V => move_down _ n (W - 1) V (by omega)
  have HWk := Lib.hid wakes_any
  have h1 : decide (W ≥ 1) = true := by simp; omega
  have h2 : decide (W ≤ 400) = true := by simp; omega
  have h3 : decide (H ≥ 1) = true := by simp; omega
  have h4 : decide (H ≤ 400) = true := by simp; omega
  have h5 : decide (T ≥ 0) = true := by simp; omega
  have h6 : decide (B ≤ H - 1) = true := by simp; omega
  have h7 : decide (T ≤ B) = true := by simp; omega
  have zH : IntKind.i64.wrap (H - 1) = H - 1 := IntWalk.i64_in _ (by omega)
  have zW : IntKind.i64.wrap (W - 1) = W - 1 := IntWalk.i64_in _ (by omega)
  have zB : IntKind.i64.wrap (B - T) = B - T := IntWalk.i64_in _ (by omega)
  have zC : IntKind.i64.wrap (B - T + 1) = B - T + 1 := IntWalk.i64_in _ (by omega)
  have zL : IntKind.i64.wrap (T + nearV y 0 (B - T)) = T + nearV y 0 (B - T) := IntWalk.i64_in _ (by omega)
  have HL : Hid (toyV H T B o y = if o then T + nearV y 0 (B - T) else nearV y 0 (H - 1)) := Lib.hid rfl
  clear hm hb hW0 hs hP hp hW hH hT hB hx hy hn hnx hny hno hb0
  generalize nearV x 0 (W - 1) = CX at *
  generalize nearV y 0 (H - 1) = CY at *
  generalize nearV y 0 (B - T) = CO at *
  generalize upV H T y n = UU at *
  generalize downV H B y n = DD at *
  generalize stepUp CX n 0 = LL at *
  generalize stepDown CX n (W - 1) = AA at *
  generalize toyV H T B o y = TY at *
  have c0 := cell_of (HQ.out W0 (Below.refl _ _)) 0
  have c1 := cell_of (HQ.out W0 (Below.refl _ _)) 1
  have c2 := cell_of (HQ.out W0 (Below.refl _ _)) 2
  have c3 := cell_of (HQ.out W0 (Below.refl _ _)) 3
  cases o with
  | false =>
    have HT1 : Hid (TY = CY) := Lib.hid HL.out
    go_enter Try.func4, Try.ntmps4
    go_upto_region 1 with fail
    change Code.wp _ _ _ _ (w.alloc (areaO W H T B))
    rw [← HW0.out, ← HP.out]
    go_wp2_with fail
    refine (show Calls _ _ _ _ _ from HRi.out _).mono ?_
    rintro e y1 ⟨rfl, j1⟩
    have J1 : Hid (Below W0.heap.size W0 y1) := Lib.hid j1
    clear c0 c1 c2 c3 j1
    have c0 := cell_of (HQ.out y1 J1.out) 0
    have c1 := cell_of (HQ.out y1 J1.out) 1
    have c2 := cell_of (HQ.out y1 J1.out) 2
    have c3 := cell_of (HQ.out y1 J1.out) 3
    go_wp2_with fail
    refine (show Calls _ _ _ _ _ from HTo.out _).mono ?_
    rintro e y2 ⟨rfl, j2⟩
    have J2 : Hid (Below W0.heap.size W0 y2) := Lib.hid (J1.out.trans (j2.mono J1.out.size))
    clear c0 c1 c2 c3 j2 J1
    have c0 := cell_of (HQ.out y2 J2.out) 0
    have c1 := cell_of (HQ.out y2 J2.out) 1
    have c2 := cell_of (HQ.out y2 J2.out) 2
    have c3 := cell_of (HQ.out y2 J2.out) 3
    go_wp2_with fail
    refine (show Calls _ _ _ _ _ from HNx.out _).mono ?_
    rintro e z1 ⟨rfl, rfl⟩
    go_wp2_with fail
    refine (show Calls _ _ _ _ _ from HNy.out _).mono ?_
    rintro e z2 ⟨rfl, rfl⟩
    go_upto_region 11 with fail
    have KUp : Hid (∀ V, Below W0.heap.size W0 V → Calls Try.prog 27 #[areaV W H T B, .int .i64 y, .int .i64 n] V fun e w' => e = .returned (.int .i64 UU) ∧ Below W0.heap.size W0 w') := Lib.hid fun V hV => (HUp.out V).mono fun e w' ⟨he, hb⟩ => ⟨he, hV.trans (hb.mono hV.size)⟩
    have KRu : Hid (∀ V, Below W0.heap.size W0 V → Calls Try.prog 32 #[.int .i64 H, .int .i64 T, .int .i64 y, .int .i64 n] V fun e w' => e = .returned (.int .i64 UU) ∧ Below W0.heap.size W0 w') := Lib.hid fun V hV => (HRu.out V).mono fun e w' ⟨he, hb⟩ => ⟨he, hb ▸ hV⟩
    have KDo : Hid (∀ V, Below W0.heap.size W0 V → Calls Try.prog 28 #[areaV W H T B, .int .i64 y, .int .i64 n] V fun e w' => e = .returned (.int .i64 DD) ∧ Below W0.heap.size W0 w') := Lib.hid fun V hV => (HDo.out V).mono fun e w' ⟨he, hb⟩ => ⟨he, hV.trans (hb.mono hV.size)⟩
    have KRd : Hid (∀ V, Below W0.heap.size W0 V → Calls Try.prog 33 #[.int .i64 H, .int .i64 B, .int .i64 y, .int .i64 n] V fun e w' => e = .returned (.int .i64 DD) ∧ Below W0.heap.size W0 w') := Lib.hid fun V hV => (HRd.out V).mono fun e w' ⟨he, hb⟩ => ⟨he, hb ▸ hV⟩
    have KLe : Hid (∀ V, Below W0.heap.size W0 V → Calls Try.prog 29 #[areaV W H T B, .int .i64 x, .int .i64 n] V fun e w' => e = .returned (.int .i64 LL) ∧ Below W0.heap.size W0 w') := Lib.hid fun V hV => (HLe.out V).mono fun e w' ⟨he, hb⟩ => ⟨he, hV.trans (hb.mono hV.size)⟩
    have KAh : Hid (∀ V, Below W0.heap.size W0 V → Calls Try.prog 30 #[areaV W H T B, .int .i64 x, .int .i64 n] V fun e w' => e = .returned (.int .i64 AA) ∧ Below W0.heap.size W0 w') := Lib.hid fun V hV => (HAh.out V).mono fun e w' ⟨he, hb⟩ => ⟨he, hV.trans (hb.mono hV.size)⟩
    have KMl : Hid (∀ V, Below W0.heap.size W0 V → Calls Try.prog 34 #[.int .i64 CX, .int .i64 n, .int .i64 (-1), .int .i64 0] V fun e w' => e = .returned (.int .i64 LL) ∧ Below W0.heap.size W0 w') := Lib.hid fun V hV => (HMl.out V).mono fun e w' ⟨he, hb⟩ => ⟨he, hb ▸ hV⟩
    have KMa : Hid (∀ V, Below W0.heap.size W0 V → Calls Try.prog 34 #[.int .i64 CX, .int .i64 n, .int .i64 1, .int .i64 (W - 1)] V fun e w' => e = .returned (.int .i64 AA) ∧ Below W0.heap.size W0 w') := Lib.hid fun V hV => (HMa.out V).mono fun e w' ⟨he, hb⟩ => ⟨he, hb ▸ hV⟩
    have KWk : Hid (∀ V, Below W0.heap.size W0 V → Calls Try.prog 9 #[] V fun e w' => e = .returned (.bool true) ∧ Below W0.heap.size W0 w') := Lib.hid fun V hV => (HWk.out V).mono fun e w' ⟨he, hb⟩ => ⟨he, hV.trans (hb.mono hV.size)⟩
    have f0 := fun V hV => cell_of (HQ.out V hV) 0
    have f1 := fun V hV => cell_of (HQ.out V hV) 1
    have f2 := fun V hV => cell_of (HQ.out V hV) 2
    have f3 := fun V hV => cell_of (HQ.out V hV) 3
    have kd : Below W0.heap.size W0 y2.drew := below_drew J2.out 1
    have e1 : TY = CY := HT1.out
    clear c0 c1 c2 c3
    subst e1
    go_region_held3 (fun V => Below W0.heap.size W0 V) (assumption)
      (first | (go_at_call 27; (with_reducible refine (KUp.out _ (by assumption)).mono ?_); rintro e v1 ⟨rfl, qv1⟩) | (go_at_call 32; (with_reducible refine (KRu.out _ (by assumption)).mono ?_); rintro e v2 ⟨rfl, qv2⟩) | (go_at_call 28; (with_reducible refine (KDo.out _ (by assumption)).mono ?_); rintro e v3 ⟨rfl, qv3⟩) | (go_at_call 33; (with_reducible refine (KRd.out _ (by assumption)).mono ?_); rintro e v4 ⟨rfl, qv4⟩) | (go_at_call 29; (with_reducible refine (KLe.out _ (by assumption)).mono ?_); rintro e v5 ⟨rfl, qv5⟩) | (go_at_call 34; (with_reducible refine (KMl.out _ (by assumption)).mono ?_); rintro e v6 ⟨rfl, qv6⟩) | (go_at_call 30; (with_reducible refine (KAh.out _ (by assumption)).mono ?_); rintro e v7 ⟨rfl, qv7⟩) | (go_at_call 34; (with_reducible refine (KMa.out _ (by assumption)).mono ?_); rintro e v8 ⟨rfl, qv8⟩) | (go_at_call 9; (with_reducible refine (KWk.out _ (by assumption)).mono ?_); rintro e v9 ⟨rfl, qv9⟩))
    all_goals
      go_wp2
      go_ret
      exact ⟨rfl, HB.out.trans (Below.mono (by assumption) HB.out.size)⟩
  | true =>
    have HT1 : Hid (TY = T + CO) := Lib.hid HL.out
    go_enter Try.func4, Try.ntmps4
    go_upto_region 1 with fail
    change Code.wp _ _ _ _ (w.alloc (areaO W H T B))
    rw [← HW0.out, ← HP.out]
    go_wp2_with fail
    refine (show Calls _ _ _ _ _ from HRi.out _).mono ?_
    rintro e y1 ⟨rfl, j1⟩
    have J1 : Hid (Below W0.heap.size W0 y1) := Lib.hid j1
    clear c0 c1 c2 c3 j1
    have c0 := cell_of (HQ.out y1 J1.out) 0
    have c1 := cell_of (HQ.out y1 J1.out) 1
    have c2 := cell_of (HQ.out y1 J1.out) 2
    have c3 := cell_of (HQ.out y1 J1.out) 3
    go_wp2_with fail
    refine (show Calls _ _ _ _ _ from HTo.out _).mono ?_
    rintro e y2 ⟨rfl, j2⟩
    have J2 : Hid (Below W0.heap.size W0 y2) := Lib.hid (J1.out.trans (j2.mono J1.out.size))
    clear c0 c1 c2 c3 j2 J1
    have c0 := cell_of (HQ.out y2 J2.out) 0
    have c1 := cell_of (HQ.out y2 J2.out) 1
    have c2 := cell_of (HQ.out y2 J2.out) 2
    have c3 := cell_of (HQ.out y2 J2.out) 3
    go_wp2_with fail
    refine (show Calls _ _ _ _ _ from HNx.out _).mono ?_
    rintro e z1 ⟨rfl, rfl⟩
    go_wp2_with fail
    refine (show Calls _ _ _ _ _ from HNy.out _).mono ?_
    rintro e z2 ⟨rfl, rfl⟩
    go_upto_region 10 with fail
    have KNo : Hid (∀ V, Below W0.heap.size W0 V → Calls Try.prog 31 #[.int .i64 y, .int .i64 (B - T + 1)] V fun e w' => e = .returned (.int .i64 CO) ∧ Below W0.heap.size W0 w') := Lib.hid fun V hV => (HNo.out V).mono fun e w' ⟨he, hb⟩ => ⟨he, hb ▸ hV⟩
    have f0 := fun V hV => cell_of (HQ.out V hV) 0
    have f1 := fun V hV => cell_of (HQ.out V hV) 1
    have f2 := fun V hV => cell_of (HQ.out V hV) 2
    have f3 := fun V hV => cell_of (HQ.out V hV) 3
    have kd : Below W0.heap.size W0 y2.drew := below_drew J2.out 1
    clear c0 c1 c2 c3
    go_region_held3 (fun V => Below W0.heap.size W0 V) (assumption)
      (first | (go_at_call 31; (with_reducible refine (KNo.out _ (by assumption)).mono ?_); rintro e u1 ⟨rfl, qu⟩))
    have J3 : Hid (Below W0.heap.size W0 u1) := Lib.hid qu
    clear f0 f1 f2 f3 kd qu
    go_upto_region 11 with fail
    have KUp : Hid (∀ V, Below W0.heap.size W0 V → Calls Try.prog 27 #[areaV W H T B, .int .i64 y, .int .i64 n] V fun e w' => e = .returned (.int .i64 UU) ∧ Below W0.heap.size W0 w') := Lib.hid fun V hV => (HUp.out V).mono fun e w' ⟨he, hb⟩ => ⟨he, hV.trans (hb.mono hV.size)⟩
    have KRu : Hid (∀ V, Below W0.heap.size W0 V → Calls Try.prog 32 #[.int .i64 H, .int .i64 T, .int .i64 y, .int .i64 n] V fun e w' => e = .returned (.int .i64 UU) ∧ Below W0.heap.size W0 w') := Lib.hid fun V hV => (HRu.out V).mono fun e w' ⟨he, hb⟩ => ⟨he, hb ▸ hV⟩
    have KDo : Hid (∀ V, Below W0.heap.size W0 V → Calls Try.prog 28 #[areaV W H T B, .int .i64 y, .int .i64 n] V fun e w' => e = .returned (.int .i64 DD) ∧ Below W0.heap.size W0 w') := Lib.hid fun V hV => (HDo.out V).mono fun e w' ⟨he, hb⟩ => ⟨he, hV.trans (hb.mono hV.size)⟩
    have KRd : Hid (∀ V, Below W0.heap.size W0 V → Calls Try.prog 33 #[.int .i64 H, .int .i64 B, .int .i64 y, .int .i64 n] V fun e w' => e = .returned (.int .i64 DD) ∧ Below W0.heap.size W0 w') := Lib.hid fun V hV => (HRd.out V).mono fun e w' ⟨he, hb⟩ => ⟨he, hb ▸ hV⟩
    have KLe : Hid (∀ V, Below W0.heap.size W0 V → Calls Try.prog 29 #[areaV W H T B, .int .i64 x, .int .i64 n] V fun e w' => e = .returned (.int .i64 LL) ∧ Below W0.heap.size W0 w') := Lib.hid fun V hV => (HLe.out V).mono fun e w' ⟨he, hb⟩ => ⟨he, hV.trans (hb.mono hV.size)⟩
    have KAh : Hid (∀ V, Below W0.heap.size W0 V → Calls Try.prog 30 #[areaV W H T B, .int .i64 x, .int .i64 n] V fun e w' => e = .returned (.int .i64 AA) ∧ Below W0.heap.size W0 w') := Lib.hid fun V hV => (HAh.out V).mono fun e w' ⟨he, hb⟩ => ⟨he, hV.trans (hb.mono hV.size)⟩
    have KMl : Hid (∀ V, Below W0.heap.size W0 V → Calls Try.prog 34 #[.int .i64 CX, .int .i64 n, .int .i64 (-1), .int .i64 0] V fun e w' => e = .returned (.int .i64 LL) ∧ Below W0.heap.size W0 w') := Lib.hid fun V hV => (HMl.out V).mono fun e w' ⟨he, hb⟩ => ⟨he, hb ▸ hV⟩
    have KMa : Hid (∀ V, Below W0.heap.size W0 V → Calls Try.prog 34 #[.int .i64 CX, .int .i64 n, .int .i64 1, .int .i64 (W - 1)] V fun e w' => e = .returned (.int .i64 AA) ∧ Below W0.heap.size W0 w') := Lib.hid fun V hV => (HMa.out V).mono fun e w' ⟨he, hb⟩ => ⟨he, hb ▸ hV⟩
    have KWk : Hid (∀ V, Below W0.heap.size W0 V → Calls Try.prog 9 #[] V fun e w' => e = .returned (.bool true) ∧ Below W0.heap.size W0 w') := Lib.hid fun V hV => (HWk.out V).mono fun e w' ⟨he, hb⟩ => ⟨he, hV.trans (hb.mono hV.size)⟩
    have f0 := fun V hV => cell_of (HQ.out V hV) 0
    have f1 := fun V hV => cell_of (HQ.out V hV) 1
    have f2 := fun V hV => cell_of (HQ.out V hV) 2
    have f3 := fun V hV => cell_of (HQ.out V hV) 3
    have kd : Below W0.heap.size W0 u1.drew := below_drew J3.out 1
    have e1 : TY = T + CO := HT1.out
    subst e1
    go_region_held3 (fun V => Below W0.heap.size W0 V) (assumption)
      (first | (go_at_call 27; (with_reducible refine (KUp.out _ (by assumption)).mono ?_); rintro e v1 ⟨rfl, qv1⟩) | (go_at_call 32; (with_reducible refine (KRu.out _ (by assumption)).mono ?_); rintro e v2 ⟨rfl, qv2⟩) | (go_at_call 28; (with_reducible refine (KDo.out _ (by assumption)).mono ?_); rintro e v3 ⟨rfl, qv3⟩) | (go_at_call 33; (with_reducible refine (KRd.out _ (by assumption)).mono ?_); rintro e v4 ⟨rfl, qv4⟩) | (go_at_call 29; (with_reducible refine (KLe.out _ (by assumption)).mono ?_); rintro e v5 ⟨rfl, qv5⟩) | (go_at_call 34; (with_reducible refine (KMl.out _ (by assumption)).mono ?_); rintro e v6 ⟨rfl, qv6⟩) | (go_at_call 30; (with_reducible refine (KAh.out _ (by assumption)).mono ?_); rintro e v7 ⟨rfl, qv7⟩) | (go_at_call 34; (with_reducible refine (KMa.out _ (by assumption)).mono ?_); rintro e v8 ⟨rfl, qv8⟩) | (go_at_call 9; (with_reducible refine (KWk.out _ (by assumption)).mono ?_); rintro e v9 ⟨rfl, qv9⟩))
    all_goals
      go_wp2
      go_ret
      exact ⟨rfl, HB.out.trans (Below.mono (by assumption) HB.out.size)⟩

theorem moves_law (W H T B x y n : Int) (o : Bool) (w : World) (hW : IntIn W) (hH : IntIn H) (hT : IntIn T) (hB : IntIn B) (hx : IntIn x) (hy : IntIn y) (hn : IntIn n) : Calls Try.prog 4 #[areaV W H T B, .int .i64 x, .int .i64 y, .int .i64 n, .bool o] w fun e w' => e = .returned (.bool true) ∧ Below w.heap.size w w' := by
  cases hm : mayB W H T B with
  | true => exact moves_yes W H T B x y n o hW hH hT hB hx hy hn w hm
  | false => exact moves_no W H T B x y n o hW hH hT hB hx hy hn w hm
end Go.Proofs.Ytfkiihddcinckaa.Tb
