/- Layer 12: the chapter's examples (wakes); the law's area, upper; calls from world to world. -/
import Derived.Test.YtfkiihddcinckaaTbP
set_option linter.unusedVariables false
namespace Go.Proofs.Ytfkiihddcinckaa.Tb
open Go.RowKit

theorem in_small {n : Int} (h1 : -1000 ≤ n) (h2 : n ≤ 10000) : IntIn n := ⟨by omega, by omega⟩
set_option maxRecDepth 100000 in
theorem area_any (w : World) : Calls Try.prog 36 #[] w fun e w' => e = .returned (areaV 10 8 2 5) ∧ Below w.heap.size w w' := by
  have hB : Below w.heap.size w (w.alloc (.cells #[.int .i64 10, .int .i64 8, .int .i64 2, .int .i64 5] 43)) := (Below.refl _ _).alloc (Nat.le_refl _) _
  have HB := Lib.hid hB
  have hn := heap_new w (.cells #[.int .i64 10, .int .i64 8, .int .i64 2, .int .i64 5] 43)
  have HN := Lib.hid hn
  clear hB hn
  go_enter Try.func36, Try.ntmps36
  go_wp2
  exact bodyPost_ret (results_cell_row Try.results36 _ _ _ _ _ _ _ rfl HN.out Try.underlying43 rfl (by kernel_rfl)) rfl ⟨rfl, HB.out⟩
theorem upper_any (W H T B y : Int) (w : World) : Calls Try.prog 35 #[areaV W H T B, .int .i64 y] w fun e w' => e = .returned (.int .i64 (if y ≥ T then T else 0)) ∧ Below w.heap.size w w' := by
  have HB : Hid (Below w.heap.size w (w.alloc (.cells #[.int .i64 W, .int .i64 H, .int .i64 T, .int .i64 B] 43))) := Lib.hid ((Below.refl _ _).alloc (Nat.le_refl _) _)
  by_cases h : y ≥ T
  · have g : decide (y ≥ T) = true := by simpa using h
    rw [if_pos h]
    go_enter Try.func35, Try.ntmps35
    go_wp2
    go_ret
    exact ⟨rfl, HB.out⟩
  · have g : decide (y ≥ T) = false := by simpa using h
    rw [if_neg h]
    go_enter Try.func35, Try.ntmps35
    go_wp2
    go_ret
    exact ⟨rfl, HB.out⟩
/-- Stops from world to world. -/
theorem st_old {F : Nat → Prop} {w w' : World} {s : Value} {bs : List Bool} (h : IsSt F w s bs) (hb : Below w.heap.size w w') : IsSt F w' s bs := st_keep h fun k hk => hb.block k (st_lt h k hk)
theorem lit_ints (w : World) (l : List Nat) (h : l.length ≤ 1000) : LiesI (w.alloc (.cells (intsC l).toArray 3)) (.slice (some ⟨w.heap.size, 0, none⟩) l.length l.length) l :=
  ⟨_, l.length, rfl, fun e => (by cases e), by omega, fun _ => ⟨w.heap.size, rfl, by simp, fun k hk => by
    rw [cell_of (heap_new w _)]
    simpa using ints_get l k hk⟩⟩

set_option maxRecDepth 100000 in
set_option maxHeartbeats 4000000 in
theorem wakes_any (w : World) : Calls Try.prog 9 #[] w fun e w' => e = .returned (.bool true) ∧ Below w.heap.size w w' := by
  have H1 := Lib.hid (new_any 20 w)
  go_enter Try.func9, Try.ntmps9
  go_wp2_with fail
  refine (show Calls _ _ _ _ _ from H1.out).mono ?_
  rintro e w1 ⟨s, F, rfl, hs1, -, b1⟩
  have B1 := Lib.hid b1
  have HS : Hid (∀ V, Below w1.heap.size w1 V → IsSt F V s (newB 20)) := Lib.hid fun V hV => st_old hs1 hV
  clear b1 hs1 H1
  have K1 : Hid (Calls Try.prog 36 #[] w1 fun e w' => e = .returned (areaV 10 8 2 5) ∧ Below (w1).heap.size w1 w') := Lib.hid (area_any w1)
  go_wp2_with fail
  refine (show Calls _ _ _ _ _ from K1.out).mono ?_
  rintro e y1 ⟨rfl, j1⟩
  have J1 := Lib.hid j1
  clear K1 j1
  have K2 : Hid (Calls Try.prog 26 #[areaV 10 8 2 5, .bool true, .int .i64 3, .int .i64 9] y1 fun e w' => e = .returned (.tuple #[.int .i64 3, .int .i64 5]) ∧ Below (y1).heap.size y1 w') := Lib.hid (by have := to_any 10 8 2 5 (in_small (by decide) (by decide)) (in_small (by decide) (by decide)) (in_small (by decide) (by decide)) (in_small (by decide) (by decide)) y1 true 3 9 (in_small (by decide) (by decide)) (in_small (by decide) (by decide)); rwa [show (if mayB 10 8 2 5 then toxV 10 3 else 0 : Int) = 3 from by decide +kernel, show (if mayB 10 8 2 5 then toyV 8 2 5 true 9 else 0 : Int) = 5 from by decide +kernel] at this)
  go_wp2_with fail
  refine (show Calls _ _ _ _ _ from K2.out).mono ?_
  rintro e y2 ⟨rfl, j2⟩
  have J2 := Lib.hid (J1.out.trans (j2.mono J1.out.size))
  clear K2 j2 J1
  have K3 : Hid (Calls Try.prog 21 #[s, .int .i64 0, .int .i64 1] y2 fun e w' => e = .returned (.int .i64 8) ∧ Below (y2).heap.size y2 w') := Lib.hid (by have := next_any (HS.out y2 J2.out) 0 1 (in_small (by decide) (by decide)) (in_small (by decide) (by decide)); rwa [show nextV (newB 20) 0 1 = 8 from by decide +kernel] at this)
  go_wp2_with fail
  refine (show Calls _ _ _ _ _ from K3.out).mono ?_
  rintro e y3 ⟨rfl, j3⟩
  have J3 := Lib.hid (J2.out.trans (j3.mono J2.out.size))
  clear K3 j3 J2
  have K4 : Hid (Calls Try.prog 21 #[s, .int .i64 16, .int .i64 1] y3 fun e w' => e = .returned (.int .i64 19) ∧ Below (y3).heap.size y3 w') := Lib.hid (by have := next_any (HS.out y3 J3.out) 16 1 (in_small (by decide) (by decide)) (in_small (by decide) (by decide)); rwa [show nextV (newB 20) 16 1 = 19 from by decide +kernel] at this)
  go_wp2_with fail
  refine (show Calls _ _ _ _ _ from K4.out).mono ?_
  rintro e y4 ⟨rfl, j4⟩
  have J4 := Lib.hid (J3.out.trans (j4.mono J3.out.size))
  clear K4 j4 J3
  have K5 : Hid (Calls Try.prog 23 #[s, .int .i64 9, .int .i64 1] y4 fun e w' => e = .returned (.int .i64 8) ∧ Below (y4).heap.size y4 w') := Lib.hid (by have := prev_any (HS.out y4 J4.out) 9 1 (in_small (by decide) (by decide)) (in_small (by decide) (by decide)); rwa [show prevV (newB 20) 9 1 = 8 from by decide +kernel] at this)
  go_wp2_with fail
  refine (show Calls _ _ _ _ _ from K5.out).mono ?_
  rintro e y5 ⟨rfl, j5⟩
  have J5 := Lib.hid (J4.out.trans (j5.mono J4.out.size))
  clear K5 j5 J4
  have K6 : Hid (Calls Try.prog 20 #[s, .int .i64 9] y5 fun e w' => ∃ v, e = .returned v ∧ OwnI w' (y5).heap.size v [8, 16] ∧ Below (y5).heap.size y5 w') := Lib.hid (by have hst := HS.out y5 J5.out; have h1 := st_len (newB 20); have h2 := (st_len400 hst).2; have := all_any s (stL (newB 20)) 9 y5 (by omega) (by decide) (by decide) (y5).heap.size (by omega) (every_any hst); rwa [show (stL (newB 20)).take 9 = [8, 16] from by decide +kernel] at this)
  go_wp2_with fail
  refine (show Calls _ _ _ _ _ from K6.out).mono ?_
  rintro e y6 ⟨v, rfl, hv, j6⟩
  have J6 := Lib.hid (J5.out.trans (j6.mono J5.out.size))
  clear K6 j6 J5
  have Lv : Hid (∀ V, Below y6.heap.size y6 V → LiesI V v [8, 16]) := Lib.hid fun V hV => (ownI_lies hv).below hV
  clear hv
  have HA7 : Hid (Below y6.heap.size y6 (y6.alloc (.cells #[.int .i64 8, .int .i64 16] 3))) := Lib.hid ((Below.refl _ _).alloc (Nat.le_refl _) _)
  have K7 : Hid (Calls Try.prog 19 #[v, .slice (some ⟨y6.heap.size, 0, none⟩) 2 2] (y6.alloc (.cells #[.int .i64 8, .int .i64 16] 3)) fun e w' => e = .returned (.bool true) ∧ Below y6.heap.size y6 w') := Lib.hid (by have := same_any v (.slice (some ⟨y6.heap.size, 0, none⟩) 2 2) _ _ (y6.alloc (.cells #[.int .i64 8, .int .i64 16] 3)) (Lv.out _ HA7.out) (lit_ints y6 [8, 16] (by decide)) (by decide); rw [show decide (([8, 16] : List Nat) = [8, 16]) = true from by decide +kernel] at this; exact this.mono fun e w' ⟨he, hb⟩ => ⟨he, HA7.out.trans (hb.mono HA7.out.size)⟩)
  go_wp2_with fail
  refine (show Calls _ _ _ _ _ from K7.out).mono ?_
  rintro e y7 ⟨rfl, j7⟩
  have J7 := Lib.hid (J6.out.trans (j7.mono J6.out.size))
  clear K7 j7 HA7 J6 Lv
  have K8 : Hid (Calls Try.prog 36 #[] y7 fun e w' => e = .returned (areaV 10 8 2 5) ∧ Below (y7).heap.size y7 w') := Lib.hid (area_any y7)
  go_wp2_with fail
  refine (show Calls _ _ _ _ _ from K8.out).mono ?_
  rintro e y8 ⟨rfl, j8⟩
  have J8 := Lib.hid (J7.out.trans (j8.mono J7.out.size))
  clear K8 j8 J7
  have K9 : Hid (Calls Try.prog 27 #[areaV 10 8 2 5, .int .i64 4, .int .i64 9] y8 fun e w' => e = .returned (.int .i64 2) ∧ Below (y8).heap.size y8 w') := Lib.hid (by have := up_any 10 8 2 5 (in_small (by decide) (by decide)) (in_small (by decide) (by decide)) (in_small (by decide) (by decide)) (in_small (by decide) (by decide)) y8 (4) (9) (in_small (by decide) (by decide)) (in_small (by decide) (by decide)); rwa [show (if mayB 10 8 2 5 then upV 8 2 (4) (9) else 0 : Int) = 2 from by decide +kernel] at this)
  go_wp2_with fail
  refine (show Calls _ _ _ _ _ from K9.out).mono ?_
  rintro e y9 ⟨rfl, j9⟩
  have J9 := Lib.hid (J8.out.trans (j9.mono J8.out.size))
  clear K9 j9 J8
  have K10 : Hid (Calls Try.prog 36 #[] y9 fun e w' => e = .returned (areaV 10 8 2 5) ∧ Below (y9).heap.size y9 w') := Lib.hid (area_any y9)
  go_wp2_with fail
  refine (show Calls _ _ _ _ _ from K10.out).mono ?_
  rintro e y10 ⟨rfl, j10⟩
  have J10 := Lib.hid (J9.out.trans (j10.mono J9.out.size))
  clear K10 j10 J9
  have K11 : Hid (Calls Try.prog 28 #[areaV 10 8 2 5, .int .i64 6, .int .i64 9] y10 fun e w' => e = .returned (.int .i64 7) ∧ Below (y10).heap.size y10 w') := Lib.hid (by have := down_any 10 8 2 5 (in_small (by decide) (by decide)) (in_small (by decide) (by decide)) (in_small (by decide) (by decide)) (in_small (by decide) (by decide)) y10 (6) (9) (in_small (by decide) (by decide)) (in_small (by decide) (by decide)); rwa [show (if mayB 10 8 2 5 then downV 8 5 (6) (9) else 0 : Int) = 7 from by decide +kernel] at this)
  go_wp2_with fail
  refine (show Calls _ _ _ _ _ from K11.out).mono ?_
  rintro e y11 ⟨rfl, j11⟩
  have J11 := Lib.hid (J10.out.trans (j11.mono J10.out.size))
  clear K11 j11 J10
  have K12 : Hid (Calls Try.prog 36 #[] y11 fun e w' => e = .returned (areaV 10 8 2 5) ∧ Below (y11).heap.size y11 w') := Lib.hid (area_any y11)
  go_wp2_with fail
  refine (show Calls _ _ _ _ _ from K12.out).mono ?_
  rintro e y12 ⟨rfl, j12⟩
  have J12 := Lib.hid (J11.out.trans (j12.mono J11.out.size))
  clear K12 j12 J11
  have K13 : Hid (Calls Try.prog 25 #[areaV 10 8 2 5] y12 fun e w' => e = .returned (.bool true) ∧ Below (y12).heap.size y12 w') := Lib.hid (by have := right_any 10 8 2 5 (in_small (by decide) (by decide)) (in_small (by decide) (by decide)) (in_small (by decide) (by decide)) (in_small (by decide) (by decide)) y12; rwa [show mayB 10 8 2 5 = true from by decide +kernel] at this)
  go_wp2_with fail
  refine (show Calls _ _ _ _ _ from K13.out).mono ?_
  rintro e y13 ⟨rfl, j13⟩
  have J13 := Lib.hid (J12.out.trans (j13.mono J12.out.size))
  clear K13 j13 J12
  go_wp2
  go_ret
  exact ⟨rfl, B1.out.trans (J13.out.mono B1.out.size)⟩
end Go.Proofs.Ytfkiihddcinckaa.Tb
