/- Layer 12: TabsNobody: nil stops. -/
import Derived.Test.YtfkiihddcinckaaTbK
set_option linter.unusedVariables false
namespace Go.Proofs.Ytfkiihddcinckaa.Tb
open Go.RowKit

set_option maxRecDepth 100000 in
set_option maxHeartbeats 4000000 in
theorem nobody_law (x n : Int) (w : World) (hx : IntIn x) (hn : IntIn n) : Calls Try.prog 5 #[.int .i64 x, .int .i64 n] w fun e w' => e = .returned (.bool true) ∧ Below w.heap.size w w' := by
  go_enter Try.func5, Try.ntmps5
  have K1 : Hid (Calls Try.prog 16 #[.pointer none] w fun e w' => e = .returned (.tuple #[]) ∧ Below (w).heap.size w w') := Lib.hid (wipe_nil w)
  go_wp2_with fail
  refine (show Calls _ _ _ _ _ from K1.out).mono ?_
  rintro e y1 ⟨rfl, j1⟩
  have J1 := Lib.hid j1
  clear K1 j1
  have K2 : Hid (Calls Try.prog 17 #[.pointer none, .int .i64 x] y1 fun e w' => e = .returned (.tuple #[]) ∧ Below (y1).heap.size y1 w') := Lib.hid (size_nil x y1)
  go_wp2_with fail
  refine (show Calls _ _ _ _ _ from K2.out).mono ?_
  rintro e y2 ⟨rfl, j2⟩
  have J2 := Lib.hid (J1.out.trans (j2.mono J1.out.size))
  clear K2 j2 J1
  have K3 : Hid (Calls Try.prog 12 #[.pointer none, .int .i64 x] y2 fun e w' => e = .returned (.bool false) ∧ Below (y2).heap.size y2 w') := Lib.hid (set_nil x y2)
  go_wp2_with fail
  refine (show Calls _ _ _ _ _ from K3.out).mono ?_
  rintro e y3 ⟨rfl, j3⟩
  have J3 := Lib.hid (J2.out.trans (j3.mono J2.out.size))
  clear K3 j3 J2
  have K4 : Hid (Calls Try.prog 14 #[.pointer none, .int .i64 x] y3 fun e w' => e = .returned (.bool false) ∧ Below (y3).heap.size y3 w') := Lib.hid (clr_nil x y3)
  go_wp2_with fail
  refine (show Calls _ _ _ _ _ from K4.out).mono ?_
  rintro e y4 ⟨rfl, j4⟩
  have J4 := Lib.hid (J3.out.trans (j4.mono J3.out.size))
  clear K4 j4 J3
  have K5 : Hid (Calls Try.prog 21 #[.pointer none, .int .i64 x, .int .i64 n] y4 fun e w' => e = .returned (.int .i64 0) ∧ Below (y4).heap.size y4 w') := Lib.hid (next_nil x n hx hn y4)
  go_wp2_with fail
  refine (show Calls _ _ _ _ _ from K5.out).mono ?_
  rintro e y5 ⟨rfl, j5⟩
  have J5 := Lib.hid (J4.out.trans (j5.mono J4.out.size))
  clear K5 j5 J4
  have K6 : Hid (Calls Try.prog 23 #[.pointer none, .int .i64 x, .int .i64 n] y5 fun e w' => e = .returned (.int .i64 0) ∧ Below (y5).heap.size y5 w') := Lib.hid (prev_nil x n hx hn y5)
  go_wp2_with fail
  refine (show Calls _ _ _ _ _ from K6.out).mono ?_
  rintro e y6 ⟨rfl, j6⟩
  have J6 := Lib.hid (J5.out.trans (j6.mono J5.out.size))
  clear K6 j6 J5
  have K7 : Hid (Calls Try.prog 20 #[.pointer none, .int .i64 9] y6 fun e w' => (∃ A c, e = .returned (.slice A 0 c)) ∧ Below (y6).heap.size y6 w') := Lib.hid (by have := all_any (.pointer none) [] 9 y6 (by decide) (by decide) (by decide) (y6).heap.size (by omega) (every_nil y6); refine this.mono ?_; rintro e w' ⟨v, rfl, ho, hb⟩; obtain ⟨A, c, rfl, -⟩ := ownI_lies ho; exact ⟨⟨A, c, rfl⟩, hb⟩)
  go_wp2_with fail
  refine (show Calls _ _ _ _ _ from K7.out).mono ?_
  rintro e y7 ⟨⟨A, c, rfl⟩, j7⟩
  have J7 := Lib.hid (J6.out.trans (j7.mono J6.out.size))
  clear K7 j7 J6
  have K8 : Hid (Calls Try.prog 9 #[] y7 fun e w' => e = .returned (.bool true) ∧ Below (y7).heap.size y7 w') := Lib.hid (wakes_any y7)
  go_wp2_with fail
  refine (show Calls _ _ _ _ _ from K8.out).mono ?_
  rintro e y8 ⟨rfl, j8⟩
  have J8 := Lib.hid (J7.out.trans (j8.mono J7.out.size))
  clear K8 j8 J7
  go_wp2
  go_ret
  exact ⟨rfl, J8.out⟩
end Go.Proofs.Ytfkiihddcinckaa.Tb
