/- Layer 15: ReflowKeeps' walk where nothing is asked. -/
import Derived.Test.YtifolcfnknlmdaaReLt
import Derived.Test.YtifolcfnknlmdaaReN
set_option linter.unusedVariables false
namespace Go.Proofs.Ytifolcfnknlmdaa.Re
open Go.RowKit Go.Proofs.Ytifolcfnknlmdaa.Rw

set_option maxRecDepth 100000 in
set_option maxHeartbeats 4000000 in
theorem keeps_bad1 {A : Option Addr} {n c : Nat} {w : World} (KG : Hid (Calls Try.prog 8 #[.slice A n c] w fun e w' => e = .returned (.bool true) ∧ Below w.heap.size w w')) (W x y : Int)  : Calls Try.prog 3 #[.slice A n c, .int .i64 W, .int .i64 x, .int .i64 y] w fun e w' => e = .returned (.bool true) ∧ Below w.heap.size w w' := by
  go_enter Try.func3, Try.ntmps3
  go_wp2_with fail
  refine (show Calls _ _ _ _ _ from KG.out).mono ?_
  rintro e w1 ⟨rfl, b1⟩
  have HB1 := Lib.hid b1
  have KW := Lib.hid (wakes_any w1)
  clear b1 KG
  go_wp2_with fail
  refine (show Calls _ _ _ _ _ from KW.out).mono ?_
  rintro e w2 ⟨rfl, b2⟩
  have HB2 := Lib.hid (HB1.out.trans (b2.mono HB1.out.size))
  clear b2 KW HB1
  go_wp2
  go_ret
  exact ⟨rfl, HB2.out⟩
set_option maxRecDepth 100000 in
set_option maxHeartbeats 4000000 in
theorem keeps_bad2 {A : Option Addr} {n c : Nat} {w : World} (KG : Hid (Calls Try.prog 8 #[.slice A n c] w fun e w' => e = .returned (.bool false) ∧ Below w.heap.size w w')) (W x y : Int) (a1 : decide (W < 2) = true)  : Calls Try.prog 3 #[.slice A n c, .int .i64 W, .int .i64 x, .int .i64 y] w fun e w' => e = .returned (.bool true) ∧ Below w.heap.size w w' := by
  go_enter Try.func3, Try.ntmps3
  go_wp2_with fail
  refine (show Calls _ _ _ _ _ from KG.out).mono ?_
  rintro e w1 ⟨rfl, b1⟩
  have HB1 := Lib.hid b1
  have KW := Lib.hid (wakes_any w1)
  clear b1 KG
  go_wp2_with fail
  refine (show Calls _ _ _ _ _ from KW.out).mono ?_
  rintro e w2 ⟨rfl, b2⟩
  have HB2 := Lib.hid (HB1.out.trans (b2.mono HB1.out.size))
  clear b2 KW HB1
  go_wp2
  go_ret
  exact ⟨rfl, HB2.out⟩
set_option maxRecDepth 100000 in
set_option maxHeartbeats 4000000 in
theorem keeps_bad3 {A : Option Addr} {n c : Nat} {w : World} (KG : Hid (Calls Try.prog 8 #[.slice A n c] w fun e w' => e = .returned (.bool false) ∧ Below w.heap.size w w')) (W x y : Int) (a1 : decide (W < 2) = false) (a2 : decide (W > 400) = true)  : Calls Try.prog 3 #[.slice A n c, .int .i64 W, .int .i64 x, .int .i64 y] w fun e w' => e = .returned (.bool true) ∧ Below w.heap.size w w' := by
  go_enter Try.func3, Try.ntmps3
  go_wp2_with fail
  refine (show Calls _ _ _ _ _ from KG.out).mono ?_
  rintro e w1 ⟨rfl, b1⟩
  have HB1 := Lib.hid b1
  have KW := Lib.hid (wakes_any w1)
  clear b1 KG
  go_wp2_with fail
  refine (show Calls _ _ _ _ _ from KW.out).mono ?_
  rintro e w2 ⟨rfl, b2⟩
  have HB2 := Lib.hid (HB1.out.trans (b2.mono HB1.out.size))
  clear b2 KW HB1
  go_wp2
  go_ret
  exact ⟨rfl, HB2.out⟩
set_option maxRecDepth 100000 in
set_option maxHeartbeats 4000000 in
theorem keeps_bad4 {A : Option Addr} {n c : Nat} {w : World} (KG : Hid (Calls Try.prog 8 #[.slice A n c] w fun e w' => e = .returned (.bool false) ∧ Below w.heap.size w w')) (W x y : Int) (a1 : decide (W < 2) = false) (a2 : decide (W > 400) = false) (a3 : decide (y < 0) = true)  : Calls Try.prog 3 #[.slice A n c, .int .i64 W, .int .i64 x, .int .i64 y] w fun e w' => e = .returned (.bool true) ∧ Below w.heap.size w w' := by
  go_enter Try.func3, Try.ntmps3
  go_wp2_with fail
  refine (show Calls _ _ _ _ _ from KG.out).mono ?_
  rintro e w1 ⟨rfl, b1⟩
  have HB1 := Lib.hid b1
  have KW := Lib.hid (wakes_any w1)
  clear b1 KG
  go_wp2_with fail
  refine (show Calls _ _ _ _ _ from KW.out).mono ?_
  rintro e w2 ⟨rfl, b2⟩
  have HB2 := Lib.hid (HB1.out.trans (b2.mono HB1.out.size))
  clear b2 KW HB1
  go_wp2
  go_ret
  exact ⟨rfl, HB2.out⟩
set_option maxRecDepth 100000 in
set_option maxHeartbeats 4000000 in
theorem keeps_bad5 {A : Option Addr} {n c : Nat} {w : World} (KG : Hid (Calls Try.prog 8 #[.slice A n c] w fun e w' => e = .returned (.bool false) ∧ Below w.heap.size w w')) (W x y : Int) (a1 : decide (W < 2) = false) (a2 : decide (W > 400) = false) (a3 : decide (y < 0) = false) (a4 : decide (y ≥ (n : Int)) = true)  : Calls Try.prog 3 #[.slice A n c, .int .i64 W, .int .i64 x, .int .i64 y] w fun e w' => e = .returned (.bool true) ∧ Below w.heap.size w w' := by
  have a4' : decide ((n : Int) ≤ y) = true := a4
  go_enter Try.func3, Try.ntmps3
  go_wp2_with fail
  refine (show Calls _ _ _ _ _ from KG.out).mono ?_
  rintro e w1 ⟨rfl, b1⟩
  have HB1 := Lib.hid b1
  have KW := Lib.hid (wakes_any w1)
  clear b1 KG
  go_wp2_with fail
  refine (show Calls _ _ _ _ _ from KW.out).mono ?_
  rintro e w2 ⟨rfl, b2⟩
  have HB2 := Lib.hid (HB1.out.trans (b2.mono HB1.out.size))
  clear b2 KW HB1
  go_wp2
  go_ret
  exact ⟨rfl, HB2.out⟩
set_option maxRecDepth 100000 in
set_option maxHeartbeats 4000000 in
theorem keeps_bad6 {A : Option Addr} {n c : Nat} {w : World} (KG : Hid (Calls Try.prog 8 #[.slice A n c] w fun e w' => e = .returned (.bool false) ∧ Below w.heap.size w w')) (W x y : Int) (a1 : decide (W < 2) = false) (a2 : decide (W > 400) = false) (a3 : decide (y < 0) = false) (a4 : decide (y ≥ (n : Int)) = false) (a5 : decide (x < 0) = true)  : Calls Try.prog 3 #[.slice A n c, .int .i64 W, .int .i64 x, .int .i64 y] w fun e w' => e = .returned (.bool true) ∧ Below w.heap.size w w' := by
  have a4' : decide ((n : Int) ≤ y) = false := a4
  go_enter Try.func3, Try.ntmps3
  go_wp2_with fail
  refine (show Calls _ _ _ _ _ from KG.out).mono ?_
  rintro e w1 ⟨rfl, b1⟩
  have HB1 := Lib.hid b1
  have KW := Lib.hid (wakes_any w1)
  clear b1 KG
  go_wp2_with fail
  refine (show Calls _ _ _ _ _ from KW.out).mono ?_
  rintro e w2 ⟨rfl, b2⟩
  have HB2 := Lib.hid (HB1.out.trans (b2.mono HB1.out.size))
  clear b2 KW HB1
  go_wp2
  go_ret
  exact ⟨rfl, HB2.out⟩
end Go.Proofs.Ytifolcfnknlmdaa.Re
