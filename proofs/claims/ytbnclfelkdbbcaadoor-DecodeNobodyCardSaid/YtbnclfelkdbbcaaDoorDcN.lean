/- Layer 5: DecodeNobody's walk. -/
import Derived.Test.YtbnclfelkdbbcaaDoorDcE
namespace Go.Proofs.YtbnclfelkdbbcaaDoor
open Go.RowKit Go.Lib Dec

theorem build_zero (W : World) : (Instr.build 33 #[]).run Tryd.prog W = .ok (.agg #[.int .i32 0, .int .i32 0]) W := run_build W 33 #[] _ (by kernel_rfl)
theorem eq_zero (W : World) : (binOp .eql 33 (.agg #[.int .i32 0, .int .i32 0]) (.agg #[.int .i32 0, .int .i32 0])).run Tryd.prog W = .ok (.bool true) W := by kernel_rfl
theorem guard_zero (x y : Operand) (W : World) : (eqGuard .eql 33 x y (.agg #[.int .i32 0, .int .i32 0]) (.agg #[.int .i32 0, .int .i32 0])).run Tryd.prog W = .ok () W := by kernel_rfl

theorem nobody_walk (a : Int) (w : World) (_ : (Lit.int .u8 a).wf = true) (hT : Tabs w) : Calls Tryd.prog 6 #[.int .u8 a] w fun e w' => e = .returned (.bool true) ∧ Below w.heap.size w w' := by
  have HA := Lib.hid (awake_any w hT)
  have kb := build_zero
  have q1 := eq_zero
  have q2 := guard_zero
  clear hT
  go_enter Tryd.func6, Tryd.ntmps6
  go_wp2_with fail
  refine HA.out.mono ?_
  rintro e w1 ⟨rfl, hb⟩
  have B1 := Lib.hid hb
  clear hb HA
  go_wp2_with fail
  refine (nil_byte a _).mono ?_
  rintro e w2 ⟨rfl, hb⟩
  have B2 := Lib.hid (B1.out.trans (hb.mono B1.out.size))
  clear hb B1
  go_wp2_with fail
  refine (nil_end _).mono ?_
  rintro e w3 ⟨rfl, rfl⟩
  go_wp2_with fail
  refine (nil_waits _).mono ?_
  rintro e w3 ⟨rfl, rfl⟩
  go_wp2
  go_ret
  exact ⟨rfl, B2.out.alloc B2.out.size _⟩

end Go.Proofs.YtbnclfelkdbbcaaDoor
