/- Layer 5: the shelf's contract of unicode/utf8.DecodeRune, laid at this seat's program by hand: the table of numbers, its fields by the program's own facts. -/
import Derived.Shelf.Spec.DecodeRune
import Derived.Test.YtkenaccnmmmooaaDoorProg
namespace Go.Proofs
open Go.Shelf
def Tryd.dec_ren : Go.Shelf.Ren := ⟨fun | 32 => 72 | 49 => 78 | n => n, fun | 0 => 0 | 3 => 3 | 4 => 4 | 5 => 5 | 21 => 21 | 25 => 54 | 30 => 90 | 33 => 114 | 66 => 118 | 68 => 120 | 69 => 121 | n => n, fun | 2 => 2 | 3 => 3 | n => n⟩
theorem Tryd.decLays : Go.Proofs.Lays7.n32 Tryd.prog Tryd.dec_ren := {
  mixed := by kernel_rfl
  f32 := Tryd.func72.trans (congrArg some (by kernel_rfl))
  f49 := Tryd.func78.trans (congrArg some (by kernel_rfl))
  t0 := Tryd.underlying0
  a0 := Tryd.isAgg0
  z0 := Tryd.sizeOf0
  v0 := Tryd.zeroValue0
  i0 := by kernel_rfl
  t3 := Tryd.underlying3
  a3 := Tryd.isAgg3
  z3 := Tryd.sizeOf3
  v3 := Tryd.zeroValue3
  i3 := by kernel_rfl
  t4 := Tryd.underlying4
  a4 := Tryd.isAgg4
  z4 := Tryd.sizeOf4
  v4 := Tryd.zeroValue4
  i4 := by kernel_rfl
  t5 := Tryd.underlying5
  a5 := Tryd.isAgg5
  z5 := Tryd.sizeOf5
  v5 := Tryd.zeroValue5
  i5 := by kernel_rfl
  t21 := Tryd.underlying21
  a21 := Tryd.isAgg21
  z21 := Tryd.sizeOf21
  v21 := Tryd.zeroValue21
  i21 := by kernel_rfl
  t25 := Tryd.underlying54
  a25 := Tryd.isAgg54
  z25 := Tryd.sizeOf54
  v25 := Tryd.zeroValue54
  i25 := by kernel_rfl
  t30 := Tryd.underlying90
  a30 := Tryd.isAgg90
  z30 := Tryd.sizeOf90
  v30 := Tryd.zeroValue90
  i30 := by kernel_rfl
  t33 := Tryd.underlying114
  a33 := Tryd.isAgg114
  z33 := Tryd.sizeOf114
  v33 := Tryd.zeroValue114
  i33 := by kernel_rfl
  t66 := Tryd.underlying118
  a66 := Tryd.isAgg118
  z66 := Tryd.sizeOf118
  t68 := Tryd.underlying120
  a68 := Tryd.isAgg120
  z68 := Tryd.sizeOf120
  v68 := Tryd.zeroValue120
  i68 := by kernel_rfl
  t69 := Tryd.underlying121
  a69 := Tryd.isAgg121
  z69 := Tryd.sizeOf121
  v69 := Tryd.zeroValue121
  i69 := by kernel_rfl
  g2 := by kernel_rfl
  g3 := by kernel_rfl
}
end Go.Proofs
