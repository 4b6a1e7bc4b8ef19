/- Layer 5: the shelf's contract of unicode/utf8.DecodeRune, laid at this seat's program by hand: the table of numbers, its fields by the program's own facts. -/
import Derived.Shelf.Spec.DecodeRune
import Derived.Test.YtbnclfelkdbbcaaDoorProg
namespace Go.Proofs
open Go.Shelf
def Tryd.dec_ren : Go.Shelf.Ren := ⟨fun | 32 => 18 | 49 => 21 | n => n, fun | 0 => 0 | 3 => 3 | 4 => 4 | 5 => 5 | 21 => 21 | 25 => 54 | 30 => 41 | 33 => 46 | 66 => 50 | 68 => 52 | 69 => 53 | n => n, fun | 2 => 0 | 3 => 1 | n => n⟩
theorem Tryd.decLays : Go.Proofs.Lays7.n32 Tryd.prog Tryd.dec_ren := {
  mixed := by kernel_rfl
  f32 := Tryd.func18.trans (congrArg some (by kernel_rfl))
  f49 := Tryd.func21.trans (congrArg some (by kernel_rfl))
  t0 := Tryd.underlying0
  a0 := Tryd.isAgg0
  z0 := Tryd.sizeOf0
  v0 := Tryd.zeroValue0
  i0 := by kernel_rfl
  t3 := Tryd.underlying3
  a3 := Tryd.isAgg3
  z3 := Tryd.sizeOf3
  v3 := Tryd.zeroValue3
  i3 := by kernel_rfl
  t4 := Tryd.underlying4
  a4 := Tryd.isAgg4
  z4 := Tryd.sizeOf4
  v4 := Tryd.zeroValue4
  i4 := by kernel_rfl
  t5 := Tryd.underlying5
  a5 := Tryd.isAgg5
  z5 := Tryd.sizeOf5
  v5 := Tryd.zeroValue5
  i5 := by kernel_rfl
  t21 := Tryd.underlying21
  a21 := Tryd.isAgg21
  z21 := Tryd.sizeOf21
  v21 := Tryd.zeroValue21
  i21 := by kernel_rfl
  t25 := Tryd.underlying54
  a25 := Tryd.isAgg54
  z25 := Tryd.sizeOf54
  v25 := Tryd.zeroValue54
  i25 := by kernel_rfl
  t30 := Tryd.underlying41
  a30 := Tryd.isAgg41
  z30 := Tryd.sizeOf41
  v30 := Tryd.zeroValue41
  i30 := by kernel_rfl
  t33 := Tryd.underlying46
  a33 := Tryd.isAgg46
  z33 := Tryd.sizeOf46
  v33 := Tryd.zeroValue46
  i33 := by kernel_rfl
  t66 := Tryd.underlying50
  a66 := Tryd.isAgg50
  z66 := Tryd.sizeOf50
  t68 := Tryd.underlying52
  a68 := Tryd.isAgg52
  z68 := Tryd.sizeOf52
  v68 := Tryd.zeroValue52
  i68 := by kernel_rfl
  t69 := Tryd.underlying53
  a69 := Tryd.isAgg53
  z69 := Tryd.sizeOf53
  v69 := Tryd.zeroValue53
  i69 := by kernel_rfl
  g2 := by kernel_rfl
  g3 := by kernel_rfl
}
end Go.Proofs
