/- Layer 5: DecodeKnown's walk. -/
import Derived.Test.YtbnclfelkdbbcaaDoorDcE
namespace Go.Proofs.YtbnclfelkdbbcaaDoor
open Go.RowKit Go.Lib Dec

theorem kn0 : allD [97, 195, 169] = [97, 233] := by decide +kernel
theorem kn1 : allD [195] = [65533] := by decide +kernel
theorem kn2 : allD [195, 97] = [65533, 97] := by decide +kernel
theorem kn3 : allD [237, 160, 128] = [65533, 65533, 65533] := by decide +kernel
theorem kn4 : allD [240, 159, 152, 128] = [128512] := by decide +kernel
theorem kn5 : allD [] = [] := rfl

set_option maxHeartbeats 3200000 in
theorem known_walk (w : World) (hT : Tabs w) : Calls Tryd.prog 3 #[] w fun e w' => e = .returned (.bool true) ∧ Below w.heap.size w w' := by
  have HA := Lib.hid (awake_any w hT)
  have HT := Lib.hid hT
  clear hT
  go_enter Tryd.func3, Tryd.ntmps3
  go_wp2_with fail
  refine HA.out.mono ?_
  rintro e w0 ⟨rfl, hb⟩
  have B0 := Lib.hid hb
  clear hb HA
  go_wp2_with fail
  refine (all_post _ _ kn0 (by decide) _ (HT.out.below B0.out (Nat.le_refl _))).mono ?_
  rintro e x0 ⟨A0, c0, n0, rfl, ho, hb, hn⟩
  have C0 := Lib.hid (B0.out.trans (hb.mono B0.out.size))
  have R0 := Lib.hid ((own_runes ho).below ((Below.refl x0.heap.size x0).alloc (Nat.le_refl _) (.cells #[.int .i32 97, .int .i32 233] 21)) (Nat.le_refl _))
  have L0 : Hid (Runes (x0.alloc (.cells #[.int .i32 97, .int .i32 233] 21)) (.slice (some ⟨x0.heap.size, 0, none⟩) 2 2) [97, 233]) := Lib.hid (lit_runes x0 [97, 233])
  clear ho hb hn B0
  go_wp2_with fail
  refine (same_yes _ _ _ _ (by decide) R0.out L0.out).mono ?_
  rintro e y0 ⟨rfl, j0, rfl⟩
  have B1 := Lib.hid (below_drew (C0.out.alloc C0.out.size (.cells #[.int .i32 97, .int .i32 233] 21)) j0)
  clear R0 L0 C0
  go_wp2_with fail
  refine (all_post _ _ kn1 (by decide) _ (HT.out.below B1.out (Nat.le_refl _))).mono ?_
  rintro e x1 ⟨A1, c1, n1, rfl, ho, hb, hn⟩
  have C1 := Lib.hid (B1.out.trans (hb.mono B1.out.size))
  have R1 := Lib.hid ((own_runes ho).below ((Below.refl x1.heap.size x1).alloc (Nat.le_refl _) (.cells #[.int .i32 65533] 21)) (Nat.le_refl _))
  have L1 : Hid (Runes (x1.alloc (.cells #[.int .i32 65533] 21)) (.slice (some ⟨x1.heap.size, 0, none⟩) 1 1) [65533]) := Lib.hid (lit_runes x1 [65533])
  clear ho hb hn B1
  go_wp2_with fail
  refine (same_yes _ _ _ _ (by decide) R1.out L1.out).mono ?_
  rintro e y1 ⟨rfl, j1, rfl⟩
  have B2 := Lib.hid (below_drew (C1.out.alloc C1.out.size (.cells #[.int .i32 65533] 21)) j1)
  clear R1 L1 C1
  go_wp2_with fail
  refine (all_post _ _ kn2 (by decide) _ (HT.out.below B2.out (Nat.le_refl _))).mono ?_
  rintro e x2 ⟨A2, c2, n2, rfl, ho, hb, hn⟩
  have C2 := Lib.hid (B2.out.trans (hb.mono B2.out.size))
  have R2 := Lib.hid ((own_runes ho).below ((Below.refl x2.heap.size x2).alloc (Nat.le_refl _) (.cells #[.int .i32 65533, .int .i32 97] 21)) (Nat.le_refl _))
  have L2 : Hid (Runes (x2.alloc (.cells #[.int .i32 65533, .int .i32 97] 21)) (.slice (some ⟨x2.heap.size, 0, none⟩) 2 2) [65533, 97]) := Lib.hid (lit_runes x2 [65533, 97])
  clear ho hb hn B2
  go_wp2_with fail
  refine (same_yes _ _ _ _ (by decide) R2.out L2.out).mono ?_
  rintro e y2 ⟨rfl, j2, rfl⟩
  have B3 := Lib.hid (below_drew (C2.out.alloc C2.out.size (.cells #[.int .i32 65533, .int .i32 97] 21)) j2)
  clear R2 L2 C2
  go_wp2_with fail
  refine (all_post _ _ kn3 (by decide) _ (HT.out.below B3.out (Nat.le_refl _))).mono ?_
  rintro e x3 ⟨A3, c3, n3, rfl, ho, hb, hn⟩
  have C3 := Lib.hid (B3.out.trans (hb.mono B3.out.size))
  have R3 := Lib.hid ((own_runes ho).below ((Below.refl x3.heap.size x3).alloc (Nat.le_refl _) (.cells #[.int .i32 65533, .int .i32 65533, .int .i32 65533] 21)) (Nat.le_refl _))
  have L3 : Hid (Runes (x3.alloc (.cells #[.int .i32 65533, .int .i32 65533, .int .i32 65533] 21)) (.slice (some ⟨x3.heap.size, 0, none⟩) 3 3) [65533, 65533, 65533]) := Lib.hid (lit_runes x3 [65533, 65533, 65533])
  clear ho hb hn B3
  go_wp2_with fail
  refine (same_yes _ _ _ _ (by decide) R3.out L3.out).mono ?_
  rintro e y3 ⟨rfl, j3, rfl⟩
  have B4 := Lib.hid (below_drew (C3.out.alloc C3.out.size (.cells #[.int .i32 65533, .int .i32 65533, .int .i32 65533] 21)) j3)
  clear R3 L3 C3
  go_wp2_with fail
  refine (all_post _ _ kn4 (by decide) _ (HT.out.below B4.out (Nat.le_refl _))).mono ?_
  rintro e x4 ⟨A4, c4, n4, rfl, ho, hb, hn⟩
  have C4 := Lib.hid (B4.out.trans (hb.mono B4.out.size))
  have R4 := Lib.hid ((own_runes ho).below ((Below.refl x4.heap.size x4).alloc (Nat.le_refl _) (.cells #[.int .i32 128512] 21)) (Nat.le_refl _))
  have L4 : Hid (Runes (x4.alloc (.cells #[.int .i32 128512] 21)) (.slice (some ⟨x4.heap.size, 0, none⟩) 1 1) [128512]) := Lib.hid (lit_runes x4 [128512])
  clear ho hb hn B4
  go_wp2_with fail
  refine (same_yes _ _ _ _ (by decide) R4.out L4.out).mono ?_
  rintro e y4 ⟨rfl, j4, rfl⟩
  have B5 := Lib.hid (below_drew (C4.out.alloc C4.out.size (.cells #[.int .i32 128512] 21)) j4)
  clear R4 L4 C4
  go_wp2_with fail
  refine (all_post _ _ kn5 (by decide) _ (HT.out.below B5.out (Nat.le_refl _))).mono ?_
  rintro e x5 ⟨A5, c5, n5, rfl, ho, hb, hn⟩
  have C5 := Lib.hid (B5.out.trans (hb.mono B5.out.size))
  obtain rfl : n5 = 0 := hn
  clear ho hb B5
  go_wp2
  go_ret
  exact ⟨rfl, C5.out⟩

end Go.Proofs.YtbnclfelkdbbcaaDoor
