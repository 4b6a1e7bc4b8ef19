/- Layer 3: QuotaKnown's walk. -/
import Derived.Test.YthjechngpjkgnaaQuoG
import Derived.Test.YthjechngpjkgnaaQuoI
import Derived.Test.YthjechngpjkgnaaQuoS
namespace Go.Proofs.Ythjechngpjkgnaa
open Go.RowKit Go.Maps Go.ChangeMaps

/-- Take of a quota of ints of which there is nothing: no number but 0. -/
theorem zero_take (q m : Nat) (x : Int) (w : World) (h : OfInt.QS w q m 0 (fun _ => 0) 0 (fun _ => False)) (hx : 0 ≤ x) :
    Calls Try.prog 12 #[.pointer (some ⟨q, 0, none⟩), .int .i64 1, .int .i64 x] w fun e w' => e = .returned (.bool (x == 0)) ∧ ∃ j, w' = w.drewN j := by
  have HL := Lib.hid (OfInt.left_any q m 0 (fun _ => 0) 0 (fun _ => False) 1 w h (by decide))
  clear h
  by_cases hx1 : 0 < x
  · go_enter Try.func12, Try.ntmps12
    go_wp2_with fail
    refine HL.out.mono ?_
    rintro e w' ⟨rfl, j, rfl⟩
    go_wp2_with fail
    go_ret
    exact ⟨ret_bool (by simp; omega), j, rfl⟩
  · go_enter Try.func12, Try.ntmps12
    go_wp2_with fail
    refine HL.out.mono ?_
    rintro e w' ⟨rfl, j, rfl⟩
    go_wp2_with fail
    go_ret
    exact ⟨ret_bool (by simp; omega), j, rfl⟩

theorem pane_cells {w : World} {p : Nat} {a b c : Int} (h : w.heap[p]? = some (OfPane.box a b c)) : w.cell? ⟨p, 0, none⟩ = some (.int .i64 a) ∧ w.cell? ⟨p, 1, none⟩ = some (.int .i64 b) ∧ w.cell? ⟨p, 2, none⟩ = some (.int .i64 c) := by
  refine ⟨?_, ?_, ?_⟩ <;> rw [cell_of h] <;> rfl

theorem key1 : ∃ kl, keyOf Try.prog 27 (OfPane.key 1 0 2) = some kl := Option.isSome_iff_exists.1 (by kernel_rfl)
theorem key2 : ∃ kl, keyOf Try.prog 27 (OfPane.key 1 1 2) = some kl := Option.isSome_iff_exists.1 (by kernel_rfl)
theorem key_ne : OfPane.key 1 1 2 ≠ OfPane.key 1 0 2 := by simp [OfPane.key]

set_option maxRecDepth 100000 in
set_option maxHeartbeats 1600000 in
theorem known_walk (w : World) : Calls Try.prog 3 #[] w fun e w' => e = .returned (.bool true) ∧ Below w.heap.size w w' := by
  have hnot : ∀ (x : Bool) (w : World), (Op.unary .not (.bool x)).run Try.prog w = .ok (.bool (!x)) w := fun _ _ => rfl
  obtain ⟨kl1, hk1⟩ := key1
  obtain ⟨kl2, hk2⟩ := key2
  have HK1 := Lib.hid hk1
  have HK2 := Lib.hid hk2
  clear hk1 hk2
  go_enter Try.func3, Try.ntmps3
  go_wp2_with fail
  refine (OfPane.mine_new (w := w) (by omega)).mono ?_
  rintro e w1 ⟨q, rfl, hM⟩
  have HM := Lib.hid hM
  clear hM
  go_wp2_with fail
  refine (OfPane.mine_take 1 0 2 1099511627776 (HM.out (OfPane.box 1 0 2)) HK1.out (r := true) (by decide)).mono ?_
  rintro e w2 ⟨rfl, T1, n1, hM, hK⟩
  obtain ⟨p0, p1, p2⟩ := pane_cells hM.beside
  have a1 : T1 (OfPane.key 1 0 2) = 1099511627776 := hK.same.trans (by decide)
  have b1 : T1 (OfPane.key 1 1 2) = 0 := hK.other _ key_ne
  have m1 : n1 = 1 := hK.keys.trans (by simp [okB])
  have H2 := Lib.hid (OfPane.mine_take 1 0 2 1 hM HK1.out (r := false) (by rw [a1]; decide))
  have A1 := Lib.hid a1
  have B1 := Lib.hid b1
  have N1 := Lib.hid m1
  clear hM hK HM a1 b1 m1
  go_wp2_with fail
  refine H2.out.mono ?_
  rintro e w3 ⟨rfl, T2, n2, hM, hK⟩
  clear p0 p1 p2
  obtain ⟨p0, p1, p2⟩ := pane_cells hM.beside
  have a2 : T2 (OfPane.key 1 0 2) = 1099511627776 := hK.same.trans (by rw [A1.out]; decide)
  have b2 : T2 (OfPane.key 1 1 2) = 0 := (hK.other _ key_ne).trans B1.out
  have m2 : n2 = 1 := hK.keys.trans (by rw [A1.out, N1.out]; simp)
  have H3 := Lib.hid (OfPane.mine_take 1 0 2 0 hM HK1.out (r := true) (by rw [a2]; decide))
  have A2 := Lib.hid a2
  have B2 := Lib.hid b2
  have N2 := Lib.hid m2
  clear hM hK H2 a2 b2 m2 A1 B1 N1
  go_wp2_with fail
  refine H3.out.mono ?_
  rintro e w4 ⟨rfl, T3, n3, hM, hK⟩
  clear p0 p1 p2
  have a3 : T3 (OfPane.key 1 0 2) = 1099511627776 := hK.same.trans (by rw [A2.out]; decide)
  have b3 : T3 (OfPane.key 1 1 2) = 0 := (hK.other _ key_ne).trans B2.out
  have m3 : n3 = 1 := hK.keys.trans (by rw [A2.out, N2.out]; simp)
  have H4 := Lib.hid (OfPane.mine_take 1 1 2 1 hM HK2.out (r := true) (by rw [b3]; decide))
  have A3 := Lib.hid a3
  have B3 := Lib.hid b3
  have N3 := Lib.hid m3
  clear hM hK H3 a3 b3 m3 A2 B2 N2
  go_wp2_with fail
  refine H4.out.mono ?_
  rintro e w5 ⟨rfl, T4, n4, hM, hK⟩
  have m4 : n4 = 2 := hK.keys.trans (by rw [B3.out, N3.out]; simp [okB])
  subst m4
  have HM := Lib.hid hM
  have A4 := Lib.hid ((hK.other _ key_ne.symm).trans A3.out)
  clear hM hK H4 A3 B3 N3
  go_wp2_with fail
  refine (OfInt.new_none 1099511627777 _ (by omega)).mono ?_
  rintro e w6 ⟨rfl, rfl⟩
  go_wp2_with fail
  refine (OfInt.new_none (-1) _ (by omega)).mono ?_
  rintro e w6 ⟨rfl, rfl⟩
  go_wp2_with fail
  refine (OfInt.new_some 0 _ (by omega)).mono ?_
  rintro e w6 ⟨z, mz, rfl, _, _, hZ, hB⟩
  have HZ := Lib.hid hZ
  have HM6 := Lib.hid (HM.out.below hB)
  clear hZ hB HM
  go_wp2_with fail
  refine (awake_any _).mono ?_
  rintro e w7 ⟨rfl, hB⟩
  have HZ7 := Lib.hid (HZ.out.below hB)
  have HM7 := Lib.hid (HM6.out.below hB)
  clear hB HZ HM6
  go_wp2_with fail
  refine (OfPane.mine_keys HM7.out).mono ?_
  rintro e w8 ⟨rfl, rfl⟩
  go_wp2_with fail
  refine (zero_take z mz 0 _ HZ7.out (by omega)).mono ?_
  rintro e w8 ⟨rfl, j, rfl⟩
  go_wp2_with fail
  refine (zero_take z mz 1 _ (HZ7.out.drewN j) (by omega)).mono ?_
  rintro e w8 ⟨rfl, i, rfl⟩
  have HM9 := Lib.hid (HM7.out.below (below_drew (Below.refl _ _) (j + i)))
  obtain ⟨p0, p1, p2⟩ := pane_cells HM7.out.beside
  clear HM7
  go_wp2_with fail
  refine (OfPane.mine_take 1 0 2 (-1) HM9.out HK1.out (r := false) (by rw [A4.out]; decide)).mono ?_
  rintro e w9 ⟨rfl, T5, n5, hM, _⟩
  have HO := Lib.hid hM.old
  clear hM
  go_wp2_with fail
  go_ret
  exact ⟨rfl, HO.out⟩

end Go.Proofs.Ythjechngpjkgnaa
