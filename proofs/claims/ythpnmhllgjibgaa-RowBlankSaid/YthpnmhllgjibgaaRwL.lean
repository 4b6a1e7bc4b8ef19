/- Layer 11: RowBlank's walk. -/
import Derived.Test.YthpnmhllgjibgaaRwK
set_option linter.unusedVariables false
namespace Go.Proofs.Ythpnmhllgjibgaa.Rw
open Go.RowKit

theorem drop_rep (n : Nat) (a : Aa) : (List.replicate n (blankC a)).dropWhile isBlank = [] := by
  cases n with
  | zero => rfl
  | succ n => rw [List.replicate_succ]; simp [isBlank, blankC]
theorem blanks_cell (n : Nat) (a : Aa) : trimV (blanks n a) = [] := by
  have h1 : keepV (blanks n a) = blanks n a := List.filter_eq_self.2 fun c hc => by
    rw [List.eq_of_mem_replicate hc]; rfl
  unfold trimV
  rw [h1]
  unfold blanks
  rw [List.reverse_replicate, drop_rep]; rfl
theorem blanks_text (n : Nat) (a : Aa) : textV (blanks n a) = ⟨#[]⟩ := by unfold textV; rw [blanks_cell]; rfl
theorem blanks_runes (n : Nat) (a : Aa) : runesB (blanks n a) = true := List.all_eq_true.2 fun c hc => by
  rw [List.eq_of_mem_replicate hc]; rfl

set_option maxRecDepth 100000 in
set_option maxHeartbeats 4000000 in
theorem blank_law (x : Int) (a : Aa) (w : World) : Calls Try.prog 3 #[.int .i64 x, attrV a] w fun e w' => e = .returned (.bool true) ∧ Below w.heap.size w w' := by
  obtain ⟨W, hW, hB, hs, HA⟩ := box_at w a
  have HP := Lib.hid (pblank_any x a W)
  have HWk : Hid (∀ V, Calls Try.prog 9 #[] V fun e w' => e = .returned (.bool true) ∧ Below V.heap.size V w') := Lib.hid fun V => wakes_any V
  have HW := Lib.hid hW
  have HB := Lib.hid hB
  have HA := Lib.hid HA
  have hat := HA.out W (Below.refl _ _)
  have a0 := cell_of hat 0
  have a1 := cell_of hat 1
  have a2 := cell_of hat 2
  have a3 := cell_of hat 3
  have a4 := cell_of hat 4
  by_cases h : x < 1 ∨ 400 < x
  · have e0 : blankV x a = [] := by unfold blankV; rw [if_pos h]
    rw [e0] at HP
    have g : decide (x < 1) = true ∨ decide (x < 1) = false ∧ decide (x > 400) = true := by
      by_cases h1 : x < 1
      · exact Or.inl (by simpa using h1)
      · exact Or.inr ⟨by simpa using h1, by simpa using h.resolve_left h1⟩
    rw [hW] at a0 a1 a2 a3 a4
    clear hW hB hs hat h e0
    rcases g with g1 | ⟨g1, g2⟩
    all_goals
      go_enter Try.func3, Try.ntmps3
      go_wp2_with fail
      rw [← HW.out]
      refine (show Calls _ _ _ _ _ from HP.out).mono ?_
      rintro e w1 ⟨v1, rfl, ho1, b1⟩
      obtain ⟨A1, c1, rfl, _⟩ := own_lies ho1
      rw [List.length_nil]
      have B1 := Lib.hid (HB.out.trans (b1.mono HB.out.size))
      clear ho1 b1 HP a0 a1 a2 a3 a4
      go_wp2_with fail
      refine (HWk.out _).mono ?_
      rintro e w2 ⟨rfl, b2⟩
      have B2 := Lib.hid (B1.out.trans (b2.mono B1.out.size))
      clear b2
      go_wp2
      go_ret
      exact ⟨rfl, B2.out⟩
  · have e0 : blankV x a = blanks x.toNat a := by unfold blankV; rw [if_neg h]
    rw [e0] at HP
    have g1 : decide (x < 1) = false := by simp; omega
    have g2 : decide (x > 400) = false := by simp; omega
    have hx : x.toNat ≤ 400 := by omega
    obtain ⟨n, hn⟩ : ∃ n, n = x.toNat := ⟨_, rfl⟩
    have HN := Lib.hid hn
    have HX : Hid (x ≤ 100000) := Lib.hid (by omega)
    rw [← hn] at hx HP
    rw [hW] at a0 a1 a2 a3 a4
    clear hW hB hs hat h e0 hn
    go_enter Try.func3, Try.ntmps3
    go_wp2_with fail
    rw [← HW.out]
    refine (show Calls _ _ _ _ _ from HP.out).mono ?_
    rintro e w1 ⟨v1, rfl, ho1, b1⟩
    have L1 : Hid (∀ V, Below w1.heap.size w1 V → Lies V v1 (blanks n a)) := Lib.hid fun V hV => (own_lies ho1).below hV
    have B1 := Lib.hid (HB.out.trans (b1.mono HB.out.size))
    have hat := HA.out w1 b1
    have c0 := cell_of hat 0
    have c1 := cell_of hat 1
    have c2 := cell_of hat 2
    have c3 := cell_of hat 3
    have c4 := cell_of hat 4
    have HBl : Hid (Calls Try.prog 11 #[.int .i64 x, attrV a] w1 (RowPost w1 (blanks n a))) := Lib.hid (by
      rw [HN.out]
      exact blanks_any x a w1 HX.out)
    clear ho1 b1 HP a0 a1 a2 a3 a4 hat
    go_wp2_with fail
    refine (show Calls _ _ _ _ _ from HBl.out).mono ?_
    rintro e y1 ⟨v2, rfl, ho2, j1⟩
    have N2 := Lib.hid (own_lies ho2)
    have J1 := Lib.hid j1
    clear ho2 j1 HBl c0 c1 c2 c3 c4
    go_wp2_with fail
    refine (same_at (W := w1) y1 J1.out (L1.out _ J1.out) N2.out (by rw [blanks_len]; omega) true (decide_eq_true rfl)).mono ?_
    rintro e y2 ⟨rfl, j2⟩
    have J2 := Lib.hid j2
    clear j2
    have HWh : Hid (Calls Try.prog 12 #[v1] y2 fun e w' => e = .returned (.bool true) ∧ Below y2.heap.size y2 w') := Lib.hid (by
      have := pwhole_any v1 (blanks n a) y2 (L1.out _ J2.out) (by rw [blanks_len]; omega)
      rwa [blanks_whole] at this)
    go_wp2_with fail
    refine (show Calls _ _ _ _ _ from HWh.out).mono ?_
    rintro e y3 ⟨rfl, j3⟩
    have J3 := Lib.hid (J2.out.trans (j3.mono J2.out.size))
    clear j3 HWh
    have HTx : Hid (Calls Try.prog 13 #[v1] y3 fun e w' => e = .returned (.string ⟨#[]⟩) ∧ Below y3.heap.size y3 w') := Lib.hid (by
      have := ptext_any v1 (blanks n a) y3 (L1.out _ J3.out) (by rw [blanks_len]; omega) (blanks_runes n a)
      rwa [blanks_text] at this)
    go_wp2_with fail
    refine (show Calls _ _ _ _ _ from HTx.out).mono ?_
    rintro e y4 ⟨rfl, j4⟩
    have J4 := Lib.hid (J3.out.trans (j4.mono J3.out.size))
    clear j4 HTx
    go_wp2_with fail
    refine (HWk.out _).mono ?_
    rintro e y5 ⟨rfl, j5⟩
    have J5 := Lib.hid (J4.out.trans (j5.mono J4.out.size))
    clear j5
    go_wp2
    go_ret
    exact ⟨rfl, B1.out.trans (J5.out.mono B1.out.size)⟩
end Go.Proofs.Ythpnmhllgjibgaa.Rw
