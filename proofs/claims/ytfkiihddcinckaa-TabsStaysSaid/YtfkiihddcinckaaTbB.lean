/- Layer 12: the document's cursors; the law's upper. -/
import Derived.Test.YtfkiihddcinckaaTbM
import Derived.Test.YtfkiihddcinckaaProg
import Derived.WalkKit
import Derived.WalkSmall
import Derived.WalkSpells
import Derived.LoopTactic
import Derived.IntWalk
import Derived.Below
set_option linter.unusedVariables false
namespace Go.Proofs.Ytfkiihddcinckaa.Tb
open Go.RowKit

def IntIn (n : Int) : Prop := -9223372036854775808 ≤ n ∧ n ≤ 9223372036854775807
theorem ret_num {a b : Int} (h : a = b) : Ending.returned (.int .i64 a) = .returned (.int .i64 b) := by rw [h]

theorem near_any (n low high : Int) (w : World) : Calls Try.prog 44 #[.int .i64 n, .int .i64 low, .int .i64 high] w fun e w' => e = .returned (.int .i64 (nearV n low high)) ∧ w = w' := by
  unfold nearV
  by_cases h1 : n < low
  · rw [if_pos h1]
    have g1 : decide (n < low) = true := by simpa using h1
    go_enter Try.func44, Try.ntmps44
    go_wp2
    go_ret
    exact ⟨rfl, rfl⟩
  · rw [if_neg h1]
    have g1 : decide (n < low) = false := by simpa using h1
    by_cases h2 : n > high
    · rw [if_pos h2]
      have g2 : decide (n > high) = true := by simpa using h2
      go_enter Try.func44, Try.ntmps44
      go_wp2
      go_ret
      exact ⟨rfl, rfl⟩
    · rw [if_neg h2]
      have g2 : decide (n > high) = false := by simpa using h2
      go_enter Try.func44, Try.ntmps44
      go_wp2
      go_ret
      exact ⟨rfl, rfl⟩
theorem rnear_any (x W : Int) (w : World) (h : 1 ≤ W ∧ W ≤ 100000) : Calls Try.prog 31 #[.int .i64 x, .int .i64 W] w fun e w' => e = .returned (.int .i64 (nearV x 0 (W - 1))) ∧ w = w' := by
  have HN := Lib.hid (near_any x 0 (W - 1) w)
  have z1 : IntKind.i64.wrap (W - 1) = W - 1 := IntWalk.i64_in _ (by omega)
  go_enter Try.func31, Try.ntmps31
  go_wp2_with fail
  refine (show Calls _ _ _ _ _ from HN.out).mono ?_
  rintro e w' ⟨rfl, rfl⟩
  go_wp2
  go_ret
  exact ⟨rfl, rfl⟩
theorem rwidth_any (x : Int) (w : World) : Calls Try.prog 37 #[.int .i64 x] w fun e w' => e = .returned (.int .i64 (widthV x : Int)) ∧ w = w' := by
  unfold widthV
  by_cases h1 : x < 1
  · rw [if_pos h1]
    have g1 : decide (x < 1) = true := by simpa using h1
    go_enter Try.func37, Try.ntmps37
    go_wp2
    go_ret
    exact ⟨rfl, rfl⟩
  · rw [if_neg h1]
    have g1 : decide (x < 1) = false := by simpa using h1
    by_cases h2 : 400 < x
    · rw [if_pos h2]
      have g2 : decide (x > 400) = true := by simpa using h2
      go_enter Try.func37, Try.ntmps37
      go_wp2
      go_ret
      exact ⟨rfl, rfl⟩
    · rw [if_neg h2]
      have g2 : decide (x > 400) = false := by simpa using h2
      have e : ((x.toNat : Nat) : Int) = x := by omega
      rw [e]
      clear e
      go_enter Try.func37, Try.ntmps37
      go_wp2
      go_ret
      exact ⟨rfl, rfl⟩

/-- j steps by d. -/
def stepV (a d : Int) (j : Nat) : Int := a + d * j
theorem move_any (a n d e : Int) (D : Nat) (w : World) (hd : d = 1 ∨ d = -1) (ha : -1000 ≤ a ∧ a ≤ 1000) (hD : D ≤ 1000) (he : e = stepV a d D) :
    Calls Try.prog 34 #[.int .i64 a, .int .i64 n, .int .i64 d, .int .i64 e] w fun e' w' => e' = .returned (.int .i64 (stepV a d (min (nearV n 1 1000).toNat D))) ∧ w = w' := by
  have HN := Lib.hid (near_any n 1 1000 w)
  have hn := near_in (n := n) (low := 1) (high := 1000) (by omega)
  obtain ⟨N, hN⟩ : ∃ N : Nat, nearV n 1 1000 = (N : Int) := ⟨(nearV n 1 1000).toNat, by omega⟩
  rw [hN] at HN hn ⊢
  rw [Int.toNat_natCast]
  have HE := Lib.hid he
  have HD := Lib.hid (And.intro ha (And.intro hD (And.intro hn hd)))
  obtain ⟨R, hR⟩ : ∃ R, R = stepV a d (min N D) := ⟨_, rfl⟩
  rw [← hR]
  have HR := Lib.hid hR
  clear hN he ha hD hn hR hd
  go_enter Try.func34, Try.ntmps34
  go_wp2_with fail
  refine (show Calls _ _ _ _ _ from HN.out).mono ?_
  rintro e' w' ⟨rfl, rfl⟩
  go_wp2
  go_loopw [9, 0] (fun i x wr => ∃ (k j : Nat) (y : Int), k ≤ N ∧ i = .int .i64 k ∧ x = .int .i64 y ∧ Hid (y = stepV a d j) ∧ Hid (j = min k D) ∧ w = wr) (fun i _ _ => N - (RowKit.intOf i).toNat)
  case atStart => exact ⟨0, 0, a, Nat.zero_le _, rfl, rfl, Lib.hid (by simp [stepV]), Lib.hid (by omega), rfl⟩
  case round =>
    obtain ⟨k, j, y, hk, rfl, rfl, HY, HJ, rfl⟩ := hrel
    by_cases hlt : k < N
    · have g1 : decide ((k : Int) < (N : Int)) = true := by simp; omega
      by_cases hjd : j = D
      · have hye : y = e := by rw [HY.out, HE.out, hjd]
        have g2 : (y != e) = false := by simp [hye]
        have HF : Hid (R = y) := Lib.hid (by rw [HR.out, HY.out]; have := HJ.out; congr 1; omega)
        clear hye hjd
        go_wp2
        go_ret
        exact ⟨ret_num HF.out.symm, rfl⟩
      · have hye : y ≠ e := by
          rw [HY.out, HE.out]
          unfold stepV
          have := HJ.out
          rcases HD.out.2.2.2 with h | h <;> rw [h] <;> omega
        have g2 : (y != e) = true := by simp [hye]
        have hb := HD.out
        have hy : y = stepV a d j := HY.out
        have hyb : -2000 ≤ y ∧ y ≤ 2000 := by
          rw [hy]
          unfold stepV
          have := HJ.out
          rcases hb.2.2.2 with h | h <;> rw [h] <;> omega
        have HD2 : Hid (y + d = stepV a d (j + 1)) := Lib.hid (by
          rw [hy]
          unfold stepV
          rcases hb.2.2.2 with h | h <;> rw [h] <;> omega)
        have HJ2 : Hid (j + 1 = min (k + 1) D) := Lib.hid (by have := HJ.out; omega)
        have z1 : IntKind.i64.wrap (y + d) = y + d := IntWalk.i64_in _ (by rcases hb.2.2.2 with h | h <;> rw [h] <;> omega)
        have z2 : IntKind.i64.wrap ((k : Int) + 1) = (k : Int) + 1 := IntWalk.i64_in _ (by omega)
        clear hye hjd hb hy hyb
        go_wp2
        go_roundw
        case rel => exact ⟨k + 1, j + 1, y + d, by omega, by go_num, rfl, HD2, HJ2, by first | rfl | trivial⟩
        case measure => simp [RowKit.intOf]; omega
    · have hkn : k = N := by omega
      have HF : Hid (R = y) := Lib.hid (by rw [HR.out, HY.out]; have := HJ.out; congr 1; omega)
      subst hkn
      have g1 : decide ((k : Int) < (k : Int)) = false := by simp
      go_wp2
      go_ret
      exact ⟨ret_num HF.out.symm, rfl⟩
theorem move_up (a n e : Int) (w : World) (h : 0 ≤ e ∧ e ≤ a ∧ a ≤ 400) : Calls Try.prog 34 #[.int .i64 a, .int .i64 n, .int .i64 (-1), .int .i64 e] w fun e' w' => e' = .returned (.int .i64 (stepUp a n e)) ∧ w = w' := by
  have := move_any a n (-1) e (a - e).toNat w (Or.inr rfl) (by omega) (by omega) (by unfold stepV; omega)
  have e1 : stepV a (-1) (min (nearV n 1 1000).toNat (a - e).toNat) = stepUp a n e := by
    unfold stepV stepUp nearV
    split
    · omega
    · split <;> omega
  rwa [e1] at this
theorem move_down (a n e : Int) (w : World) (h : 0 ≤ a ∧ a ≤ e ∧ e ≤ 400) : Calls Try.prog 34 #[.int .i64 a, .int .i64 n, .int .i64 1, .int .i64 e] w fun e' w' => e' = .returned (.int .i64 (stepDown a n e)) ∧ w = w' := by
  have := move_any a n 1 e (e - a).toNat w (Or.inl rfl) (by omega) (by omega) (by unfold stepV; omega)
  have e1 : stepV a 1 (min (nearV n 1 1000).toNat (e - a).toNat) = stepDown a n e := by
    unfold stepV stepDown nearV
    split
    · omega
    · split <;> omega
  rwa [e1] at this
theorem rup_any (H T y n : Int) (w : World) (h : 1 ≤ H ∧ H ≤ 400 ∧ 0 ≤ T) : Calls Try.prog 32 #[.int .i64 H, .int .i64 T, .int .i64 y, .int .i64 n] w fun e w' => e = .returned (.int .i64 (upV H T y n)) ∧ w = w' := by
  have HN := Lib.hid (near_any y 0 (H - 1) w)
  have z1 : IntKind.i64.wrap (H - 1) = H - 1 := IntWalk.i64_in _ (by omega)
  have hy := near_in (n := y) (low := 0) (high := H - 1) (by omega)
  obtain ⟨v, hv⟩ : ∃ v, v = upV H T y n := ⟨_, rfl⟩
  rw [← hv]
  unfold upV at hv
  generalize nearV y 0 (H - 1) = Y at *
  by_cases hT : Y ≥ T
  · have g1 : decide (Y ≥ T) = true := by simpa using hT
    rw [if_pos hT] at hv
    have HM : Hid (Calls Try.prog 34 #[.int .i64 Y, .int .i64 n, .int .i64 (-1), .int .i64 T] w fun e' w' => e' = .returned (.int .i64 v) ∧ w = w') := Lib.hid (by rw [hv]; exact move_up Y n T w (by omega))
    clear hv hy h hT
    go_enter Try.func32, Try.ntmps32
    go_wp2_with fail
    refine (show Calls _ _ _ _ _ from HN.out).mono ?_
    rintro e w' ⟨rfl, rfl⟩
    go_wp2_with fail
    refine (show Calls _ _ _ _ _ from HM.out).mono ?_
    rintro e w' ⟨rfl, rfl⟩
    go_wp2
    go_ret
    exact ⟨rfl, rfl⟩
  · have g1 : decide (Y ≥ T) = false := by simpa using hT
    rw [if_neg hT] at hv
    have HM : Hid (Calls Try.prog 34 #[.int .i64 Y, .int .i64 n, .int .i64 (-1), .int .i64 0] w fun e' w' => e' = .returned (.int .i64 v) ∧ w = w') := Lib.hid (by rw [hv]; exact move_up Y n 0 w (by omega))
    clear hv hy h hT
    go_enter Try.func32, Try.ntmps32
    go_wp2_with fail
    refine (show Calls _ _ _ _ _ from HN.out).mono ?_
    rintro e w' ⟨rfl, rfl⟩
    go_wp2_with fail
    refine (show Calls _ _ _ _ _ from HM.out).mono ?_
    rintro e w' ⟨rfl, rfl⟩
    go_wp2
    go_ret
    exact ⟨rfl, rfl⟩
theorem rdown_any (H B y n : Int) (w : World) (h : 1 ≤ H ∧ H ≤ 400 ∧ B ≤ H - 1) : Calls Try.prog 33 #[.int .i64 H, .int .i64 B, .int .i64 y, .int .i64 n] w fun e w' => e = .returned (.int .i64 (downV H B y n)) ∧ w = w' := by
  have HN := Lib.hid (near_any y 0 (H - 1) w)
  have z1 : IntKind.i64.wrap (H - 1) = H - 1 := IntWalk.i64_in _ (by omega)
  have hy := near_in (n := y) (low := 0) (high := H - 1) (by omega)
  obtain ⟨v, hv⟩ : ∃ v, v = downV H B y n := ⟨_, rfl⟩
  rw [← hv]
  unfold downV at hv
  generalize nearV y 0 (H - 1) = Y at *
  by_cases hT : Y ≤ B
  · have g1 : decide (Y ≤ B) = true := by simpa using hT
    rw [if_pos hT] at hv
    have HM : Hid (Calls Try.prog 34 #[.int .i64 Y, .int .i64 n, .int .i64 1, .int .i64 B] w fun e' w' => e' = .returned (.int .i64 v) ∧ w = w') := Lib.hid (by rw [hv]; exact move_down Y n B w (by omega))
    clear hv hy h hT
    go_enter Try.func33, Try.ntmps33
    go_wp2_with fail
    refine (show Calls _ _ _ _ _ from HN.out).mono ?_
    rintro e w' ⟨rfl, rfl⟩
    go_wp2_with fail
    refine (show Calls _ _ _ _ _ from HM.out).mono ?_
    rintro e w' ⟨rfl, rfl⟩
    go_wp2
    go_ret
    exact ⟨rfl, rfl⟩
  · have g1 : decide (Y ≤ B) = false := by simpa using hT
    rw [if_neg hT] at hv
    have HM : Hid (Calls Try.prog 34 #[.int .i64 Y, .int .i64 n, .int .i64 1, .int .i64 (H - 1)] w fun e' w' => e' = .returned (.int .i64 v) ∧ w = w') := Lib.hid (by rw [hv]; exact move_down Y n (H - 1) w (by omega))
    clear hv hy h hT
    go_enter Try.func33, Try.ntmps33
    go_wp2_with fail
    refine (show Calls _ _ _ _ _ from HN.out).mono ?_
    rintro e w' ⟨rfl, rfl⟩
    go_wp2_with fail
    refine (show Calls _ _ _ _ _ from HM.out).mono ?_
    rintro e w' ⟨rfl, rfl⟩
    go_wp2
    go_ret
    exact ⟨rfl, rfl⟩
end Go.Proofs.Ytfkiihddcinckaa.Tb
