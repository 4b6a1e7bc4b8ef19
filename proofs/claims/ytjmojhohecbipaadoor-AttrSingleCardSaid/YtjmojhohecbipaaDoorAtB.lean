/- Layer 10: the document's bit and short. -/
import Derived.Test.YtjmojhohecbipaaDoorAtA
set_option linter.unusedVariables false
namespace Go.Proofs.YtjmojhohecbipaaDoor.A10
open Go.RowKit Sgr

theorem pow_le {k n : Nat} (h : k < n) (h5 : n ≤ 5) : 2 ^ (k - 1) ≤ 8 := by
  have : k - 1 ≤ 3 := by omega
  exact Nat.le_trans (Nat.pow_le_pow_right (by decide) this) (by decide)
theorem bit_low (n : Nat) (h1 : 1 ≤ n) (h5 : n ≤ 5) (w : World) : Calls Tryd.prog 25 #[.int .i64 n] w fun e w' => e = .returned (.int .u16 (2 ^ (n - 1) : Nat)) ∧ w = w' := by
  have d : ((n : Int) == 1) = true ∨ ((n : Int) == 1) = false ∧ (((n : Int) == 2) = true ∨ ((n : Int) == 2) = false ∧ (((n : Int) == 3) = true ∨ ((n : Int) == 3) = false ∧ (((n : Int) == 4) = true ∨ ((n : Int) == 4) = false ∧ ((n : Int) == 5) = true))) := by
    simp; omega
  rcases d with d1 | ⟨d1, d2 | ⟨d2, d3 | ⟨d3, d4 | ⟨d4, d5⟩⟩⟩⟩
  all_goals
    go_enter Tryd.func25, Tryd.ntmps25
    go_wp2
    go_loopw [3, 4] (fun v i wr => ∃ k : Nat, 1 ≤ k ∧ k ≤ n ∧ i = .int .i64 k ∧ v = .int .u16 (2 ^ (k - 1) : Nat) ∧ wr = w) (fun _ i _ => n - (RowKit.intOf i).toNat)
    case atStart => exact ⟨1, by omega, h1, rfl, rfl, rfl⟩
    case round =>
      obtain ⟨k, hk1, hk, rfl, rfl, rfl⟩ := hrel
      by_cases hlt : k < n
      · obtain ⟨x, hx⟩ : ∃ x, x = 2 ^ (k - 1) := ⟨_, rfl⟩
        have hx8 := pow_le hlt h5
        have hy : 2 ^ (k + 1 - 1) = 2 * x := by rw [hx, show k + 1 - 1 = k - 1 + 1 by omega, Nat.pow_succ]; omega
        rw [← hx] at hx8 ⊢
        have HY := Lib.hid hy
        clear hy hx
        go_wp2
        go_roundw
        case rel => exact ⟨k + 1, by omega, by omega, by go_num, by rw [HY.out]; go_num, (by first | trivial | rfl)⟩
        case measure => simp [RowKit.intOf]; omega
      · have e : k = n := by omega
        subst e
        go_wp2
        go_ret
        exact ⟨rfl, rfl⟩
theorem bit_any (n : Int) (w : World) : Calls Tryd.prog 25 #[.int .i64 n] w fun e w' => e = .returned (.int .u16 (bitV n)) ∧ w = w' := by
  by_cases h : 1 ≤ n ∧ n ≤ 5
  · obtain ⟨m, rfl⟩ : ∃ m : Nat, n = m := ⟨n.toNat, by omega⟩
    have e : bitV (m : Int) = 2 ^ (m - 1) := by
      have : m = 1 ∨ m = 2 ∨ m = 3 ∨ m = 4 ∨ m = 5 := by omega
      rcases this with rfl | rfl | rfl | rfl | rfl <;> rfl
    rw [e]
    exact bit_low m (by omega) (by omega) w
  · have d1 : (n == 1) = false := by simp; omega
    have d2 : (n == 2) = false := by simp; omega
    have d3 : (n == 3) = false := by simp; omega
    have d4 : (n == 4) = false := by simp; omega
    have d5 : (n == 5) = false := by simp; omega
    have d : (n == 7) = true ∧ bitV n = 32 ∨ (n == 7) = false ∧ ((n == 8) = true ∧ bitV n = 64 ∨ (n == 8) = false ∧ ((n == 9) = true ∧ bitV n = 128 ∨ (n == 9) = false ∧ bitV n = 0)) := by
      unfold bitV
      by_cases h7 : n = 7
      · subst h7; exact Or.inl ⟨rfl, rfl⟩
      by_cases h8 : n = 8
      · subst h8; exact Or.inr ⟨rfl, Or.inl ⟨rfl, rfl⟩⟩
      by_cases h9 : n = 9
      · subst h9; exact Or.inr ⟨rfl, Or.inr ⟨rfl, Or.inl ⟨rfl, rfl⟩⟩⟩
      · refine Or.inr ⟨by simpa using h7, Or.inr ⟨by simpa using h8, Or.inr ⟨by simpa using h9, ?_⟩⟩⟩
        rw [if_neg (by omega), if_neg (by omega), if_neg (by omega), if_neg (by omega), if_neg (by omega), if_neg h7, if_neg h8, if_neg h9]
    clear h
    rcases d with ⟨d7, e⟩ | ⟨d7, ⟨d8, e⟩ | ⟨d8, ⟨d9, e⟩ | ⟨d9, e⟩⟩⟩
    all_goals
      rw [e]
      clear e
      go_enter Tryd.func25, Tryd.ntmps25
      go_wp2
      go_ret
      exact ⟨rfl, rfl⟩

/-! ### short -/
theorem short_any (n : Int) (h1 : -9223372036854775808 ≤ n) (h2 : n ≤ 9223372036854775807) (w : World) : Calls Tryd.prog 26 #[.int .i64 n] w fun e w' => e = .returned (.tuple #[coA (shortV n).1, .bool (shortV n).2]) ∧ Below w.heap.size w w' := by
  have HA : Hid (∀ o, Below w.heap.size w (w.alloc o)) := Lib.hid fun o => (Below.refl _ _).alloc (Nat.le_refl _) _
  by_cases h : 30 ≤ n ∧ n ≤ 37
  · have e : shortV n = (tabV (n - 30), true) := by unfold shortV; rw [if_pos h]
    rw [e]
    obtain ⟨m, rfl⟩ : ∃ m : Nat, n = m := ⟨n.toNat, by omega⟩
    have g1 : decide ((m : Int) ≥ 30) = true := by simp; omega
    have g2 : decide ((m : Int) ≤ 37) = true := by simp; omega
    have e2 : tabV ((m : Int) - 30) = ⟨1, m - 30⟩ := by unfold tabV; congr 1; omega
    have HC : Hid (((m - 30 : Nat) : Int) = (m : Int) - 30) := Lib.hid (by omega)
    rw [e2]
    clear e e2
    go_enter Tryd.func26, Tryd.ntmps26
    go_wp2
    refine bodyPost_ret (v := .tuple #[.agg #[.int .u8 1, .int .u32 ((m : Int) - 30)], .bool true]) (by simp [results, Tryd.results26, go_sem]) rfl ?_
    exact ⟨by unfold coA; rw [HC.out]; rfl, HA.out _⟩
  by_cases h' : 90 ≤ n ∧ n ≤ 97
  · have e : shortV n = (tabV (n - 82), true) := by unfold shortV; rw [if_neg h, if_pos h']
    rw [e]
    obtain ⟨m, rfl⟩ : ∃ m : Nat, n = m := ⟨n.toNat, by omega⟩
    have g1 : decide ((m : Int) ≥ 30) = true := by simp; omega
    have g2 : decide ((m : Int) ≤ 37) = false := by simp; omega
    have g3 : decide ((m : Int) ≥ 90) = true := by simp; omega
    have g4 : decide ((m : Int) ≤ 97) = true := by simp; omega
    have e2 : tabV ((m : Int) - 82) = ⟨1, m - 82⟩ := by unfold tabV; congr 1; omega
    have HC : Hid (((m - 82 : Nat) : Int) = (m : Int) - 82) := Lib.hid (by omega)
    rw [e2]
    clear e e2 h
    go_enter Tryd.func26, Tryd.ntmps26
    go_wp2
    refine bodyPost_ret (v := .tuple #[.agg #[.int .u8 1, .int .u32 ((m : Int) - 82)], .bool true]) (by simp [results, Tryd.results26, go_sem]) rfl ?_
    exact ⟨by unfold coA; rw [HC.out]; rfl, HA.out _⟩
  · have e : shortV n = (zeroC, n == 39) := by unfold shortV; rw [if_neg h, if_neg h']; rfl
    rw [e]
    have g : decide (n ≥ 30) = true ∧ decide (n ≤ 37) = false ∧ (decide (n ≥ 90) = true ∧ decide (n ≤ 97) = false ∨ decide (n ≥ 90) = false) ∨ decide (n ≥ 30) = false ∧ decide (n ≥ 90) = false := by
      simp; omega
    clear e h h'
    rcases g with ⟨g1, g2, ⟨g3, g4⟩ | g3⟩ | ⟨g1, g3⟩
    all_goals
      go_enter Tryd.func26, Tryd.ntmps26
      go_wp2
      refine bodyPost_ret (v := .tuple #[.agg #[.int .u8 0, .int .u32 0], .bool (n == 39)]) (by simp [results, Tryd.results26, go_sem]) rfl ?_
      exact ⟨rfl, HA.out _⟩
end Go.Proofs.YtjmojhohecbipaaDoor.A10
