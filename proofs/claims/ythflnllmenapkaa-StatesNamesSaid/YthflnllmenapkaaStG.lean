/- Layer 6: StatesNames's walk. -/
import Derived.Test.YthflnllmenapkaaStF
namespace Go.Proofs.Ythflnllmenapkaa
open Go.RowKit Sta

theorem clear_cases (a b : Int) (h : ¬ a = b) : (b = 1 ∧ clearB a b = true) ∨ (b = 3 ∧ clearB a b = true) ∨ (b = 7 ∧ clearB a b = true) ∨ (b = 12 ∧ clearB a b = true) ∨
    ((b == 1) = false ∧ (b == 3) = false ∧ (b == 7) = false ∧ (b == 12) = false ∧ clearB a b = false) := by
  have e : (b == a) = false := by simp; omega
  unfold clearB
  rw [e]
  by_cases h1 : b = 1
  · simp [h1]
  by_cases h3 : b = 3
  · simp [h3]
  by_cases h7 : b = 7
  · simp [h7]
  by_cases h12 : b = 12
  · simp [h12]
  simp [h1, h3, h7, h12]
theorem end_cases (a b : Int) (h : ¬ a = b) : (a = 10 ∧ endB a b = true) ∨ (a = 12 ∧ endB a b = true) ∨ ((a == 10) = false ∧ (a == 12) = false ∧ endB a b = false) := by
  have e : (b == a) = false := by simp; omega
  unfold endB
  rw [e]
  by_cases h1 : a = 10
  · simp [h1]
  by_cases h3 : a = 12
  · simp [h3]
  simp [h1, h3]

set_option maxRecDepth 100000 in
set_option maxHeartbeats 3200000 in
theorem names_walk (w : World) : Calls Try.prog 4 #[] w fun e w' => e = .returned (.bool true) ∧ Below w.heap.size w w' := by
  go_enter Try.func4, Try.ntmps4
  go_wp2
  go_loopw [1] (fun i wr => ∃ a : Int, -1 ≤ a ∧ a ≤ 15 ∧ i = .int .i64 a ∧ wr = w) (fun i _ => (15 - RowKit.intOf i).toNat)
  case atStart => exact ⟨-1, by omega, by omega, rfl, rfl⟩
  case round =>
    obtain ⟨a, ha0, ha1, rfl, rfl⟩ := hrel
    by_cases hlt : a ≤ 14
    · go_wp2
      go_loopw [2] (fun j wr2 => ∃ b : Int, -1 ≤ b ∧ b ≤ 15 ∧ j = .int .i64 b ∧ wr2 = wr) (fun j _ => (15 - RowKit.intOf j).toNat)
      case atStart => exact ⟨-1, by omega, by omega, rfl, rfl⟩
      case round =>
        obtain ⟨b, hb0, hb1, rfl, rfl⟩ := hrel
        by_cases hlt2 : b ≤ 14
        · have HC := Lib.hid (clears_any a b)
          have HE := Lib.hid (ends_any a b)
          obtain ⟨b', hb'⟩ : ∃ b', b' = b := ⟨_, rfl⟩
          have HB' := Lib.hid hb'
          clear hb'
          by_cases hab : a = b
          · rw [show clearB a b = false by simp [clearB, hab]] at HC
            rw [show endB a b = false by simp [endB, hab]] at HE
            subst hab
            go_wp2_with fail
            refine (HC.out _).mono ?_
            rintro e w1 ⟨rfl, rfl⟩
            go_wp2_with fail
            refine (HE.out _).mono ?_
            rintro e w1 ⟨rfl, rfl⟩
            go_wp2
            go_roundw
            case rel => exact ⟨b' + 1, by have := HB'.out; omega, by have := HB'.out; omega, by first | (rw [HB'.out]; done) | (rw [HB'.out]; go_num), by first | rfl | trivial⟩
            case measure => simp [RowKit.intOf] <;> omega
          · have e0 : (a == b) = false := by simpa using hab
            have hc := clear_cases a b hab
            have he := end_cases a b hab
            have e1 : (a != b) = true := by simpa using hab
            rcases hc with ⟨d1, hc⟩ | ⟨d1, hc⟩ | ⟨d1, hc⟩ | ⟨d1, hc⟩ | ⟨d1, d3, d7, d12, hc⟩ <;> rcases he with ⟨f1, he⟩ | ⟨f1, he⟩ | ⟨f1, f2, he⟩
            all_goals try (exfalso; omega)
            all_goals
              rw [hc] at HC
              rw [he] at HE
              clear hc he
              try subst d1
              try subst f1
              go_wp2_with fail
              refine (HC.out _).mono ?_
              rintro e w1 ⟨rfl, rfl⟩
              go_wp2_with fail
              refine (HE.out _).mono ?_
              rintro e w1 ⟨rfl, rfl⟩
              go_wp2
              go_roundw
              case rel => exact ⟨b' + 1, by have := HB'.out; omega, by have := HB'.out; omega, by first | (rw [HB'.out]; done) | (rw [HB'.out]; go_num), by first | rfl | trivial⟩
              case measure => simp [RowKit.intOf] <;> omega
        · go_wp2
          go_roundw
          case rel => exact ⟨a + 1, by omega, by omega, by go_num, by first | rfl | trivial⟩
          case measure => simp [RowKit.intOf]; omega
    · go_wp2_with fail
      refine (awake_any _).mono ?_
      rintro e w1 ⟨rfl, hb⟩
      have B1 := Lib.hid hb
      clear hb
      go_wp2_with fail
      refine (leads_yes (by rfl) _).mono ?_
      rintro e w2 ⟨rfl, hb⟩
      have B2 := Lib.hid (B1.out.trans (hb.mono B1.out.size))
      clear hb B1
      go_wp2_with fail
      refine (leads_yes (by rfl) _).mono ?_
      rintro e w3 ⟨rfl, hb⟩
      have B3 := Lib.hid (B2.out.trans (hb.mono B2.out.size))
      clear hb B2
      go_wp2
      go_ret
      exact ⟨rfl, B3.out⟩

end Go.Proofs.Ythflnllmenapkaa
