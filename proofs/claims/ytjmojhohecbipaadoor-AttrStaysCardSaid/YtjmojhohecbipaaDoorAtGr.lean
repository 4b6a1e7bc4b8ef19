/- Layer 10: Great. -/
import Derived.Test.YtjmojhohecbipaaDoorAtK
import Derived.Test.YtjmojhohecbipaaDoorAtV
import Derived.OpenShut
set_option linter.unusedVariables false
namespace Go.Proofs.YtjmojhohecbipaaDoor.A10
open Go.RowKit Sgr

theorem great_any (l : List (List Int)) (A : Option Addr) (n c : Nat) (w : World) (hT : TabL w A l) (hn : n = l.length) (hl : n ≤ c) (hc : c ≤ 9223372036854775807) :
    Calls Tryd.prog 12 #[.slice A n c] w fun e w' => (∃ g, e = .returned (.bool g) ∧ (g = false → n ≤ 60)) ∧ w' = w := by
  have HT := Lib.hid hT
  have HN := Lib.hid hn
  clear hT hn
  go_enter Tryd.func12, Tryd.ntmps12
  go_wp2
  go_loopw [3] (fun i wr => ∃ j : Nat, j ≤ n ∧ j ≤ 61 ∧ i = .int .i64 j ∧ wr = w) (fun i _ => 61 - (RowKit.intOf i).toNat)
  case atStart => exact ⟨0, Nat.zero_le _, by omega, rfl, rfl⟩
  case round =>
    obtain ⟨j, hj, hj61, rfl, rfl⟩ := hrel
    by_cases h1 : j < n
    · by_cases h2 : j ≤ 60
      · obtain ⟨a, B, C, rfl, hrow, _, _, hR⟩ := HT.out.row2 (k := j) (by rw [← HN.out]; exact h1)
        have hcell := hrow _ (Below.refl _ _)
        have g1 : decide ((j : Int) < (n : Int)) = true := by simp; omega
        have g2 : decide ((j : Int) ≤ 60) = true := by simp; omega
        generalize (l.getD j []).length = m at *
        clear hrow
        by_cases hm : m > 20
        · have g3 : decide ((m : Int) > 20) = true := by simp; omega
          go_wp2
          go_ret
          exact ⟨⟨true, rfl, fun h => by cases h⟩, rfl⟩
        · have g3 : decide ((m : Int) > 20) = false := by simp; omega
          go_wp2
          go_roundw
          case rel => exact ⟨j + 1, by omega, by omega, by go_num, (by first | trivial | rfl)⟩
          case measure => simp [RowKit.intOf]; omega
      · have g1 : decide ((j : Int) < (n : Int)) = true := by simp; omega
        have g2 : decide ((j : Int) ≤ 60) = false := by simp; omega
        go_wp2
        go_ret
        exact ⟨⟨decide ((n : Int) > 60), rfl, fun h => by have := of_decide_eq_false h; omega⟩, rfl⟩
    · have g1 : decide ((j : Int) < (n : Int)) = false := by simp; omega
      go_wp2
      go_ret
      exact ⟨⟨decide ((n : Int) > 60), rfl, fun h => by have := of_decide_eq_false h; omega⟩, rfl⟩

end Go.Proofs.YtjmojhohecbipaaDoor.A10
