/- Layer 10: the program's simple, told. -/
import Derived.Test.YtkenaccnmmmooaaDoorAtN
set_option linter.unusedVariables false
namespace Go.Proofs.YtkenaccnmmmooaaDoor.A10
open Go.RowKit Sgr

/-- The color behind a number that says all by itself. -/
def simV (c : Co) (n : Int) : Co := if (shortV n).2 = true then (shortV n).1 else c
theorem simple_any (c : Co) (n : Int) (h1 : -9223372036854775808 ≤ n) (h2 : n ≤ 9223372036854775807) (w : World) : Calls Tryd.prog 19 #[coA c, .int .i64 n] w fun e w' => e = .returned (coA (simV c n)) ∧ Below w.heap.size w w' := by
  have HA : Hid (∀ o, Below w.heap.size w (w.alloc o)) := Lib.hid fun o => (Below.refl _ _).alloc (Nat.le_refl _) _
  have HB : Hid (∀ o o', Below w.heap.size w ((w.alloc o).alloc o')) := Lib.hid fun o o' => ((Below.refl _ _).alloc (Nat.le_refl _) _).alloc (by simp) _
  by_cases h : 30 ≤ n ∧ n ≤ 37
  · have e : simV c n = tabV (n - 30) := by unfold simV shortV; rw [if_pos h]; rfl
    rw [e]
    obtain ⟨m, rfl⟩ : ∃ m : Nat, n = m := ⟨n.toNat, by omega⟩
    have g1 : decide ((30 : Int) ≤ (m : Int)) = true := by simp; omega
    have g2 : decide ((m : Int) ≤ 37) = true := by simp; omega
    have e2 : tabV ((m : Int) - 30) = ⟨1, m - 30⟩ := by unfold tabV; congr 1; omega
    have HC : Hid (((m - 30 : Nat) : Int) = (m : Int) - 30) := Lib.hid (by omega)
    rw [e2]
    clear e e2
    go_enter Tryd.func19, Tryd.ntmps19
    go_wp2
    refine bodyPost_ret (v := .agg #[.int .u8 1, .int .u32 ((m : Int) - 30)]) (by simp [results, Tryd.results19, go_sem]) rfl ?_
    exact ⟨by unfold coA; rw [HC.out]; rfl, by first | exact Below.refl _ _ | exact HA.out _ | exact HB.out _ _⟩
  by_cases h' : 90 ≤ n ∧ n ≤ 97
  · have e : simV c n = tabV (n - 82) := by unfold simV shortV; rw [if_neg h, if_pos h']; rfl
    rw [e]
    obtain ⟨m, rfl⟩ : ∃ m : Nat, n = m := ⟨n.toNat, by omega⟩
    have g1 : decide ((30 : Int) ≤ (m : Int)) = true := by simp; omega
    have g2 : decide ((m : Int) ≤ 37) = false := by simp; omega
    have g3 : decide ((90 : Int) ≤ (m : Int)) = true := by simp; omega
    have g4 : decide ((m : Int) ≤ 97) = true := by simp; omega
    have e2 : tabV ((m : Int) - 82) = ⟨1, m - 82⟩ := by unfold tabV; congr 1; omega
    have HC : Hid (((m - 82 : Nat) : Int) = (m : Int) - 82) := Lib.hid (by omega)
    rw [e2]
    clear e e2 h
    go_enter Tryd.func19, Tryd.ntmps19
    go_wp2
    refine bodyPost_ret (v := .agg #[.int .u8 1, .int .u32 ((m : Int) - 82)]) (by simp [results, Tryd.results19, go_sem]) rfl ?_
    exact ⟨by unfold coA; rw [HC.out]; rfl, by first | exact Below.refl _ _ | exact HA.out _ | exact HB.out _ _⟩
  · have g : decide ((30 : Int) ≤ n) = true ∧ decide (n ≤ 37) = false ∧ (decide ((90 : Int) ≤ n) = true ∧ decide (n ≤ 97) = false ∨ decide ((90 : Int) ≤ n) = false) ∨ decide ((30 : Int) ≤ n) = false ∧ decide ((90 : Int) ≤ n) = false := by
      simp; omega
    by_cases h39 : n = 39
    · subst h39
      have e : simV c 39 = zeroC := rfl
      rw [e]
      clear h h' g
      go_enter Tryd.func19, Tryd.ntmps19
      go_wp2
      refine bodyPost_ret (v := .agg #[.int .u8 0, .int .u32 0]) (by simp [results, Tryd.results19, go_sem]) rfl ?_
      exact ⟨rfl, by first | exact Below.refl _ _ | exact HA.out _ | exact HB.out _ _⟩
    have e : simV c n = c := by unfold simV shortV; rw [if_neg h, if_neg h', if_neg (by simpa using h39)]
    have g39 : (n == 39) = false := by simpa using h39
    rw [e]
    clear e h h' h39
    unfold coA
    rcases g with ⟨g1, g2, ⟨g3, g4⟩ | g3⟩ | ⟨g1, g3⟩
    all_goals
      go_enter Tryd.func19, Tryd.ntmps19
      go_wp2
      refine bodyPost_ret (v := .agg #[.int .u8 c.kind, .int .u32 c.n]) (by simp [results, Tryd.results19, go_sem]) rfl ?_
      exact ⟨rfl, by first | exact Below.refl _ _ | exact HA.out _ | exact HB.out _ _⟩
end Go.Proofs.YtkenaccnmmmooaaDoor.A10
