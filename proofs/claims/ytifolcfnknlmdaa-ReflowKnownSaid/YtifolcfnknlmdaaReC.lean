/- Layer 15: the document's Count, plain. -/
import Derived.Test.YtifolcfnknlmdaaReA
set_option linter.unusedVariables false
namespace Go.Proofs.Ytifolcfnknlmdaa.Re
open Go.RowKit Go.Proofs.Ytifolcfnknlmdaa.Rw

def lnV (u : Value) (l : LnC) : Value := .agg #[u, .bool l.joined, .bool l.short]
theorem cnt_len (l : LnC) : (cnt l).length = if l.joined && l.short then l.cells.length - 1 else l.cells.length := by
  unfold cnt
  split
  · rw [List.length_dropLast]
  · rfl
set_option maxRecDepth 100000 in
set_option maxHeartbeats 1000000 in
theorem count_any {A : Option Addr} {n c : Nat} (j s : Bool) (w : World) (hn : n ≤ 10000000) : Calls Try.prog 31 #[.agg #[.slice A n c, .bool j, .bool s]] w fun e w' => e = .returned (.int .i64 ((if j && s then n - 1 else n : Nat) : Int)) ∧ Below w.heap.size w w' := by
  have hr : ∀ j s : Bool, ((if j && s then n - 1 else n : Nat) : Int) = if j && s then ((n - 1 : Nat) : Int) else (n : Int) := fun j s => by split <;> rfl
  obtain ⟨q, hq⟩ : ∃ q, q = n - 1 := ⟨_, rfl⟩
  rw [hr, ← hq]
  by_cases h0 : n = 0
  · have g0 : decide ((n : Int) > 0) = false := by simp; omega
    have g0' : decide (0 < n) = false := by simp; omega
    obtain rfl : q = n := by omega
    have HB : Hid (Below w.heap.size w (w.alloc (.cells #[.slice A q c, .bool j, .bool s] 71))) := Lib.hid ((Below.refl _ _).alloc (Nat.le_refl _) _)
    clear hq h0 hr
    cases j <;> cases s
    all_goals
      go_enter Try.func31, Try.ntmps31
      go_wp2
      go_ret
      exact ⟨rfl, HB.out⟩
  · have g0 : decide ((n : Int) > 0) = true := by simp; omega
    have g0' : decide (0 < n) = true := by simp; omega
    have z1 : IntKind.i64.wrap ((n : Int) - 1) = (q : Int) := by rw [IntWalk.i64_in _ (by omega)]; omega
    have HB : Hid (Below w.heap.size w (w.alloc (.cells #[.slice A n c, .bool j, .bool s] 71))) := Lib.hid ((Below.refl _ _).alloc (Nat.le_refl _) _)
    clear hq h0 hr
    cases j <;> cases s
    all_goals
      go_enter Try.func31, Try.ntmps31
      go_wp2
      go_ret
      exact ⟨rfl, HB.out⟩
end Go.Proofs.Ytifolcfnknlmdaa.Re
