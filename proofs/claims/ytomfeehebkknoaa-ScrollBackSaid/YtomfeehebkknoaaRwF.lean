/- Layer 11: the document's Whole. -/
import Derived.Test.YtomfeehebkknoaaRwE
set_option linter.unusedVariables false
namespace Go.Proofs.Ytomfeehebkknoaa.Rw
open Go.RowKit

theorem run_next {l : List Ce} {k : Nat} (h : k < l.length) (o : Bool) : runO o (l.drop k) = (nextO o (cellV l k)).bind fun o' => runO o' (l.drop (k + 1)) := by rw [drop_one h]; rfl
theorem next_none {o : Bool} {c : Ce} (h : c.w > 2 ∨ o ≠ (c.w == 2)) : nextO o c = none := by unfold nextO; rw [if_pos h]
theorem next_some {o : Bool} {c : Ce} (h : ¬ (c.w > 2 ∨ o ≠ (c.w == 2))) : nextO o c = some (c.w == 1) := by unfold nextO; rw [if_neg h]
theorem whole_no {l : List Ce} (h : runO false l = none) : wholeB l = false := by unfold wholeB; rw [h]; rfl
theorem whole_end {l : List Ce} {o : Bool} (h : runO false l = some o) : wholeB l = !o := by unfold wholeB; rw [h]; cases o <;> rfl

end Go.Proofs.Ytomfeehebkknoaa.Rw
