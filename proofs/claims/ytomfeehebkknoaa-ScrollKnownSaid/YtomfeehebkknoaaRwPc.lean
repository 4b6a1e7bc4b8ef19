/- Layer 11: the program's part, in place. -/
import Derived.Test.YtomfeehebkknoaaRwPb
set_option linter.unusedVariables false
namespace Go.Proofs.Ytomfeehebkknoaa.Rw
open Go.RowKit

theorem own_k {w : World} {base g k c : Nat} {l : List Ce} (h : OwnC w base (.slice (some ⟨g, 0, none⟩) k c) l) : k = l.length ∧ k ≤ c ∧ c ≤ 9223372036854775807 ∧ g < w.heap.size ∧ base ≤ g := by
  obtain ⟨h1, _, ⟨h2, h3⟩, _⟩ := (own_lies h).row
  exact ⟨h1, by omega, h3, own_lt h g rfl, own_ge h g rfl⟩

def PartPost (w : World) (base g k c : Nat) (l : List Ce) (e : Ending) (w' : World) : Prop := e = .returned (.tuple #[]) ∧ OwnC w' base (.slice (some ⟨g, 0, none⟩) k c) l ∧ Turns g w w'

end Go.Proofs.Ytomfeehebkknoaa.Rw
