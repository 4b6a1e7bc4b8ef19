/- Layer 11: the document's rows: Blanks, join, Same, room. -/
import Derived.Test.YtomfeehebkknoaaRwA
set_option linter.unusedVariables false
namespace Go.Proofs.Ytomfeehebkknoaa.Rw
open Go.RowKit

/-- A row of the call's own is answered. -/
def RowPost (w : World) (l : List Ce) (e : Ending) (w' : World) : Prop := ∃ v, e = .returned v ∧ OwnC w' w.heap.size v l ∧ Below w.heap.size w w'
theorem nil_cat (l : List Ce) : [] ++ l = l := rfl
theorem grown_below {B : Nat} {w0 w w' : World} {v : Value} {l : List Ce} (hb : Below B w0 w) (hg : w.grownBy w' v.ownBlock) (ho : OwnC w B v l) (hB : B ≤ w.heap.size) : Below B w0 w' := hb.grown hg hB (own_ge ho)

/-- One cell, made as a slice. -/
theorem one_lies (w : World) (c : Ce) : Lies (w.alloc (.cells (cellsC c).toArray 40)) (.slice (some ⟨w.heap.size, 0, none⟩) 1 1) [c] :=
  ⟨_, 1, rfl, fun e => (by cases e), ⟨Nat.le_refl 1, by decide⟩, fun _ => ⟨w.heap.size, 0, rfl, by simp, fun i hi j u hj => by
    have h0 : i = 0 := by simpa using hi
    subst h0
    rw [cell_of (heap_alloc_new w _)]
    have hj : (cellsC c)[j]? = some u := hj
    simpa using hj⟩⟩

end Go.Proofs.Ytomfeehebkknoaa.Rw
