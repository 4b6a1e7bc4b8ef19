/- Layer 11: the document's Insert, Delete, Erase. -/
import Derived.Test.YtomfeehebkknoaaRwF
set_option linter.unusedVariables false
namespace Go.Proofs.Ytomfeehebkknoaa.Rw
open Go.RowKit

abbrev attrO (a : Aa) : Obj := .cells #[.int .u16 (a.fl : Int), .int .u8 (a.fk : Int), .int .u32 (a.fn : Int), .int .u8 (a.bk : Int), .int .u32 (a.bn : Int)] 28 (0, 0)
/-- An Attr that came in, in its own block. -/
theorem box_at (w : World) (a : Aa) : ∃ W, W = w.alloc (attrO a) ∧ Below w.heap.size w W ∧ w.heap.size + 1 = W.heap.size ∧ ∀ V, Below W.heap.size W V → V.heap[w.heap.size]? = some (attrO a) := by
  refine ⟨_, rfl, (Below.refl _ _).alloc (Nat.le_refl _) _, by simp, fun V hV => (hV.block _ (by simp)).trans (heap_alloc_new w _)⟩
theorem own_somek {w : World} {base : Nat} {v : Value} {l : List Ce} {k : Nat} (h : OwnC w base v l) (hk : k = l.length) (hl : 0 < k) : ∃ g c, v = .slice (some ⟨g, 0, none⟩) k c ∧ base ≤ g ∧ g < w.heap.size ∧ k ≤ c ∧ c ≤ 9223372036854775807 ∧ RowR w w.heap.size (some ⟨g, 0, none⟩) l := by
  obtain ⟨g, c, rfl, h1, h2⟩ := own_some h (by omega)
  obtain ⟨_, _, ⟨h3, h4⟩, h5⟩ := (own_lies h).row
  exact ⟨g, c, by rw [hk], h1, h2, by omega, h4, h5⟩
theorem room_in {k : Nat} {x n : Int} (h : roomV k x n ≠ 0) : ∃ X : Nat, x = (X : Int) := ⟨x.toNat, by have := (room_le h).1; omega⟩

end Go.Proofs.Ytomfeehebkknoaa.Rw
