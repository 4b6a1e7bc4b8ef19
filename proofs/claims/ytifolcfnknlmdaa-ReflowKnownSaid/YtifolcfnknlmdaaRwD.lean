/- Layer 11: the document's Part. -/
import Derived.Test.YtifolcfnknlmdaaRwC
set_option linter.unusedVariables false
namespace Go.Proofs.Ytifolcfnknlmdaa.Rw
open Go.RowKit

theorem idx_cell (b o n c k : Nat) (hk : k < n) (W : World) : (Instr.indexAt 28 (.slice (some ⟨b, o, none⟩) n c) (.int .i64 (k : Int))).run Try.prog W = .ok (.pointer (some ⟨b, o + k * 7, none⟩)) W := by
  have hs : ∀ W : World, (sizeOf (Try.prog.elem 28)).run Try.prog W = .ok 7 W := fun W => by kernel_rfl
  rw [run_indexAt_slice (P := Try.prog) W 28 ⟨b, o, none⟩ n c .i64 k (by kernel_rfl), if_pos (by omega), hs]
  simp only [Result.andThen, Int.toNat_natCast, add_oo]
theorem idx_own (g n c k : Nat) (hk : k < n) (W : World) : (Instr.indexAt 28 (.slice (some ⟨g, 0, none⟩) n c) (.int .i64 (k : Int))).run Try.prog W = .ok (.pointer (some ⟨g, k * 7, none⟩)) W := by
  have := idx_cell g 0 n c k hk W
  rwa [Nat.zero_add] at this

/-- A row whose first cells are those of a value that came in. -/
theorem own_some {w : World} {base : Nat} {v : Value} {l : List Ce} (h : OwnC w base v l) (hl : 0 < l.length) : ∃ g c, v = .slice (some ⟨g, 0, none⟩) l.length c ∧ base ≤ g ∧ g < w.heap.size := by
  rcases own_shape h with ⟨_, rfl⟩ | ⟨g, c, cur, e, h1, h2, _⟩
  · simp at hl
  · exact ⟨g, c, e, h1, h2⟩
/-- The places of an own row can be written. -/
theorem own_slots {w : World} {base g n c : Nat} {l : List Ce} (h : OwnC w base (.slice (some ⟨g, 0, none⟩) n c) l) {k : Nat} (hk : k < l.length) : (∀ j, j < 7 → ∃ u, w.cell? ⟨g, k * 7 + j, none⟩ = some u) ∧ ∀ i, w.frozen? ⟨g, i, none⟩ = false := by
  rcases own_shape h with ⟨e, _⟩ | ⟨g', c', cur, e, _, _, hh, hc, _, hsz, _⟩
  · cases e
  · cases e
    refine ⟨fun j hj => ?_, fun i => free_of hh i⟩
    rw [cell_of hh]
    exact ⟨_, Array.getElem?_eq_getElem (by rw [hsz]; omega)⟩
theorem part_as (l : List Ce) (y : Nat) (h : cutB l (y + 1)) : partC l (y + 1) = (l.set y (blankC (cellV l y).a)).set (y + 1) (blankC (cellV l (y + 1)).a) := by unfold partC; rw [if_pos h]; rfl

end Go.Proofs.Ytifolcfnknlmdaa.Rw
