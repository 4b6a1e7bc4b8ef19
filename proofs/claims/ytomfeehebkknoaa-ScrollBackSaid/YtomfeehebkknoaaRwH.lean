/- Layer 11: the document's Resize. -/
import Derived.Test.YtomfeehebkknoaaRwG
set_option linter.unusedVariables false
namespace Go.Proofs.Ytomfeehebkknoaa.Rw
open Go.RowKit

theorem flat_take (l : List Ce) (k : Nat) : flatC (l.take k) = (flatC l).take (k * 7) := by
  induction l generalizing k with
  | nil => simp [flatC]
  | cons a l ih =>
    cases k with
    | zero => simp [flatC]
    | succ k =>
      have e1 : flatC ((a :: l).take (k + 1)) = cellsC a ++ flatC (l.take k) := rfl
      have e2 : flatC (a :: l) = cellsC a ++ flatC l := rfl
      have e3 : (cellsC a).take ((k + 1) * 7) = cellsC a := List.take_of_length_le (by rw [cells_len]; omega)
      rw [e1, e2, ih, List.take_append, cells_len, e3, show (k + 1) * 7 - 7 = k * 7 by omega]
theorem own_take {w : World} {base g n c : Nat} {l : List Ce} (h : OwnC w base (.slice (some ⟨g, 0, none⟩) n c) l) {k : Nat} (hk : k ≤ n) : OwnC w base (.slice (some ⟨g, 0, none⟩) k c) (l.take k) := by
  have hn := (own_lies h).row.1
  rcases own_shape h with ⟨e, _⟩ | ⟨g', c', cur, e, hb, hl, hh, hc, hm, hsz, hx⟩
  · cases e
  · cases e
    have hlk : (l.take k).length = k := by rw [List.length_take]; omega
    refine ⟨by rw [flat_len], Or.inr ⟨g, c, cur, by rw [hlk], hb, hh, by omega, hm, hsz, ?_⟩⟩
    rw [hlk, flat_take, ← hx, List.take_take]
    congr 1
    omega

end Go.Proofs.Ytomfeehebkknoaa.Rw
