/- Layer 15: what ReflowKeeps' walk needs (plain). -/
import Derived.Test.YtifolcfnknlmdaaReY
import Derived.Test.YtifolcfnknlmdaaReK
set_option linter.unusedVariables false
namespace Go.Proofs.Ytifolcfnknlmdaa.Re
open Go.RowKit Go.Proofs.Ytifolcfnknlmdaa.Rw

theorem line_width (w : Nat) (hw : 2 ≤ w) (l : List LnC) : ∀ a ∈ linesV blC wdC w l, a.cells.length = w := by
  intro a ha
  obtain ⟨p, -, hp⟩ := List.mem_flatMap.1 ha
  obtain ⟨k, hk⟩ := List.mem_iff_getElem?.1 hp
  exact (lay_ok blC wdC w hw p.length p (Nat.le_refl _) k a hk).1
theorem cell_get {cs : List Ce} {i : Nat} {c : Ce} (h : cs[i]? = some c) : cellV cs i = c := by
  unfold cellV
  rw [List.getD_eq_getElem?_getD, h]
  rfl
/-- What a place is on. -/
theorem keeps_plain (l : List LnC) (X P Y : Nat) (hX : 2 ≤ X) (hY : Y < l.length) : (placeV l X P Y).2 < (linesV blC wdC X l).length ∧ (placeV l X P Y).1 < X ∧ ((linesV blC wdC X l).getD (placeV l X P Y).2 noLn).cells.length = X ∧ (P < (cnt (l.getD Y noLn)).length → cellV (l.getD Y noLn).cells P ≠ blC → cellV ((linesV blC wdC X l).getD (placeV l X P Y).2 noLn).cells (placeV l X P Y).1 = cellV (l.getD Y noLn).cells P) := by
  obtain ⟨a, h1, h2, h3⟩ := place_keeps l X P Y hX hY
  have hg : (linesV blC wdC X l).getD (placeV l X P Y).2 noLn = a := by rw [List.getD_eq_getElem?_getD, h1]; rfl
  refine ⟨(List.getElem?_eq_some_iff.1 h1).1, h2, ?_, fun hp hc => ?_⟩
  · rw [hg]
    exact line_width X hX l a (List.mem_of_getElem? h1)
  · rw [hg]
    have hb : l[Y]? = some (l.getD Y noLn) := by rw [List.getD_eq_getElem?_getD, List.getElem?_eq_getElem hY]; rfl
    have hcell : (cnt (l.getD Y noLn))[P]? = some (cellV (l.getD Y noLn).cells P) := by
      rw [cnt_take] at hp ⊢
      rw [List.length_take] at hp
      have hlt : P < (l.getD Y noLn).cells.length := by omega
      rw [List.getElem?_take, if_pos (by omega), List.getElem?_eq_getElem hlt, cell_lt hlt]
    exact cell_get (h3 _ _ hb hcell hc)
theorem cnt_count (a : LnC) (P : Nat) (q : Int) (hq : q = if (a.joined && a.short) = true then (a.cells.length : Int) - 1 else (a.cells.length : Int)) (hp : (P : Int) < q) : P < (cnt a).length ∧ P < a.cells.length := by
  unfold cnt
  split at hq
  · rename_i h
    rw [if_pos h, List.length_dropLast]
    omega
  · rename_i h
    rw [if_neg h]
    omega
end Go.Proofs.Ytifolcfnknlmdaa.Re
