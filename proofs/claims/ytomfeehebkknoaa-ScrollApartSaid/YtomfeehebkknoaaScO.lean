/- Layer 13: lines that hold no such cell (plain; for ScrollApart). -/
import Derived.Test.YtomfeehebkknoaaScM
set_option linter.unusedVariables false
namespace Go.Proofs.Ytomfeehebkknoaa.Rw

/-- No cell of it is 99 wide. -/
def calmR (l : List Ce) : Prop := ∀ i, (cellV l i).w ≠ 99
def calmL (ls : Ls) : Prop := ∀ k, calmR (lineV ls k)
theorem calm_nil : calmR [] := fun i => by unfold cellV; simp [zeroCe]
theorem line_no {ls : Ls} {k : Nat} (h : ¬ k < ls.length) : lineV ls k = [] := by
  unfold lineV
  rw [List.getD_eq_getElem?_getD, List.getElem?_eq_none (by omega)]
  rfl
theorem calm_lines {ls : Ls} (h : ∀ k, k < ls.length → calmR (lineV ls k)) : calmL ls := fun k => by
  by_cases hk : k < ls.length
  · exact h k hk
  · rw [line_no hk]; exact calm_nil
theorem calm_cells {l : List Ce} (h : ∀ i, i < l.length → (cellV l i).w ≠ 99) : calmR l := fun i => by
  by_cases hi : i < l.length
  · exact h i hi
  · unfold cellV
    rw [List.getD_eq_getElem?_getD, List.getElem?_eq_none (by omega)]
    decide
theorem calm_fresh (w : Int) (a : Aa) : calmR (freshC w a) := by
  unfold freshC
  split
  · refine calm_cells fun i hi => ?_
    unfold cellV blanks at *
    rw [List.getD_eq_getElem?_getD, List.getElem?_replicate]
    split
    · have e : (blankC a).w = 0 := rfl
      show (blankC a).w ≠ 99
      rw [e]
      decide
    · decide
  · exact calm_nil
section
variable {ls : Ls} {f : List Ce}
theorem calm_upN (h : calmL ls) (hf : calmR f) (t b n : Nat) : calmL (upN ls t b n f) := calm_lines fun k hk => by
  rw [upN_len] at hk
  rw [upN_at _ _ _ _ _ _ hk]
  split
  · exact h k
  · split
    · exact h _
    · exact hf
theorem calm_downN (h : calmL ls) (hf : calmR f) (t b n : Nat) : calmL (downN ls t b n f) := calm_lines fun k hk => by
  rw [downN_len] at hk
  rw [downN_at _ _ _ _ _ _ hk]
  split
  · exact h k
  · split
    · exact h _
    · exact hf
theorem calm_cutL (h : calmL ls) (x n : Nat) : calmL (cutL ls x n) := calm_lines fun k hk => by
  rw [cutL_len] at hk
  rw [cutL_at _ _ _ _ hk]
  exact h _
theorem calm_none : calmL [] := calm_lines fun k hk => absurd hk (by simp)
theorem calm_upO (h : calmL ls) (hf : calmR f) (t b n : Int) : calmL (upO ls t b n f) := by unfold upO; split; (· exact calm_upN h hf _ _ _); exact h
theorem calm_downO (h : calmL ls) (hf : calmR f) (t b n : Int) : calmL (downO ls t b n f) := by unfold downO; split; (· exact calm_downN h hf _ _ _); exact h
theorem calm_upG (h : calmL ls) (t b n : Int) : calmL (upG ls t b n) := by unfold upG; split; (· exact calm_cutL h _ _); exact calm_none
theorem calm_downG (h : calmL ls) (t b n : Int) : calmL (downG ls t b n) := by unfold downG; split; (· exact calm_cutL h _ _); exact calm_none
theorem calm_insO (h : calmL ls) (hf : calmR f) (y t b n : Int) : calmL (insO ls y t b n f) := by unfold insO; split; (· exact calm_downO h hf _ _ _); exact h
theorem calm_delO (h : calmL ls) (hf : calmR f) (y t b n : Int) : calmL (delO ls y t b n f) := by unfold delO; split; (· exact calm_upO h hf _ _ _); exact h
end
/-- Lengths of what is answered. -/
theorem insO_len (ls : Ls) (y t b n : Int) (f : List Ce) : (insO ls y t b n f).length = ls.length := by unfold insO; split; (· exact downO_len _ _ _ _ _); rfl
theorem delO_len (ls : Ls) (y t b n : Int) (f : List Ce) : (delO ls y t b n f).length = ls.length := by unfold delO; split; (· exact upO_len _ _ _ _ _); rfl
end Go.Proofs.Ytomfeehebkknoaa.Rw
