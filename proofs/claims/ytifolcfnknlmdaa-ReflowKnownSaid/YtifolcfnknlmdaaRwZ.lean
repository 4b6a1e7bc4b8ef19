/- Layer 11: make of a row. -/
import Derived.Test.YtifolcfnknlmdaaRwY
import Derived.Test.YtifolcfnknlmdaaRwC
import Derived.Laws.MakeOwn
set_option linter.unusedVariables false
namespace Go.Proofs.Ytifolcfnknlmdaa.Rw
open Go.RowKit

theorem nil_row (W : World) : (binOp .eql 28 (.slice none 0 0) (.slice none 0 0)).run Try.prog W = .ok (.bool true) W := by kernel_rfl
theorem not_nilR (p : Addr) (n c : Nat) (W : World) : (binOp .eql 28 (.slice (some p) n c) (.slice none 0 0)).run Try.prog W = .ok (.bool false) W := by kernel_rfl
theorem made_zero (n : Nat) : (madeCells (ceV zeroCe).cells (n * 7)).toList = flatC (List.replicate n zeroCe) := by
  refine List.ext_getElem? fun j => ?_
  by_cases hj : j < n * 7
  · have hq : j / 7 < (List.replicate n zeroCe).length := by rw [List.length_replicate]; omega
    have h7 := flat_get (List.replicate n zeroCe) (j / 7) hq (j % 7) (by omega)
    have hd : j / 7 * 7 + j % 7 = j := by omega
    have hc : cellV (List.replicate n zeroCe) (j / 7) = zeroCe := by
      rw [List.length_replicate] at hq
      simp [cellV, hq]
    rw [hd, hc] at h7
    rw [h7]
    have : j % 7 = 0 ∨ j % 7 = 1 ∨ j % 7 = 2 ∨ j % 7 = 3 ∨ j % 7 = 4 ∨ j % 7 = 5 ∨ j % 7 = 6 := by omega
    have hs : (ceV zeroCe).cells.size = 7 := rfl
    simp only [madeCells, Array.toList_map, Array.toList_range, List.getElem?_map, List.getElem?_range hj, Option.map_some, hs]
    rcases this with e | e | e | e | e | e | e <;> rw [e] <;> rfl
  · rw [List.getElem?_eq_none (by simp [madeCells]; omega), List.getElem?_eq_none (by rw [flat_len, List.length_replicate]; omega)]
theorem make_rows (w : World) (kl kc : IntKind) (n : Nat) (hn : n ≤ 1000000) : ∃ w', (Instr.makeSlice 28 (.int kl (n : Int)) (.int kc (n : Int))).run Try.prog w = .ok (.slice (some ⟨w.heap.size, 0, none⟩) n n) w' ∧ OwnC w' w.heap.size (.slice (some ⟨w.heap.size, 0, none⟩) n n) (List.replicate n zeroCe) ∧ Below w.heap.size w w' := by
  obtain ⟨i0, hi, hz0, hz1, hz2⟩ := info_parts info_cell
  have hr := run_make w (P := Try.prog) 28 38 i0 _ Try.underlying28 hi hz0 kl kc n n (by omega) (Int.le_refl _) (by rw [hz2]; omega) (by omega)
  simp only [Int.toNat_natCast, hz1] at hr
  refine ⟨_, hr, ⟨by rw [flat_len], Or.inr ⟨w.heap.size, n, madeCells (ceV zeroCe).cells (n * 7), by rw [List.length_replicate], Nat.le_refl _, heap_alloc_new w _, ?_, ?_, ?_, ?_⟩⟩, (Below.refl _ _).alloc (Nat.le_refl _) _⟩
  · rw [List.length_replicate]; omega
  · unfold maxLen; omega
  · rw [size_madeCells]
  · rw [made_zero]; exact List.take_of_length_le (by rw [flat_len]; omega)
end Go.Proofs.Ytifolcfnknlmdaa.Rw
