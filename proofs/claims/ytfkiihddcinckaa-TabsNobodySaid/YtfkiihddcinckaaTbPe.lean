/- Layer 12: the program's ClearAll, Resize, New. -/
import Derived.Test.YtfkiihddcinckaaTbPd
set_option linter.unusedVariables false
namespace Go.Proofs.Ytfkiihddcinckaa.Tb
open Go.RowKit

/-! ### columns that are cleared -/
def clrN (on : List Bool) : Nat → Nat → List Bool
  | _, 0 => on
  | k, m + 1 => clrN (on.set k false) (k + 1) m
theorem clrN_len : ∀ (m k : Nat) (on : List Bool), (clrN on k m).length = on.length
  | 0, _, _ => rfl
  | m + 1, k, on => by rw [clrN, clrN_len m (k + 1), List.length_set]
theorem set_get (on : List Bool) (k j : Nat) (b : Bool) (hk : k < on.length) : (on.set k b).getD j false = if j = k then b else on.getD j false := by
  simp only [List.getD_eq_getElem?_getD, List.getElem?_set]
  by_cases e : k = j
  · subst e
    simp [hk]
  · rw [if_neg e, if_neg (fun h => e h.symm)]
theorem clrN_get : ∀ (m k : Nat) (on : List Bool) (j : Nat), k + m ≤ on.length → (clrN on k m).getD j false = if k ≤ j ∧ j < k + m then false else on.getD j false
  | 0, k, on, j, _ => by rw [clrN, if_neg (by omega)]
  | m + 1, k, on, j, h => by
    rw [clrN, clrN_get m (k + 1) (on.set k false) j (by rw [List.length_set]; omega), set_get on k j false (by omega)]
    by_cases h1 : k + 1 ≤ j ∧ j < k + 1 + m
    · rw [if_pos h1, if_pos (by omega)]
    · rw [if_neg h1]
      by_cases h2 : j = k
      · rw [if_pos h2, if_pos (by omega)]
      · rw [if_neg h2, if_neg (by omega)]
theorem bool_ext {a b : List Bool} (ha : a.length = 400) (hb : b.length = 400) (h : ∀ j, j < 400 → a.getD j false = b.getD j false) : a = b := by
  refine List.ext_getElem (by omega) fun i h1 h2 => ?_
  have := h i (by omega)
  rw [List.getD_eq_getElem?_getD, List.getD_eq_getElem?_getD, List.getElem?_eq_getElem h1, List.getElem?_eq_getElem h2] at this
  exact this
theorem st_clear (g : Nat) (n : Int) : ∀ (m k : Nat) (on : List Bool) (w : World), StAt w g n on → k + m ≤ 400 → StAt (w.setCells g (k + 1) (List.replicate m (.bool false))) g n (clrN on k m) ∧ TurnG g w (w.setCells g (k + 1) (List.replicate m (.bool false)))
  | 0, k, on, w, h, _ => ⟨h, turn_refl g w⟩
  | m + 1, k, on, w, h, hm => by
    have h1 := h.setk (k := k) (by omega) false
    have ih := st_clear g n m (k + 1) (on.set k false) _ h1 (by omega)
    exact ⟨ih.1, (turn_set w g (k + 1) (.bool false)).trans ih.2⟩
theorem zero_bool (w : World) : (zeroValue 4).run Try.prog w = .ok (.bool false) w := by kernel_rfl
theorem clear_run (g : Nat) (n : Int) (on : List Bool) (k m : Nat) (w : World) (h : StAt w g n on) (hm : 0 < m) (hk : k + m ≤ 400) (c : Nat) (ty : TypeId) : (Builtin.clear_ #[62] ty #[.slice (some ⟨g, k + 1, none⟩) m c]).run Try.prog w = .ok (.tuple #[]) (w.setCells g (k + 1) (List.replicate m (.bool false))) :=
  Lib.run_clear_slice w 62 4 ty (.bool false) Try.underlying62 zero_bool rfl rfl g (k + 1) m c hm
    (fun j hj => by rw [show k + 1 + j = (k + j) + 1 by omega, h.cellk (by omega)]; rfl) (fun j hj => h.free _)
theorem clear_none (a : Option Addr) (c : Nat) (w : World) (ty : TypeId) : (Builtin.clear_ #[62] ty #[.slice a 0 c]).run Try.prog w = .ok (.tuple #[]) w := by
  cases a <;> simp [Builtin.clear_, run_underlying Try.underlying62]
theorem size_on (W : World) : (sizeOf (Try.prog.elem 56)).run Try.prog W = .ok 1 W := by kernel_rfl
theorem len_on : Try.prog.arrayLen 56 = 400 := by kernel_rfl
theorem slice_from (g k : Nat) (hk : k < 400) (W : World) : (Instr.sliceAt 56 (.pointer (some ⟨g, 1, none⟩)) (some (.int .i64 (k : Int))) none none).run Try.prog W = .ok (.slice (some ⟨g, k + 1, none⟩) (400 - k) (400 - k)) W := by
  rw [run_sliceAt_array_l (P := Try.prog) W 56 ⟨g, 1, none⟩ (by kernel_rfl) .i64 (k : Int) (by omega) (by rw [len_on]; omega), size_on, len_on]
  simp only [Result.andThen, Int.toNat_natCast, slicedAt, Nat.mul_one]
  rw [if_neg (by omega)]
  congr 4
  unfold Addr.add
  split
  · rename_i h; subst h; rfl
  · simp [Nat.add_comm]
theorem slice_end (g : Nat) (W : World) : (Instr.sliceAt 56 (.pointer (some ⟨g, 1, none⟩)) (some (.int .i64 400)) none none).run Try.prog W = .ok (.slice (some ⟨g, 1, none⟩) 0 0) W := by
  rw [run_sliceAt_array_l (P := Try.prog) W 56 ⟨g, 1, none⟩ (by kernel_rfl) .i64 400 (by omega) (by rw [len_on]; omega), size_on, len_on]
  rfl
theorem slice_all (g : Nat) (W : World) : (Instr.sliceAt 56 (.pointer (some ⟨g, 1, none⟩)) none none none).run Try.prog W = .ok (.slice (some ⟨g, 1, none⟩) 400 400) W := by
  rw [run_sliceAt_array_all (P := Try.prog) W 56 ⟨g, 1, none⟩ (by kernel_rfl), size_on, len_on]
  rfl

/-! ### ClearAll -/
theorem wipe_run (g : Nat) (n : Int) (on : List Bool) (w : World) (h : StAt w g n on) : Calls Try.prog 16 #[.pointer (some ⟨g, 0, none⟩)] w fun e w' => e = .returned (.tuple #[]) ∧ StAt w' g n (clrN on 0 400) ∧ TurnG g w w' := by
  have HP := Lib.hid (st_clear g n 400 0 on w h (by omega))
  have h1 := slice_all g
  have h2 := clear_run g n on 0 400 w h (by omega) (by omega) 400
  rw [Nat.zero_add] at h2
  rw [Nat.zero_add] at HP
  clear h
  go_enter Try.func16, Try.ntmps16
  generalize List.replicate 400 (Value.bool false) = vs at *
  go_wp2_with (simp only [h2])
  go_end0
  exact ⟨rfl, HP.out⟩
theorem wipe_nil (w : World) : Calls Try.prog 16 #[.pointer none] w fun e w' => e = .returned (.tuple #[]) ∧ Below w.heap.size w w' := by
  go_enter Try.func16, Try.ntmps16
  go_wp2
  go_end0
  exact ⟨rfl, Below.refl _ _⟩
end Go.Proofs.Ytfkiihddcinckaa.Tb
