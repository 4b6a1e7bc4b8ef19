/- Layer 12: the program's stops in memory; width, change, Set, Clear. -/
import Derived.Test.YtfkiihddcinckaaTbPb
import Derived.Laws.Tables
import Derived.Laws.IdiomCopy
import Derived.Lib.SliceRun
import Derived.Deep.WholeRow
set_option linter.unusedVariables false
namespace Go.Proofs.Ytfkiihddcinckaa.Tb
open Go.RowKit

/-! ### stops in memory -/
/-- The cells: the width, and a bool a column. -/
def stC (n : Int) (on : List Bool) : List Value := .int .i64 n :: on.map .bool
def stO (n : Int) (on : List Bool) : Obj := .cells (stC n on).toArray 58 (0, 0)
theorem stC_len (n : Int) (on : List Bool) : (stC n on).length = on.length + 1 := by simp [stC]
theorem stC_on (n : Int) (on : List Bool) (k : Nat) (h : k < on.length) : (stC n on)[k + 1]? = some (.bool (on.getD k false)) := by
  simp [stC, List.getD_eq_getElem?_getD, List.getElem?_eq_getElem h]
structure StAt (w : World) (g : Nat) (n : Int) (on : List Bool) : Prop where
  blk : w.heap[g]? = some (stO n on)
  len : on.length = 400
namespace StAt
variable {w w' : World} {g : Nat} {n : Int} {on : List Bool}
theorem lt (h : StAt w g n on) : g < w.heap.size := blk_lt h.blk
theorem keep (h : StAt w g n on) (hk : w'.heap[g]? = w.heap[g]?) : StAt w' g n on := ⟨hk.trans h.blk, h.len⟩
theorem cell0 (h : StAt w g n on) : w.cell? ⟨g, 0, none⟩ = some (.int .i64 n) := by
  rw [cell_of (show w.heap[g]? = some (.cells (stC n on).toArray 58 (0, 0)) from h.blk) 0]
  simp [stC]
theorem cellk (h : StAt w g n on) {k : Nat} (hk : k < 400) : w.cell? ⟨g, k + 1, none⟩ = some (.bool (on.getD k false)) := by
  rw [cell_of (show w.heap[g]? = some (.cells (stC n on).toArray 58 (0, 0)) from h.blk) (k + 1), List.getElem?_toArray]
  exact stC_on n on k (by rw [h.len]; exact hk)
theorem free (h : StAt w g n on) (i : Nat) : w.frozen? ⟨g, i, none⟩ = false := free_of (show w.heap[g]? = some (.cells (stC n on).toArray 58 (0, 0)) from h.blk) i
theorem set0 (h : StAt w g n on) (m : Int) : StAt (w.setCell ⟨g, 0, none⟩ (.int .i64 m)) g m on := by
  refine ⟨?_, h.len⟩
  rw [heap_setCell_same w g 0 _ _ (.int .i64 m) h.blk]
  simp [stO, stC]
theorem setk (h : StAt w g n on) {k : Nat} (hk : k < 400) (b : Bool) : StAt (w.setCell ⟨g, k + 1, none⟩ (.bool b)) g n (on.set k b) := by
  refine ⟨?_, by rw [List.length_set]; exact h.len⟩
  rw [heap_setCell_same w g (k + 1) _ _ (.bool b) h.blk]
  simp [stO, stC]
end StAt
/-- Only block g, and new ones, have turned. -/
def TurnG (g : Nat) (w w' : World) : Prop := w'.os = w.os ∧ w'.tape = w.tape ∧ w'.output = w.output ∧ w.heap.size ≤ w'.heap.size ∧ ∀ k, k < w.heap.size → k ≠ g → w'.heap[k]? = w.heap[k]?
theorem turn_refl (g : Nat) (w : World) : TurnG g w w := ⟨rfl, rfl, rfl, Nat.le_refl _, fun _ _ _ => rfl⟩
theorem TurnG.trans {g : Nat} {A B C : World} (h : TurnG g A B) (k : TurnG g B C) : TurnG g A C :=
  ⟨k.1.trans h.1, k.2.1.trans h.2.1, k.2.2.1.trans h.2.2.1, Nat.le_trans h.2.2.2.1 k.2.2.2.1, fun i hi hg => (k.2.2.2.2 i (Nat.lt_of_lt_of_le hi h.2.2.2.1) hg).trans (h.2.2.2.2 i hi hg)⟩
theorem turn_set (w : World) (g i : Nat) (v : Value) : TurnG g w (w.setCell ⟨g, i, none⟩ v) :=
  ⟨rfl, rfl, rfl, by simp, fun k _ hk => Below.heap_setCell _ _ _ _ hk⟩
theorem turn_below {g : Nat} {w w' : World} (h : Below w.heap.size w w') : TurnG g w w' := ⟨h.os, h.tape, h.output, h.size, fun k hk _ => h.block k hk⟩
theorem idx_on (g k : Nat) (hk : k < 400) (W : World) : (Instr.indexAt 56 (.pointer (some ⟨g, 1, none⟩)) (.int .i64 (k : Int))).run Try.prog W = .ok (.pointer (some ⟨g, k + 1, none⟩)) W := by
  have hs : ∀ W : World, (sizeOf (Try.prog.elem 56)).run Try.prog W = .ok 1 W := fun W => by kernel_rfl
  have hl : Try.prog.arrayLen 56 = 400 := by kernel_rfl
  rw [run_indexAt_array (P := Try.prog) W 56 ⟨g, 1, none⟩ .i64 k (by kernel_rfl), hl, if_pos (by omega), hs]
  simp only [Result.andThen, Int.toNat_natCast, Nat.mul_one]
  congr 3
  unfold Addr.add
  split
  · rename_i h; subst h; rfl
  · simp [Nat.add_comm]

/-! ### width -/
theorem width_nil (w : World) : Calls Try.prog 41 #[.pointer none] w fun e w' => e = .returned (.int .i64 1) ∧ w = w' := by
  go_enter Try.func41, Try.ntmps41
  go_wp2
  go_ret
  exact ⟨rfl, rfl⟩
theorem width_zero (g : Nat) (on : List Bool) (w : World) (h : StAt w g 0 on) : Calls Try.prog 41 #[.pointer (some ⟨g, 0, none⟩)] w fun e w' => e = .returned (.int .i64 1) ∧ w = w' := by
  have c0 := h.cell0
  clear h
  go_enter Try.func41, Try.ntmps41
  go_wp2
  go_ret
  exact ⟨rfl, rfl⟩
theorem width_some (g n : Nat) (on : List Bool) (w : World) (h : StAt w g n on) (hn : 1 ≤ n) : Calls Try.prog 41 #[.pointer (some ⟨g, 0, none⟩)] w fun e w' => e = .returned (.int .i64 (n : Int)) ∧ w = w' := by
  have c0 := h.cell0
  have g0 : ((n : Int) == 0) = false := by simp; omega
  clear h
  go_enter Try.func41, Try.ntmps41
  go_wp2
  go_ret
  exact ⟨rfl, rfl⟩
end Go.Proofs.Ytfkiihddcinckaa.Tb
