/- Layer 11: the program's copied, columns; windows of a row. -/
import Derived.Test.YtomfeehebkknoaaRwPa
import Derived.Test.YtomfeehebkknoaaRwS
set_option linter.unusedVariables false
namespace Go.Proofs.Ytomfeehebkknoaa.Rw
open Go.RowKit

/-- m[X:Y] of a row of the call's own: what its pointer is hangs on no world. -/
theorem win_at (g k c X Y : Nat) (hXY : X ≤ Y) (hY : Y ≤ c) : ∃ p : Option Addr, (p = some ⟨g, X * 7, none⟩ ∨ Y - X = 0) ∧ (∃ q, p = some q) ∧
    (∀ W, (Instr.slice 38 (.slice (some ⟨g, 0, none⟩) k c) (some (.int .i64 (X : Int))) (some (.int .i64 (Y : Int))) none).run Try.prog W = .ok (.slice p (Y - X) (c - X)) W) := by
  have hu : Try.prog.underlying 38 = some (.slice (Try.prog.elem 38)) := by kernel_rfl
  have hs : ∀ W, (sizeOf (Try.prog.elem 38)).run Try.prog W = .ok 7 W := fun W => by kernel_rfl
  refine ⟨if c = X then some ⟨g, 0, none⟩ else some ⟨g, X * 7, none⟩, ?_, ?_, fun W => ?_⟩
  · by_cases h : c = X
    · right; omega
    · left; rw [if_neg h]
  · split <;> exact ⟨_, rfl⟩
  · rw [run_slice_lh W 38 (some ⟨g, 0, none⟩) k c hu .i64 .i64 (X : Int) (Y : Int) (by omega) (by omega) (by omega), hs]
    simp only [Result.andThen, sliced, Int.toNat_natCast, Option.map_some, add_zz]
theorem from_at (g k c X : Nat) (hX : X ≤ k) (hk : k ≤ c) : ∃ p : Option Addr, (p = some ⟨g, X * 7, none⟩ ∨ k - X = 0) ∧ (∃ q, p = some q) ∧
    (∀ W, (Instr.slice 38 (.slice (some ⟨g, 0, none⟩) k c) (some (.int .i64 (X : Int))) none none).run Try.prog W = .ok (.slice p (k - X) (c - X)) W) := by
  have hu : Try.prog.underlying 38 = some (.slice (Try.prog.elem 38)) := by kernel_rfl
  have hs : ∀ W, (sizeOf (Try.prog.elem 38)).run Try.prog W = .ok 7 W := fun W => by kernel_rfl
  refine ⟨if c = X then some ⟨g, 0, none⟩ else some ⟨g, X * 7, none⟩, ?_, ?_, fun W => ?_⟩
  · by_cases h : c = X
    · right; omega
    · left; rw [if_neg h]
  · split <;> exact ⟨_, rfl⟩
  · rw [run_slice_l W 38 (some ⟨g, 0, none⟩) k c hu .i64 (X : Int) (by omega) (by omega), hs]
    simp only [Result.andThen, sliced, Int.toNat_natCast, Option.map_some, add_zz]

theorem copy_all (l m : List Ce) (h : m.length = l.length) : copyV m 0 l = l := by
  unfold copyV
  rw [List.take_zero, List.nil_append, Nat.sub_zero, h, Nat.min_self, Nat.zero_add, List.take_of_length_le (Nat.le_refl _), ← h, List.drop_length, List.append_nil]

/-! ### columns -/
def begV (k : Nat) (x n : Int) : Nat := if roomV k x n = 0 then 0 else x.toNat
def endV (k : Nat) (x n : Int) : Nat := begV k x n + roomV k x n
theorem beg_no {k : Nat} {x n : Int} (h : roomV k x n = 0) : begV k x n = 0 ∧ endV k x n = 0 := by unfold endV begV; rw [if_pos h, h]; exact ⟨rfl, rfl⟩
theorem beg_yes {k : Nat} {x n : Int} (h : roomV k x n ≠ 0) : begV k x n = x.toNat ∧ endV k x n = x.toNat + roomV k x n := by unfold endV begV; rw [if_neg h]; exact ⟨rfl, rfl⟩

end Go.Proofs.Ytomfeehebkknoaa.Rw
