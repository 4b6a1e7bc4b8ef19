/- Layer 11: the program's copied, columns; windows of a row. -/
import Derived.Test.YthpnmhllgjibgaaRwPa
import Derived.Test.YthpnmhllgjibgaaRwS
set_option linter.unusedVariables false
namespace Go.Proofs.Ythpnmhllgjibgaa.Rw
open Go.RowKit

/-- m[X:Y] of a row of the call's own: what its pointer is hangs on no world. -/
theorem win_at (g k c X Y : Nat) (hXY : X ≤ Y) (hY : Y ≤ c) : ∃ p : Option Addr, (p = some ⟨g, X * 7, none⟩ ∨ Y - X = 0) ∧ (∃ q, p = some q) ∧
    (∀ W, (Instr.slice 28 (.slice (some ⟨g, 0, none⟩) k c) (some (.int .i64 (X : Int))) (some (.int .i64 (Y : Int))) none).run Try.prog W = .ok (.slice p (Y - X) (c - X)) W) := by
  have hu : Try.prog.underlying 28 = some (.slice (Try.prog.elem 28)) := by kernel_rfl
  have hs : ∀ W, (sizeOf (Try.prog.elem 28)).run Try.prog W = .ok 7 W := fun W => by kernel_rfl
  refine ⟨if c = X then some ⟨g, 0, none⟩ else some ⟨g, X * 7, none⟩, ?_, ?_, fun W => ?_⟩
  · by_cases h : c = X
    · right; omega
    · left; rw [if_neg h]
  · split <;> exact ⟨_, rfl⟩
  · rw [run_slice_lh W 28 (some ⟨g, 0, none⟩) k c hu .i64 .i64 (X : Int) (Y : Int) (by omega) (by omega) (by omega), hs]
    simp only [Result.andThen, sliced, Int.toNat_natCast, Option.map_some, add_zz]
theorem from_at (g k c X : Nat) (hX : X ≤ k) (hk : k ≤ c) : ∃ p : Option Addr, (p = some ⟨g, X * 7, none⟩ ∨ k - X = 0) ∧ (∃ q, p = some q) ∧
    (∀ W, (Instr.slice 28 (.slice (some ⟨g, 0, none⟩) k c) (some (.int .i64 (X : Int))) none none).run Try.prog W = .ok (.slice p (k - X) (c - X)) W) := by
  have hu : Try.prog.underlying 28 = some (.slice (Try.prog.elem 28)) := by kernel_rfl
  have hs : ∀ W, (sizeOf (Try.prog.elem 28)).run Try.prog W = .ok 7 W := fun W => by kernel_rfl
  refine ⟨if c = X then some ⟨g, 0, none⟩ else some ⟨g, X * 7, none⟩, ?_, ?_, fun W => ?_⟩
  · by_cases h : c = X
    · right; omega
    · left; rw [if_neg h]
  · split <;> exact ⟨_, rfl⟩
  · rw [run_slice_l W 28 (some ⟨g, 0, none⟩) k c hu .i64 (X : Int) (by omega) (by omega), hs]
    simp only [Result.andThen, sliced, Int.toNat_natCast, Option.map_some, add_zz]

theorem copy_all (l m : List Ce) (h : m.length = l.length) : copyV m 0 l = l := by
  unfold copyV
  rw [List.take_zero, List.nil_append, Nat.sub_zero, h, Nat.min_self, Nat.zero_add, List.take_of_length_le (Nat.le_refl _), ← h, List.drop_length, List.append_nil]

set_option maxRecDepth 100000 in
theorem copied_any (u : Value) (l : List Ce) (w : World) (h : Lies w u l) (hl : l.length ≤ 100000) : Calls Try.prog 26 #[u] w fun e w' => e = .returned (.slice (some ⟨w.heap.size, 0, none⟩) l.length l.length) ∧ OwnC w' w.heap.size (.slice (some ⟨w.heap.size, 0, none⟩) l.length l.length) l ∧ Below w.heap.size w w' := by
  obtain ⟨A, c, rfl, _⟩ := id h
  obtain ⟨w1, hr, ho, hb⟩ := make_rows w .i64 .i64 l.length (by omega)
  have HL := Lib.hid (h.below hb)
  have HO := Lib.hid ho
  have HB := Lib.hid hb
  have HN : Hid (l.length ≤ 100000) := Lib.hid hl
  obtain ⟨n, hn⟩ : ∃ n, n = l.length := ⟨_, rfl⟩
  obtain ⟨g, hg⟩ : ∃ g, g = w.heap.size := ⟨_, rfl⟩
  rw [← hn, ← hg] at hr HO
  rw [← hn] at HL
  rw [← hn, ← hg]
  rw [← hg] at HB
  have HE := Lib.hid hn
  clear h ho hb hl hn hg
  go_enter Try.func26, Try.ntmps26
  go_wp2_with (refine wpList_copy_rows rfl (.tmp 7) (.tmp 8) rfl HO.out (by rw [List.length_replicate]) (Nat.zero_le _) rfl rfl (by omega) (Or.inl (by rw [Nat.zero_mul])) HL.out g _ HB.out (Nat.le_refl _) ?_)
  intro w2 ho2 hb2
  have e : copyV (List.replicate n zeroCe) 0 l = l := copy_all _ _ (by rw [List.length_replicate]; exact HE.out)
  rw [e] at ho2
  clear e hr
  go_wp2
  go_ret
  exact ⟨rfl, ho2.out, hb2⟩

/-! ### columns -/
def begV (k : Nat) (x n : Int) : Nat := if roomV k x n = 0 then 0 else x.toNat
def endV (k : Nat) (x n : Int) : Nat := begV k x n + roomV k x n
theorem beg_no {k : Nat} {x n : Int} (h : roomV k x n = 0) : begV k x n = 0 ∧ endV k x n = 0 := by unfold endV begV; rw [if_pos h, h]; exact ⟨rfl, rfl⟩
theorem beg_yes {k : Nat} {x n : Int} (h : roomV k x n ≠ 0) : begV k x n = x.toNat ∧ endV k x n = x.toNat + roomV k x n := by unfold endV begV; rw [if_neg h]; exact ⟨rfl, rfl⟩

set_option maxRecDepth 100000 in
theorem columns_any (A : Option Addr) (k c : Nat) (x n : Int) (w : World) (hk : k ≤ 100000) (hn : IntIn n) :
    Calls Try.prog 28 #[.slice A k c, .int .i64 x, .int .i64 n] w fun e w' => e = .returned (.tuple #[.int .i64 ((begV k x n : Nat) : Int), .int .i64 ((endV k x n : Nat) : Int)]) ∧ w = w' := by
  unfold IntIn at hn
  by_cases h1 : x < 0
  · have e : roomV k x n = 0 := by unfold roomV; rw [if_pos (Or.inl h1)]
    rw [(beg_no e).1, (beg_no e).2]
    have g1 : decide (x < 0) = true := by simpa using h1
    clear e
    go_enter Try.func28, Try.ntmps28
    go_wp2
    go_ret2
    exact ⟨rfl, rfl⟩
  by_cases h2 : (k : Int) ≤ x
  · have e : roomV k x n = 0 := by unfold roomV; rw [if_pos (Or.inr (Or.inl h2))]
    rw [(beg_no e).1, (beg_no e).2]
    have g1 : decide (x < 0) = false := by simpa using h1
    have g2 : decide (x ≥ (k : Int)) = true := by simpa using h2
    clear e
    go_enter Try.func28, Try.ntmps28
    go_wp2
    go_ret2
    exact ⟨rfl, rfl⟩
  have g1 : decide (x < 0) = false := by simpa using h1
  have g2 : decide (x ≥ (k : Int)) = false := by simp; omega
  by_cases h3 : n < 1
  · have e : roomV k x n = 0 := by unfold roomV; rw [if_pos (Or.inr (Or.inr h3))]
    rw [(beg_no e).1, (beg_no e).2]
    have g3 : decide (n < 1) = true := by simpa using h3
    clear e
    go_enter Try.func28, Try.ntmps28
    go_wp2
    go_ret2
    exact ⟨rfl, rfl⟩
  have g3 : decide (n < 1) = false := by simpa using h3
  have e : roomV k x n = min n.toNat (k - x.toNat) := by unfold roomV; rw [if_neg (by omega)]
  have e0 : roomV k x n ≠ 0 := by omega
  obtain ⟨X, rfl⟩ : ∃ X : Nat, x = (X : Int) := ⟨x.toNat, by omega⟩
  rw [(beg_yes e0).1, (beg_yes e0).2, e, Int.toNat_natCast]
  clear e e0
  have z1 : IntKind.i64.wrap ((k : Int) - (X : Int)) = ((k - X : Nat) : Int) := by rw [IntWalk.i64_in _ (by omega)]; omega
  obtain ⟨N, rfl⟩ : ∃ N : Nat, n = (N : Int) := ⟨n.toNat, by omega⟩
  rw [Int.toNat_natCast]
  by_cases h4 : N ≤ k - X
  · rw [Nat.min_eq_left h4]
    have z2 : IntKind.i64.wrap ((X : Int) + (N : Int)) = ((X + N : Nat) : Int) := by rw [IntWalk.i64_in _ (by omega)]; omega
    go_enter Try.func28, Try.ntmps28
    go_wp2
    go_ret2
    exact ⟨rfl, rfl⟩
  · rw [Nat.min_eq_right (by omega)]
    have z2 : IntKind.i64.wrap ((X : Int) + ((k - X : Nat) : Int)) = ((X + (k - X) : Nat) : Int) := by rw [IntWalk.i64_in _ (by omega)]; omega
    go_enter Try.func28, Try.ntmps28
    go_wp2
    go_ret2
    exact ⟨rfl, rfl⟩
end Go.Proofs.Ythpnmhllgjibgaa.Rw
