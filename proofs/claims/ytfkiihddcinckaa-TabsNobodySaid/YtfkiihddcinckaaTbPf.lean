/- Layer 12: the program's Resize, New. -/
import Derived.Test.YtfkiihddcinckaaTbPe
set_option linter.unusedVariables false
namespace Go.Proofs.Ytfkiihddcinckaa.Tb
open Go.RowKit

/-! ### columns, from one width to another -/
/-- The columns when those up to k are laid: v the old width, m the new one. -/
def layB (on : List Bool) (v m k : Nat) : List Bool := (List.range 400).map fun j => if j < v then decide (j < m) && on.getD j false else decide (j < k) && baseB j
theorem layB_len (on : List Bool) (v m k : Nat) : (layB on v m k).length = 400 := by simp [layB]
theorem layB_get (on : List Bool) (v m k j : Nat) (hj : j < 400) : (layB on v m k).getD j false = if j < v then decide (j < m) && on.getD j false else decide (j < k) && baseB j := by
  simp [layB, List.getD_eq_getElem?_getD, hj]
theorem lay_start (on : List Bool) (v m : Nat) (hl : on.length = 400) (hm : m ≤ 400) (h : ∀ j, v ≤ j → on.getD j false = false) : clrN on m (400 - m) = layB on v m v := by
  refine bool_ext (by rw [clrN_len]; exact hl) (layB_len _ _ _ _) fun j hj => ?_
  rw [clrN_get _ _ _ _ (by omega), layB_get _ _ _ _ _ hj]
  by_cases h1 : j < v
  · rw [if_pos h1]
    by_cases h2 : j < m
    · rw [if_neg (by omega), decide_eq_true h2, Bool.true_and]
    · rw [if_pos (by omega), decide_eq_false h2, Bool.false_and]
  · rw [if_neg h1, decide_eq_false h1, Bool.false_and, h j (by omega), ite_self]
theorem lay_step (on : List Bool) (v m k : Nat) (hv : 1 ≤ v) (hk : v ≤ k) (h4 : k < 400) : (layB on v m k).set k ((k : Int) % 8 == 0) = layB on v m (k + 1) := by
  refine bool_ext (by rw [List.length_set, layB_len]) (layB_len _ _ _ _) fun j hj => ?_
  rw [set_get _ _ _ _ (by rw [layB_len]; exact h4), layB_get _ _ _ _ _ hj, layB_get _ _ _ _ _ hj]
  by_cases e : j = k
  · subst e
    rw [if_pos rfl, if_neg (by omega), decide_eq_true (by omega), Bool.true_and]
    unfold baseB
    rw [decide_eq_true (by omega), Bool.true_and, Bool.eq_iff_iff]
    simp
    omega
  · rw [if_neg e]
    by_cases h1 : j < v
    · rw [if_pos h1, if_pos h1]
    · rw [if_neg h1, if_neg h1]
      congr 1
      rw [Bool.eq_iff_iff, decide_eq_true_iff, decide_eq_true_iff]
      omega
theorem width_max (x : Int) : max 1 (min x 400) = (widthV x : Nat) := by
  unfold widthV
  by_cases h1 : x < 1
  · rw [if_pos h1]; omega
  · rw [if_neg h1]
    by_cases h2 : 400 < x
    · rw [if_pos h2]; omega
    · rw [if_neg h2]; omega

set_option maxRecDepth 100000 in
set_option maxHeartbeats 2000000 in
theorem resize_run (g v : Nat) (n : Int) (on : List Bool) (x : Int) (w : World) (h : StAt w g n on) (hv : 1 ≤ v ∧ v ≤ 400) (hz : ∀ j, v ≤ j → on.getD j false = false)
    (hw : ∀ W on', StAt W g n on' → Calls Try.prog 41 #[.pointer (some ⟨g, 0, none⟩)] W fun e w' => e = .returned (.int .i64 (v : Int)) ∧ W = w') :
    Calls Try.prog 17 #[.pointer (some ⟨g, 0, none⟩), .int .i64 x] w fun e w' => e = .returned (.tuple #[]) ∧ StAt w' g (widthV x) (layB on v (widthV x) (max v (widthV x))) ∧ TurnG g w w' := by
  obtain ⟨hm1, hm4⟩ := width_in x
  have HN : Hid (∀ V, Calls Try.prog 40 #[.int .i64 x, .int .i64 1, .int .i64 400] V fun e w' => e = .returned (.int .i64 (widthV x : Nat)) ∧ V = w') := Lib.hid fun V => by
    have := nearest_any x 1 400 V
    rwa [width_max x] at this
  generalize widthV x = m at *
  have HW := Lib.hid hw
  have HS : Hid (StAt (w.setCells g (m + 1) (List.replicate (400 - m) (.bool false))) g n (layB on v m v) ∧ TurnG g w (w.setCells g (m + 1) (List.replicate (400 - m) (.bool false)))) := Lib.hid (by
    have := st_clear g n (400 - m) m on w h (by omega)
    rwa [lay_start on v m h.len hm4 hz] at this)
  obtain ⟨W1, hW1⟩ : ∃ W1, w.setCells g (m + 1) (List.replicate (400 - m) (.bool false)) = W1 := ⟨_, rfl⟩
  rw [hW1] at HS
  obtain ⟨a, nn, s1, c1⟩ : ∃ a nn, (∀ W, (Instr.sliceAt 56 (.pointer (some ⟨g, 1, none⟩)) (some (.int .i64 (m : Int))) none none).run Try.prog W = .ok (.slice a nn nn) W) ∧ ∀ ty, (Builtin.clear_ #[62] ty #[.slice a nn nn]).run Try.prog w = .ok (.tuple #[]) W1 := by
    by_cases h4 : m = 400
    · subst h4
      exact ⟨_, 0, slice_end g, fun ty => by rw [clear_none, ← hW1]; rfl⟩
    · refine ⟨_, _, slice_from g m (by omega), fun ty => ?_⟩
      rw [← hW1]
      exact clear_run g n on m (400 - m) w h (by omega) (by omega) (400 - m) ty
  clear h hw hz hW1
  go_enter Try.func17, Try.ntmps17
  go_wp2_with fail
  refine (show Calls _ _ _ _ _ from HN.out _).mono ?_
  rintro e w2 ⟨rfl, rfl⟩
  have KW := Lib.hid (HW.out _ _ HS.out.1)
  go_wp2_with fail
  refine (show Calls _ _ _ _ _ from KW.out).mono ?_
  rintro e w2 ⟨rfl, rfl⟩
  clear s1 c1 KW
  go_wp2_with fail
  go_loopw [4] (fun i wr => ∃ k : Nat, v ≤ k ∧ (k ≤ m ∨ k = v) ∧ i = .int .i64 k ∧ Hid (StAt wr g n (layB on v m k) ∧ TurnG g w wr)) (fun i _ => m - (RowKit.intOf i).toNat)
  case atStart => exact ⟨v, Nat.le_refl _, Or.inr rfl, rfl, HS⟩
  case round =>
    obtain ⟨k, hk, hkm, rfl, HK⟩ := hrel
    by_cases hlt : k < m
    · have glt : decide ((k : Int) < (m : Int)) = true := by simp; omega
      have i1 := idx_on g k (by omega)
      have f1 := HK.out.1.free (k + 1)
      have q1 := HK.out.1.cellk (k := k) (by omega)
      have HS2 : Hid (StAt (wr.setCell ⟨g, k + 1, none⟩ (.bool ((k : Int) % 8 == 0))) g n (layB on v m (k + 1)) ∧ TurnG g w (wr.setCell ⟨g, k + 1, none⟩ (.bool ((k : Int) % 8 == 0)))) := Lib.hid ⟨by
        have := HK.out.1.setk (k := k) (by omega) ((k : Int) % 8 == 0)
        rwa [lay_step on v m k hv.1 hk (by omega)] at this, HK.out.2.trans (turn_set _ _ _ _)⟩
      have k8 : (0 : Int) ≤ (k : Int) := by omega
      clear HK
      go_wp2
      go_roundw
      case rel => exact ⟨k + 1, by omega, by omega, by go_num, HS2⟩
      case measure => simp [RowKit.intOf]; omega
    · have glt : decide ((k : Int) < (m : Int)) = false := by simp; omega
      have e : k = max v m := by omega
      have f0 := HK.out.1.free 0
      have q0 := HK.out.1.cell0
      have HF : Hid (StAt (wr.setCell ⟨g, 0, none⟩ (.int .i64 (m : Int))) g m (layB on v m (max v m)) ∧ TurnG g w (wr.setCell ⟨g, 0, none⟩ (.int .i64 (m : Int)))) := Lib.hid (by
        rw [← e]
        exact ⟨HK.out.1.set0 m, HK.out.2.trans (turn_set _ _ _ _)⟩)
      clear HK
      go_wp2
      go_end0
      exact ⟨rfl, HF.out⟩
theorem resize_nil (x : Int) (w : World) : Calls Try.prog 17 #[.pointer none, .int .i64 x] w fun e w' => e = .returned (.tuple #[]) ∧ Below w.heap.size w w' := by
  go_enter Try.func17, Try.ntmps17
  go_wp2
  refine bodyPost_ret (results_none rfl _ _ _) rfl ?_
  exact ⟨rfl, Below.refl _ _⟩
end Go.Proofs.Ytfkiihddcinckaa.Tb
