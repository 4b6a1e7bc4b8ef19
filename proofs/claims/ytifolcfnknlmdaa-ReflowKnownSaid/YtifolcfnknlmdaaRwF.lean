/- Layer 11: the document's Whole. -/
import Derived.Test.YtifolcfnknlmdaaRwE
set_option linter.unusedVariables false
namespace Go.Proofs.Ytifolcfnknlmdaa.Rw
open Go.RowKit

theorem run_next {l : List Ce} {k : Nat} (h : k < l.length) (o : Bool) : runO o (l.drop k) = (nextO o (cellV l k)).bind fun o' => runO o' (l.drop (k + 1)) := by rw [drop_one h]; rfl
theorem next_none {o : Bool} {c : Ce} (h : c.w > 2 ∨ o ≠ (c.w == 2)) : nextO o c = none := by unfold nextO; rw [if_pos h]
theorem next_some {o : Bool} {c : Ce} (h : ¬ (c.w > 2 ∨ o ≠ (c.w == 2))) : nextO o c = some (c.w == 1) := by unfold nextO; rw [if_neg h]
theorem whole_no {l : List Ce} (h : runO false l = none) : wholeB l = false := by unfold wholeB; rw [h]; rfl
theorem whole_end {l : List Ce} {o : Bool} (h : runO false l = some o) : wholeB l = !o := by unfold wholeB; rw [h]; cases o <;> rfl

set_option maxRecDepth 100000 in
set_option maxHeartbeats 2000000 in
theorem rwhole_any (l : List Ce) (A : Option Addr) (n c : Nat) (w : World) (h : Lies w (.slice A n c) l) (hl : n ≤ 100000) :
    Calls Try.prog 20 #[.slice A n c] w fun e w' => e = .returned (.bool (wholeB l)) ∧ Below w.heap.size w w' := by
  obtain ⟨hn, -, -, R⟩ := h.row
  have HN := Lib.hid hn
  have HR := Lib.hid R
  obtain ⟨W, hW⟩ : ∃ W, W = wholeB l := ⟨_, rfl⟩
  rw [← hW]
  have HW := Lib.hid hW
  clear h hn R hW
  go_enter Try.func20, Try.ntmps20
  go_wp2
  go_loopw [3, 4] (fun op i wr => ∃ (k : Nat) (o : Bool), k ≤ n ∧ i = .int .i64 k ∧ op = .bool o ∧ Hid (runO false l = runO o (l.drop k)) ∧ Hid (Below w.heap.size w wr)) (fun _ i _ => n - (RowKit.intOf i).toNat)
  case atStart => exact ⟨0, false, Nat.zero_le _, rfl, rfl, Lib.hid rfl, Lib.hid (Below.refl _ _)⟩
  case round =>
    obtain ⟨k, o, hk, rfl, rfl, HO, HB⟩ := hrel
    rename_i wr
    by_cases hlt : k < n
    · have glt : decide ((k : Int) < (n : Int)) = true := by simp; omega
      have hkl : k < l.length := by rw [← HN.out]; exact hlt
      obtain ⟨b, p, rfl, hb, _, p1, _⟩ := HR.out.at_ hkl
      have p1 := (HB.out.cell hb).trans p1
      have i1 := idx_cell b p n c k hlt
      have HNx := Lib.hid (run_next hkl o)
      obtain ⟨z, hz⟩ : ∃ z, z = (cellV l k).w := ⟨_, rfl⟩
      rw [← hz] at p1
      by_cases hbad : z > 2 ∨ o ≠ (z == 2)
      · have HF : Hid (W = false) := Lib.hid (by rw [HW.out]; exact whole_no (by rw [HO.out, HNx.out, next_none (by rw [← hz]; exact hbad)]; rfl))
        clear HO HNx hz hb
        by_cases h2 : z > 2
        · have g1 : decide ((z : Int) > 2) = true := by simp; omega
          go_wp2
          go_ret
          exact ⟨ret_bool HF.out.symm, HB.out⟩
        · have g1 : decide ((z : Int) > 2) = false := by simp; omega
          have hb2 := hbad.resolve_left h2
          by_cases h3 : z = 2
          · subst h3
            obtain rfl : o = false := by cases o; rfl; exact absurd rfl hb2
            go_wp2
            go_ret
            exact ⟨ret_bool HF.out.symm, HB.out⟩
          · have g2 : ((z : Int) == 2) = false := by simp; omega
            obtain rfl : o = true := by
              cases o
              · exact absurd (by simp [h3]) hb2
              · rfl
            go_wp2
            go_ret
            exact ⟨ret_bool HF.out.symm, HB.out⟩
      · have HS : Hid (runO false l = runO (z == 1) (l.drop (k + 1))) := Lib.hid (by rw [HO.out, HNx.out, next_some (by rw [← hz]; exact hbad), ← hz]; rfl)
        have g1 : decide ((z : Int) > 2) = false := by simp; omega
        have ho : o = (z == 2) := by
          by_cases e : o = (z == 2)
          · exact e
          · exact absurd (Or.inr e) hbad
        have g3 : ((z : Int) == 1) = (z == 1) := by
          by_cases e : z = 1
          · subst e; rfl
          · rw [show (z == 1) = false by simpa using e]; simp; omega
        clear HO HNx hz hb hbad
        by_cases h3 : z = 2
        · subst h3
          obtain rfl : o = true := ho
          go_wp2
          go_roundw
          case rel => exact ⟨k + 1, false, by omega, by go_num, rfl, HS, HB⟩
          case measure => simp [RowKit.intOf]; omega
        · have g2 : ((z : Int) == 2) = false := by simp; omega
          obtain rfl : o = false := by rw [ho]; simpa using h3
          go_wp2
          go_roundw
          case rel => exact ⟨k + 1, (z == 1), by omega, by go_num, rfl, HS, HB⟩
          case measure => simp [RowKit.intOf]; omega
    · have hkn : k = n := by omega
      have HF : Hid ((!o) = W) := Lib.hid (by rw [HW.out]; exact (whole_end (by rw [HO.out, List.drop_eq_nil_of_le (by rw [hkn, HN.out]; exact Nat.le_refl _)]; rfl)).symm)
      subst hkn
      clear HO
      go_wp2
      go_ret
      exact ⟨ret_bool HF.out, HB.out⟩
end Go.Proofs.Ytifolcfnknlmdaa.Rw
