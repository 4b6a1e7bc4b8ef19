/- Layer 13: what the program's Up and Down join (plain); four slices of lines, made and joined. -/
import Derived.Test.YtomfeehebkknoaaScPc
import Derived.Test.YtomfeehebkknoaaScPd
import Derived.Test.YtomfeehebkknoaaScPe
set_option linter.unusedVariables false
namespace Go.Proofs.Ytomfeehebkknoaa.Rw
open Go.RowKit

theorem line_cat4 (a b c d : Ls) (k : Nat) : lineV (a ++ b ++ c ++ d) k = if k < a.length then lineV a k else if k < a.length + b.length then lineV b (k - a.length) else if k < a.length + b.length + c.length then lineV c (k - a.length - b.length) else lineV d (k - a.length - b.length - c.length) := by
  by_cases h1 : k < a.length
  · rw [if_pos h1, line_left (by simp only [List.length_append]; omega), line_left (by simp only [List.length_append]; omega), line_left h1]
  · rw [if_neg h1]
    by_cases h2 : k < a.length + b.length
    · rw [if_pos h2, line_left (by simp only [List.length_append]; omega), line_left (by simp only [List.length_append]; omega), line_right (by omega)]
    · rw [if_neg h2]
      by_cases h3 : k < a.length + b.length + c.length
      · rw [if_pos h3, line_left (by simp only [List.length_append]; omega), line_right (by simp only [List.length_append]; omega), List.length_append, Nat.sub_sub]
      · rw [if_neg h3, line_right (by simp only [List.length_append]; omega), List.length_append, List.length_append, Nat.sub_sub, Nat.sub_sub]
        exact congrArg _ (by omega)
theorem line_rep (f : List Ce) (n k : Nat) (h : k < n) : lineV (List.replicate n f) k = f := by
  rw [line_lt (by rw [List.length_replicate]; exact h), List.getElem_replicate]
theorem reg_len {ls : Ls} {t b : Int} (h : regB ls.length t b = true) : (regL ls t b).length = b.toNat + 1 - t.toNat := by
  unfold regL
  rw [if_pos h, List.length_drop, List.length_take]
  rw [reg_iff] at h
  omega
theorem ok_reg {len : Nat} {t b n : Int} (h : regB len t b = false) : okB len t b n = false := by
  unfold okB
  unfold regB at h
  rw [h]
  rfl
theorem whole_cat (ls : Ls) {T C : Nat} (h : T ≤ C) : ls.take T ++ (ls.take C).drop T ++ ls.drop C = ls := by
  have e : ls.take T = (ls.take C).take T := by rw [List.take_take, Nat.min_eq_left h]
  rw [e, List.take_append_drop, List.take_append_drop]
theorem up_cat (ls : Ls) (t b n : Int) (f : List Ce) (N : Nat) (hN : N = stepN n (regL ls t b).length) : aheadL ls t b ++ (regL ls t b).drop N ++ List.replicate N f ++ behL ls t b = upO ls t b n f ∧ (regL ls t b).take N = upG ls t b n := by
  unfold upO upG
  by_cases hr : regB ls.length t b = true
  · have hl := reg_len hr
    rw [hl] at hN
    unfold aheadL behL regL
    rw [if_pos hr, if_pos hr, if_pos hr]
    rw [reg_iff] at hr
    unfold stepN at hN
    by_cases hn : 1 ≤ n
    · have ho : okB ls.length t b n = true := ok_iff.2 ⟨hr.1, hr.2.1, hr.2.2, hn⟩
      rw [if_pos ho, if_pos ho]
      have hby : byN t b n = N := by unfold byN; omega
      rw [hby]
      generalize hT : t.toNat = T at *
      generalize hB : b.toNat = B at *
      have hTB : T ≤ B := by omega
      have hBl : B < ls.length := by omega
      have hNB : N ≤ B + 1 - T := by omega
      refine ⟨line_ext (by simp only [List.length_append, List.length_take, List.length_drop, List.length_replicate, upN_len]; omega) fun k hk => ?_, (gone_up f hTB hBl (by omega) (by omega)).trans ?_ |>.symm⟩
      · simp only [List.length_append, List.length_take, List.length_drop, List.length_replicate] at hk
        rw [line_cat4, upN_at _ _ _ _ _ _ (by omega)]
        simp only [List.length_take, List.length_drop, List.length_replicate]
        by_cases h1 : k < T
        · rw [if_pos (by omega), if_pos (Or.inl h1), line_take _ _ _ h1]
        · rw [if_neg (by omega)]
          by_cases h2 : B < k
          · rw [if_neg (by omega), if_neg (by omega), if_pos (Or.inr h2), line_drop]
            congr 1
            omega
          · rw [if_neg (by omega : ¬ (k < T ∨ B < k))]
            by_cases h3 : k + N ≤ B
            · rw [if_pos (by omega), if_pos h3, line_drop, line_drop, line_take _ _ _ (by omega)]
              congr 1
              omega
            · rw [if_neg (by omega), if_pos (by omega), if_neg h3, line_rep _ _ _ (by omega)]
      · rw [List.take_drop, List.take_take, Nat.min_eq_left (by omega)]
    · have ho : okB ls.length t b n = false := by
        cases h : okB ls.length t b n with
        | false => rfl
        | true => exact absurd (ok_iff.1 h).2.2.2 hn
      rw [ho]
      have h0 : N = 0 := by omega
      subst h0
      simp only [List.drop_zero, List.replicate_zero, List.append_nil, List.take_zero]
      exact ⟨whole_cat ls (by omega), rfl⟩
  · have hf : regB ls.length t b = false := by simpa using hr
    have hl : regL ls t b = [] := by unfold regL; rw [hf]; rfl
    rw [hl] at hN ⊢
    have h0 : N = 0 := by rw [hN]; unfold stepN; simp
    subst h0
    unfold aheadL behL
    rw [hf, ok_reg hf]
    simp
theorem down_cat (ls : Ls) (t b n : Int) (f : List Ce) (N : Nat) (hN : N = stepN n (regL ls t b).length) : aheadL ls t b ++ List.replicate N f ++ (regL ls t b).take ((regL ls t b).length - N) ++ behL ls t b = downO ls t b n f ∧ (regL ls t b).drop ((regL ls t b).length - N) = downG ls t b n := by
  unfold downO downG
  by_cases hr : regB ls.length t b = true
  · have hl := reg_len hr
    rw [hl] at hN ⊢
    unfold aheadL behL regL
    rw [if_pos hr, if_pos hr, if_pos hr]
    rw [reg_iff] at hr
    unfold stepN at hN
    by_cases hn : 1 ≤ n
    · have ho : okB ls.length t b n = true := ok_iff.2 ⟨hr.1, hr.2.1, hr.2.2, hn⟩
      rw [if_pos ho, if_pos ho]
      have hby : byN t b n = N := by unfold byN; omega
      rw [hby]
      generalize hT : t.toNat = T at *
      generalize hB : b.toNat = B at *
      have hTB : T ≤ B := by omega
      have hBl : B < ls.length := by omega
      have hNB : N ≤ B + 1 - T := by omega
      refine ⟨line_ext (by simp only [List.length_append, List.length_take, List.length_drop, List.length_replicate, downN_len]; omega) fun k hk => ?_, ?_⟩
      · simp only [List.length_append, List.length_take, List.length_drop, List.length_replicate] at hk
        rw [line_cat4, downN_at _ _ _ _ _ _ (by omega)]
        simp only [List.length_take, List.length_drop, List.length_replicate]
        by_cases h1 : k < T
        · rw [if_pos (by omega), if_pos (Or.inl h1), line_take _ _ _ h1]
        · rw [if_neg (by omega)]
          by_cases h2 : B < k
          · rw [if_neg (by omega), if_neg (by omega), if_pos (Or.inr h2), line_drop]
            congr 1
            omega
          · rw [if_neg (by omega : ¬ (k < T ∨ B < k))]
            by_cases h3 : T + N ≤ k
            · rw [if_neg (by omega), if_pos (by omega), if_pos h3, line_take _ _ _ (by omega), line_drop, line_take _ _ _ (by omega)]
              congr 1
              omega
            · rw [if_pos (by omega), if_neg h3, line_rep _ _ _ (by omega)]
      · rw [gone_down f hTB hBl (by omega) (by omega), List.drop_drop]
        congr 1
        omega
    · have ho : okB ls.length t b n = false := by
        cases h : okB ls.length t b n with
        | false => rfl
        | true => exact absurd (ok_iff.1 h).2.2.2 hn
      rw [ho]
      have h0 : N = 0 := by omega
      subst h0
      have e : (List.drop t.toNat (List.take (b.toNat + 1) ls)).length = b.toNat + 1 - t.toNat := by
        rw [List.length_drop, List.length_take]; omega
      rw [Nat.sub_zero, ← e, List.take_length, List.drop_length]
      simp only [List.replicate_zero, List.append_nil]
      exact ⟨whole_cat ls (by omega), rfl⟩
  · have hf : regB ls.length t b = false := by simpa using hr
    have hl : regL ls t b = [] := by unfold regL; rw [hf]; rfl
    rw [hl] at hN ⊢
    have h0 : N = 0 := by rw [hN]; unfold stepN; simp
    subst h0
    unfold aheadL behL
    rw [hf, ok_reg hf]
    simp
end Go.Proofs.Ytomfeehebkknoaa.Rw
