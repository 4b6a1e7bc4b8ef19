/- Layer 15: how many lines and cells there are at a width (plain). -/
import Derived.Test.YtifolcfnknlmdaaReJ
set_option linter.unusedVariables false
namespace Go.Proofs.Ytifolcfnknlmdaa.Re
open Go.Proofs.Ytifolcfnknlmdaa.Rw

theorem sum_append (a b : List LnC) : sumV (a ++ b) = sumV a + sumV b := by simp [sumV]
theorem sum_lay (w : Nat) (hw : 2 ≤ w) : ∀ n (cs : List Ce), cs.length ≤ n → sumV (lay blC wdC w cs) ≤ 2 * cs.length + w := by
  intro n
  induction n with
  | zero =>
    intro cs hn
    rw [lay, dif_neg (by omega), dif_neg (by omega), sum_cons]
    simp [sumV]
    omega
  | succ n ih =>
    intro cs hn
    rw [lay]
    split
    · rename_i h
      have h1 := ih (cs.drop (w - 1)) (by rw [List.length_drop]; omega)
      rw [List.length_drop] at h1
      have hl : (cs.take (w - 1) ++ [blC]).length = w := by rw [List.length_append, List.length_take, List.length_singleton]; omega
      rw [sum_cons, hl]
      omega
    · split
      · rename_i h
        have h1 := ih (cs.drop w) (by rw [List.length_drop]; omega)
        rw [List.length_drop] at h1
        have hl : (cs.take w).length = w := by rw [List.length_take]; omega
        rw [sum_cons, hl]
        omega
      · rw [sum_cons]
        simp [sumV]
        omega
def lenSum (ps : List (List Ce)) : Nat := (ps.map List.length).sum
theorem lenSum_cons (p : List Ce) (ps : List (List Ce)) : lenSum (p :: ps) = p.length + lenSum ps := by simp [lenSum]
theorem paras_sum : ∀ (l : List LnC) (acc : List Ce), lenSum (parasA blC acc l) ≤ acc.length + sumV l
  | [], acc => by simp [parasA, lenSum]
  | [a], acc => by
    rw [parasA, lenSum_cons, sum_cons]
    have h1 := trim_len (acc ++ cnt a)
    have h2 := cnt_len_le a
    rw [List.length_append] at h1
    simp [lenSum]
    omega
  | a :: b :: r, acc => by
    have h2 := cnt_len_le a
    rw [parasA, sum_cons]
    split
    · have := paras_sum (b :: r) (acc ++ cnt a)
      rw [List.length_append] at this
      omega
    · have h1 := trim_len (acc ++ cnt a)
      rw [List.length_append] at h1
      have := paras_sum (b :: r) []
      rw [List.length_nil] at this
      rw [lenSum_cons]
      omega
theorem flat_sum (w : Nat) (hw : 2 ≤ w) : ∀ ps : List (List Ce), sumV (ps.flatMap (lay blC wdC w)) ≤ 2 * lenSum ps + w * ps.length ∧ (ps.flatMap (lay blC wdC w)).length ≤ lenSum ps + ps.length
  | [] => by simp [sumV, lenSum]
  | p :: ps => by
    have ih := flat_sum w hw ps
    have h1 := sum_lay w hw p.length p (Nat.le_refl _)
    have h2 := lay_len w p.length p (Nat.le_refl _)
    rw [List.flatMap_cons, sum_append, lenSum_cons, List.length_append, List.length_cons]
    have e : w * (ps.length + 1) = w * ps.length + w := by rw [Nat.mul_add, Nat.mul_one]
    omega
/-- All of it stays small. -/
theorem lines_small (w : Nat) (hw : 2 ≤ w) (hw4 : w ≤ 400) (l : List LnC) (h : smallB l = true) : sumV (linesV blC wdC w l) ≤ 32000 ∧ (linesV blC wdC w l).length ≤ 3700 ∧ sumV l ≤ 3600 := by
  obtain ⟨h1, h2⟩ := (small_iff l).1 h
  have hs : sumV l ≤ 60 * l.length := by
    clear h h1
    induction l with
    | nil => simp [sumV]
    | cons a r ih =>
      have ha := h2 0 (by simp)
      have := ih fun k hk => by
        have := h2 (k + 1) (by simpa using hk)
        simpa using this
      rw [sum_cons, List.length_cons]
      simp at ha
      omega
  have hf := flat_sum w hw (paras blC l)
  have hp := paras_sum l []
  rw [List.length_nil] at hp
  have hc := paras_count l []
  have e1 : (paras blC l).length ≤ 60 := Nat.le_trans hc h1
  have e2 : lenSum (paras blC l) ≤ sumV l := by rw [Nat.zero_add] at hp; exact hp
  have e3 : w * (paras blC l).length ≤ 400 * 60 := Nat.mul_le_mul hw4 e1
  have e4 : 60 * l.length ≤ 3600 := by omega
  exact ⟨Nat.le_trans hf.1 (by omega), Nat.le_trans hf.2 (by omega), by omega⟩
end Go.Proofs.Ytifolcfnknlmdaa.Re
