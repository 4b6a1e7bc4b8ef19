/- Layer 15: what ReflowWidth's walk needs (plain). -/
import Derived.Test.YtifolcfnknlmdaaReLt
import Derived.Test.YtifolcfnknlmdaaReN
set_option linter.unusedVariables false
namespace Go.Proofs.Ytifolcfnknlmdaa.Re
open Go.RowKit Go.Proofs.Ytifolcfnknlmdaa.Rw

theorem ok_none {w : Nat} {a : LnC} {o : Option LnC} (h : LineOk blC wdC w a none) : LineOk blC wdC w a o := ⟨h.1, fun hs => by
  obtain ⟨_, _, b, c, r, e, _⟩ := h.2 hs
  cases e⟩
theorem flat_ok (w : Nat) (hw : 2 ≤ w) : ∀ (ps : List (List Ce)) (k : Nat) (a : LnC), (ps.flatMap (lay blC wdC w))[k]? = some a → LineOk blC wdC w a (ps.flatMap (lay blC wdC w))[k + 1]?
  | [], k, a, h => by simp at h
  | p :: ps, k, a, h => by
    rw [List.flatMap_cons] at h ⊢
    by_cases hk : k < (lay blC wdC w p).length
    · rw [List.getElem?_append_left hk] at h
      have h1 := lay_ok blC wdC w hw p.length p (Nat.le_refl _) k a h
      by_cases hk2 : k + 1 < (lay blC wdC w p).length
      · rw [List.getElem?_append_left hk2]
        exact h1
      · rw [List.getElem?_eq_none (by omega : (lay blC wdC w p).length ≤ k + 1)] at h1
        exact ok_none h1
    · rw [List.getElem?_append_right (by omega)] at h
      have h1 := flat_ok w hw ps (k - (lay blC wdC w p).length) a h
      rw [List.getElem?_append_right (by omega), show k + 1 - (lay blC wdC w p).length = k - (lay blC wdC w p).length + 1 by omega]
      exact h1
theorem lay_last (w : Nat) : ∀ n (cs : List Ce), cs.length ≤ n → ∃ t a, lay blC wdC w cs = t ++ [a] ∧ a.joined = false := by
  intro n
  induction n with
  | zero =>
    intro cs hn
    rw [lay, dif_neg (by omega), dif_neg (by omega)]
    exact ⟨[], _, rfl, rfl⟩
  | succ n ih =>
    intro cs hn
    rw [lay]
    split
    · rename_i h
      obtain ⟨t, a, e, hj⟩ := ih (cs.drop (w - 1)) (by rw [List.length_drop]; omega)
      exact ⟨_ :: t, a, by rw [e]; rfl, hj⟩
    · split
      · rename_i h
        obtain ⟨t, a, e, hj⟩ := ih (cs.drop w) (by rw [List.length_drop]; omega)
        exact ⟨_ :: t, a, by rw [e]; rfl, hj⟩
      · exact ⟨[], _, rfl, rfl⟩
theorem flat_last (w : Nat) : ∀ (ps : List (List Ce)), ps ≠ [] → ∃ t a, ps.flatMap (lay blC wdC w) = t ++ [a] ∧ a.joined = false
  | [], h => absurd rfl h
  | [p], _ => by
    rw [List.flatMap_cons, List.flatMap_nil, List.append_nil]
    exact lay_last w p.length p (Nat.le_refl _)
  | p :: q :: ps, _ => by
    obtain ⟨t, a, e, hj⟩ := flat_last w (q :: ps) (by simp)
    exact ⟨lay blC wdC w p ++ t, a, by rw [List.flatMap_cons, e, List.append_assoc], hj⟩
theorem paras_ne (l : List LnC) (h : l ≠ []) : paras blC l ≠ [] := fun e => by
  obtain ⟨t, ht⟩ := paras_hd l [] h
  unfold paras at e
  rw [e] at ht
  cases ht
/-- What the law asks of the lines. -/
structure WOk (M : List LnC) (W : Nat) : Prop where
  wid : ∀ k, k < M.length → (M.getD k noLn).cells.length = W
  whole : ∀ k, k < M.length → wholeB (M.getD k noLn).cells = true
  short : ∀ k, k < M.length → (M.getD k noLn).short = true → (M.getD k noLn).joined = true ∧ cellV (M.getD k noLn).cells (W - 1) = blC ∧ k + 1 < M.length ∧ (cellV (M.getD (k + 1) noLn).cells 0).w = 1
theorem getD_some {M : List LnC} {k : Nat} (h : k < M.length) : M[k]? = some (M.getD k noLn) := by
  rw [List.getD_eq_getElem?_getD, List.getElem?_eq_getElem h]
  rfl
theorem lines_wok (W : Nat) (h2 : 2 ≤ W) (l : List LnC) (hl : ∀ a ∈ l, wholeB (cnt a) = true) : WOk (linesV blC wdC W l) W := by
  refine ⟨fun k hk => line_width W h2 l _ (List.mem_of_getElem? (getD_some hk)), fun k hk => lines_whole W h2 l hl _ (List.mem_of_getElem? (getD_some hk)), fun k hk hs => ?_⟩
  obtain ⟨h1, h3⟩ := flat_ok W h2 (paras blC l) k _ (getD_some hk)
  obtain ⟨h4, h5, b, c, r, h6, h7, h8⟩ := h3 hs
  have h6 : (linesV blC wdC W l)[k + 1]? = some b := h6
  have hk1 := (List.getElem?_eq_some_iff.1 h6).1
  refine ⟨h4, cell_get h5, hk1, ?_⟩
  have : (linesV blC wdC W l).getD (k + 1) noLn = b := by rw [List.getD_eq_getElem?_getD, h6]; rfl
  rw [this, h7]
  have : cellV (c :: r) 0 = c := rfl
  rw [this]
  simpa [wdC] using h8
theorem lines_last (W : Nat) (l : List LnC) (h : l ≠ []) : ∃ m, (linesV blC wdC W l).length = m + 1 ∧ ((linesV blC wdC W l).getD m noLn).joined = false := by
  obtain ⟨t, a, e, hj⟩ := flat_last W (paras blC l) (paras_ne l h)
  have e : linesV blC wdC W l = t ++ [a] := e
  refine ⟨t.length, by rw [e]; simp, ?_⟩
  rw [e, List.getD_eq_getElem?_getD, List.getElem?_append_right (Nat.le_refl _), Nat.sub_self]
  exact hj
end Go.Proofs.Ytifolcfnknlmdaa.Re
