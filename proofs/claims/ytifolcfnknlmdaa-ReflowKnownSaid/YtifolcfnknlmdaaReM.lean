/- Layer 15: lines of another width, plain: paragraphs, a paragraph at a width, places. Over any cells: bl the plain blank, wd those that are the first half of a wide one. -/
set_option linter.unusedVariables false
set_option linter.unusedSectionVars false
namespace Go.Proofs.Ytifolcfnknlmdaa.Re

structure Ln (α : Type) where
  cells : List α
  joined : Bool
  short : Bool
  deriving DecidableEq

section
variable {α : Type} [DecidableEq α] (bl : α) (wd : α → Bool)
/-- The cells that a line counts. -/
def cnt (l : Ln α) : List α := if l.joined && l.short then l.cells.dropLast else l.cells
def trim (cs : List α) : List α := (cs.reverse.dropWhile fun c => decide (c = bl)).reverse
/-- Paragraphs, acc being what the open one has. -/
def parasA (acc : List α) : List (Ln α) → List (List α)
  | [] => []
  | [l] => [trim bl (acc ++ cnt l)]
  | l :: l' :: r => if l.joined then parasA (acc ++ cnt l) (l' :: r) else trim bl (acc ++ cnt l) :: parasA [] (l' :: r)
def paras (l : List (Ln α)) : List (List α) := parasA bl [] l
/-- A paragraph at a width. -/
def lay (w : Nat) (cs : List α) : List (Ln α) :=
  if h : 2 ≤ w ∧ w ≤ cs.length ∧ wd (cs.getD (w - 1) bl) = true then ⟨cs.take (w - 1) ++ [bl], true, true⟩ :: lay w (cs.drop (w - 1))
  else if h2 : 2 ≤ w ∧ w < cs.length then ⟨cs.take w, true, false⟩ :: lay w (cs.drop w)
  else [⟨cs ++ List.replicate (w - cs.length) bl, false, false⟩]
termination_by cs.length
decreasing_by
  all_goals simp only [List.length_drop]; omega
def linesV (w : Nat) (l : List (Ln α)) : List (Ln α) := (paras bl l).flatMap (lay bl wd w)

theorem trim_blanks (cs : List α) : ∀ k, trim bl (cs ++ List.replicate k bl) = trim bl cs := by
  intro k
  induction k with
  | zero => simp
  | succ k ih =>
    rw [List.replicate_succ', ← List.append_assoc]
    unfold trim at ih ⊢
    rw [List.reverse_append, List.reverse_singleton, List.singleton_append, List.dropWhile_cons_of_pos (by simp)]
    exact ih
theorem dropWhile_twice {β : Type} (p : β → Bool) : ∀ l : List β, (l.dropWhile p).dropWhile p = l.dropWhile p
  | [] => rfl
  | b :: l => by
    by_cases h : p b = true
    · rw [List.dropWhile_cons_of_pos h]; exact dropWhile_twice p l
    · rw [List.dropWhile_cons_of_neg h, List.dropWhile_cons_of_neg h]
theorem trim_twice (cs : List α) : trim bl (trim bl cs) = trim bl cs := by
  unfold trim
  rw [List.reverse_reverse, dropWhile_twice]
theorem lay_ne (w : Nat) (cs : List α) : lay bl wd w cs ≠ [] := by
  unfold lay
  split
  · simp
  · split <;> simp
theorem parasA_joined (acc : List α) (l : Ln α) (r : List (Ln α)) (hj : l.joined = true) (hr : r ≠ []) : parasA bl acc (l :: r) = parasA bl (acc ++ cnt l) r := by
  cases r with
  | nil => exact absurd rfl hr
  | cons l' r => rw [parasA, if_pos hj]
theorem parasA_last (acc : List α) (l : Ln α) (r : List (Ln α)) (hj : l.joined = false) : parasA bl acc (l :: r) = trim bl (acc ++ cnt l) :: parasA bl [] r := by
  cases r with
  | nil => rfl
  | cons l' r => rw [parasA, if_neg (by simp [hj])]
/-- A paragraph at a width is that paragraph again. -/
theorem parasA_lay (w : Nat) (r : List (Ln α)) : ∀ n cs acc, cs.length ≤ n → parasA bl acc (lay bl wd w cs ++ r) = trim bl (acc ++ cs) :: parasA bl [] r := by
  intro n
  induction n with
  | zero =>
    intro cs acc hn
    unfold lay
    rw [dif_neg (by omega), dif_neg (by omega), List.singleton_append, parasA_last bl _ _ _ rfl]
    simp only [cnt, Bool.false_and, Bool.false_eq_true, if_false]
    rw [← List.append_assoc, trim_blanks]
  | succ n ih =>
    intro cs acc hn
    unfold lay
    split
    · rename_i h
      rw [List.cons_append, parasA_joined bl _ _ _ rfl (by intro e; exact lay_ne bl wd w _ (List.append_eq_nil_iff.1 e).1), ih _ _ (by rw [List.length_drop]; omega)]
      simp only [cnt, Bool.and_self, if_true]
      rw [List.dropLast_concat, List.append_assoc, List.take_append_drop]
    · split
      · rename_i h
        rw [List.cons_append, parasA_joined bl _ _ _ rfl (by intro e; exact lay_ne bl wd w _ (List.append_eq_nil_iff.1 e).1), ih _ _ (by rw [List.length_drop]; omega)]
        simp only [cnt, Bool.and_false, Bool.false_eq_true, if_false]
        rw [List.append_assoc, List.take_append_drop]
      · rw [List.singleton_append, parasA_last bl _ _ _ rfl]
        simp only [cnt, Bool.false_and, Bool.false_eq_true, if_false]
        rw [← List.append_assoc, trim_blanks]
theorem paras_lays (w : Nat) : ∀ ps : List (List α), paras bl (ps.flatMap (lay bl wd w)) = ps.map (trim bl)
  | [] => rfl
  | p :: ps => by
    have ih := paras_lays w ps
    unfold paras at ih ⊢
    rw [List.flatMap_cons, parasA_lay bl wd w _ p.length p [] (Nat.le_refl _), ih]
    rfl
theorem paras_trim : ∀ (l : List (Ln α)) (acc : List α), (parasA bl acc l).map (trim bl) = parasA bl acc l
  | [], _ => rfl
  | [l], acc => by simp [parasA, trim_twice]
  | l :: l' :: r, acc => by
    rw [parasA]
    split
    · exact paras_trim (l' :: r) _
    · rw [List.map_cons, trim_twice, paras_trim (l' :: r) []]
/-- The stage's theorem: paragraphs are the same at each width, so lines brought from one to another are as if they had come there at once. -/
theorem paras_lines (w : Nat) (l : List (Ln α)) : paras bl (linesV bl wd w l) = paras bl l := by
  unfold linesV
  rw [paras_lays]
  exact paras_trim bl l []
theorem lines_twice (w v : Nat) (l : List (Ln α)) : linesV bl wd v (linesV bl wd w l) = linesV bl wd v l := by
  show (paras bl (linesV bl wd w l)).flatMap _ = _
  rw [paras_lines]
  rfl
/-- All have the width; one that is Short is Joined, ends in a blank, and a first half begins the next one. -/
def LineOk (w : Nat) (a : Ln α) (next : Option (Ln α)) : Prop := a.cells.length = w ∧ (a.short = true → a.joined = true ∧ a.cells[w - 1]? = some bl ∧ ∃ b c r, next = some b ∧ b.cells = c :: r ∧ wd c = true)
theorem lay_head' (w : Nat) (hw : 2 ≤ w) (c : α) (r : List α) : ∃ b rest t, lay bl wd w (c :: r) = b :: rest ∧ b.cells = c :: t := by
  unfold lay
  split
  · refine ⟨_, _, (r.take (w - 2)) ++ [bl], rfl, ?_⟩
    show (c :: r).take (w - 1) ++ [bl] = _
    rw [show w - 1 = (w - 2) + 1 by omega, List.take_succ_cons]
    rfl
  · split
    · refine ⟨_, _, r.take (w - 1), rfl, ?_⟩
      show (c :: r).take w = _
      rw [show w = (w - 1) + 1 by omega, List.take_succ_cons]
      rfl
    · exact ⟨_, _, _, rfl, rfl⟩
theorem lay_ok (w : Nat) (hw : 2 ≤ w) : ∀ n cs, cs.length ≤ n → ∀ k a, (lay bl wd w cs)[k]? = some a → LineOk bl wd w a (lay bl wd w cs)[k + 1]? := by
  intro n
  induction n with
  | zero =>
    intro cs hn k a ha
    unfold lay at ha
    rw [dif_neg (by omega), dif_neg (by omega)] at ha
    cases k with
    | zero =>
      simp only [List.getElem?_cons_zero, Option.some.injEq] at ha
      subst ha
      exact ⟨by simp; omega, fun h => by simp at h⟩
    | succ k => simp at ha
  | succ n ih =>
    intro cs hn k a ha
    by_cases h1 : 2 ≤ w ∧ w ≤ cs.length ∧ wd (cs.getD (w - 1) bl) = true
    · have e : lay bl wd w cs = ⟨cs.take (w - 1) ++ [bl], true, true⟩ :: lay bl wd w (cs.drop (w - 1)) := by rw [lay, dif_pos h1]
      rw [e] at ha ⊢
      cases k with
      | zero =>
        simp only [List.getElem?_cons_zero, Option.some.injEq] at ha
        subst ha
        refine ⟨by simp; omega, fun _ => ⟨rfl, ?_, ?_⟩⟩
        · show (cs.take (w - 1) ++ [bl])[w - 1]? = _
          rw [List.getElem?_append_right (by simp; omega)]
          have : w - 1 - (cs.take (w - 1)).length = 0 := by simp; omega
          rw [this]; rfl
        · have hlt : w - 1 < cs.length := by omega
          have hd : cs.drop (w - 1) = cs.getD (w - 1) bl :: cs.drop w := by
            rw [List.drop_eq_getElem_cons hlt, show w - 1 + 1 = w by omega, List.getD_eq_getElem?_getD, List.getElem?_eq_getElem hlt]
            rfl
          rw [hd, List.getElem?_cons_succ]
          obtain ⟨b, rest, t, hl, hb⟩ := lay_head' bl wd w hw (cs.getD (w - 1) bl) (cs.drop w)
          rw [hl]
          exact ⟨b, _, _, rfl, hb, h1.2.2⟩
      | succ k =>
        rw [List.getElem?_cons_succ] at ha ⊢
        exact ih _ (by rw [List.length_drop]; omega) k a ha
    · by_cases h2 : 2 ≤ w ∧ w < cs.length
      · have e : lay bl wd w cs = ⟨cs.take w, true, false⟩ :: lay bl wd w (cs.drop w) := by rw [lay, dif_neg h1, dif_pos h2]
        rw [e] at ha ⊢
        cases k with
        | zero =>
          simp only [List.getElem?_cons_zero, Option.some.injEq] at ha
          subst ha
          exact ⟨by simp; omega, fun h => by simp at h⟩
        | succ k =>
          rw [List.getElem?_cons_succ] at ha ⊢
          exact ih _ (by rw [List.length_drop]; omega) k a ha
      · have e : lay bl wd w cs = [⟨cs ++ List.replicate (w - cs.length) bl, false, false⟩] := by rw [lay, dif_neg h1, dif_neg h2]
        rw [e] at ha ⊢
        cases k with
        | zero =>
          simp only [List.getElem?_cons_zero, Option.some.injEq] at ha
          subst ha
          exact ⟨by simp; omega, fun h => by simp at h⟩
        | succ k => simp at ha
/-- Where the i-th cell of a paragraph stands: its column, its line. -/
def pos (w : Nat) (cs : List α) (i : Nat) : Nat × Nat :=
  if h : 2 ≤ w ∧ w ≤ cs.length ∧ wd (cs.getD (w - 1) bl) = true then (if i < w - 1 then (i, 0) else let q := pos w (cs.drop (w - 1)) (i - (w - 1)); (q.1, q.2 + 1))
  else if h2 : 2 ≤ w ∧ w < cs.length then (if i < w then (i, 0) else let q := pos w (cs.drop w) (i - w); (q.1, q.2 + 1))
  else (i, 0)
termination_by cs.length
decreasing_by
  all_goals simp only [List.length_drop]; omega
/-- On that cell it is. -/
theorem pos_cell (w : Nat) (hw : 2 ≤ w) : ∀ n cs i, cs.length ≤ n → i < cs.length → ∃ a, (lay bl wd w cs)[(pos bl wd w cs i).2]? = some a ∧ a.cells[(pos bl wd w cs i).1]? = cs[i]? ∧ (pos bl wd w cs i).1 < w := by
  intro n
  induction n with
  | zero => intro cs i hn hi; omega
  | succ n ih =>
    intro cs i hn hi
    rw [lay, pos]
    split
    · rename_i h
      split
      · exact ⟨_, rfl, by rw [List.getElem?_append_left (by simp; omega), List.getElem?_take, if_pos (by assumption)], by dsimp only; omega⟩
      · obtain ⟨a, h1, h2, h3⟩ := ih (cs.drop (w - 1)) (i - (w - 1)) (by rw [List.length_drop]; omega) (by rw [List.length_drop]; omega)
        refine ⟨a, by rw [List.getElem?_cons_succ]; exact h1, ?_, h3⟩
        rw [h2, List.getElem?_drop]
        congr 1
        omega
    · split
      · rename_i h
        split
        · exact ⟨_, rfl, by rw [List.getElem?_take, if_pos (by assumption)], by dsimp only; omega⟩
        · obtain ⟨a, h1, h2, h3⟩ := ih (cs.drop w) (i - w) (by rw [List.length_drop]; omega) (by rw [List.length_drop]; omega)
          refine ⟨a, by rw [List.getElem?_cons_succ]; exact h1, ?_, h3⟩
          rw [h2, List.getElem?_drop]
          congr 1
          omega
      · exact ⟨_, rfl, by rw [List.getElem?_append_left hi], by dsimp only; omega⟩
end
end Go.Proofs.Ytifolcfnknlmdaa.Re
