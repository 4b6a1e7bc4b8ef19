/- Layer 15: a paragraph at a width, cell by cell (the document's way), is the one of ReM; where each cell stands. Plain. Layer 15: what is whole stays whole at each width (plain; cells of layer 11). Layer 15: where a place is at another width (plain), and that it is on its cell. Layer 15: where paragraphs begin, and the document's road to a place (plain). -/
import Derived.Test.YtifolcfnknlmdaaReM
import Derived.Test.YtifolcfnknlmdaaRwM
/-! ## Layer 15: a paragraph at a width, cell by cell (the document's way), is the one of ReM; where each cell stands. Plain. -/
set_option linter.unusedVariables false
set_option linter.unusedSectionVars false
namespace Go.Proofs.Ytifolcfnknlmdaa.Re
section
variable {α : Type} [DecidableEq α] (bl : α) (wd : α → Bool)
/-- One cell more: the lines that are done, the one that is open. -/
def step (w : Nat) (st : List (Ln α) × List α) (c : α) : List (Ln α) × List α :=
  if st.2.length = w - 1 ∧ wd c = true then (st.1 ++ [⟨st.2 ++ [bl], true, true⟩], [c])
  else if st.2.length = w then (st.1 ++ [⟨st.2, true, false⟩], [c])
  else (st.1, st.2 ++ [c])
/-- The open line may go on. -/
def Open (w : Nat) (cur : List α) : Prop := cur.length ≤ w ∧ (cur.length = w → wd (cur.getD (w - 1) bl) = false)
theorem open_nil (w : Nat) (hw : 2 ≤ w) : Open bl wd w [] := ⟨Nat.zero_le _, fun h => by simp at h; omega⟩
theorem open_one (w : Nat) (hw : 2 ≤ w) (c : α) : Open bl wd w [c] := ⟨by simp; omega, fun h => by simp at h; omega⟩
theorem getD_at (a : List α) (c : α) (r : List α) : (a ++ c :: r).getD a.length bl = c := by
  rw [List.getD_eq_getElem?_getD, List.getElem?_append_right (Nat.le_refl _), Nat.sub_self]
  rfl
theorem open_more (w : Nat) (hw : 2 ≤ w) (cur : List α) (c : α) (h : Open bl wd w cur) (h1 : ¬ (cur.length = w - 1 ∧ wd c = true)) (h2 : ¬ cur.length = w) : Open bl wd w (cur ++ [c]) := by
  have hl : (cur ++ [c]).length = cur.length + 1 := by simp
  refine ⟨by have := h.1; omega, fun e => ?_⟩
  have hc : cur.length = w - 1 := by omega
  rw [← hc, getD_at bl cur c []]
  cases hx : wd c with
  | true => exact absurd ⟨hc, hx⟩ h1
  | false => rfl
theorem lay_short (w : Nat) (hw : 2 ≤ w) (cur : List α) (c : α) (r : List α) (h1 : cur.length = w - 1) (h2 : wd c = true) : lay bl wd w (cur ++ c :: r) = ⟨cur ++ [bl], true, true⟩ :: lay bl wd w (c :: r) := by
  rw [lay, dif_pos ⟨hw, by simp; omega, by rw [← h1, getD_at]; exact h2⟩, ← h1, List.take_left, List.drop_left]
theorem getD_left (a b : List α) (k : Nat) (h : k < a.length) : (a ++ b).getD k bl = a.getD k bl := by
  rw [List.getD_eq_getElem?_getD, List.getD_eq_getElem?_getD, List.getElem?_append_left h]
theorem lay_full (w : Nat) (hw : 2 ≤ w) (cur : List α) (c : α) (r : List α) (h1 : cur.length = w) (h2 : wd (cur.getD (w - 1) bl) = false) : lay bl wd w (cur ++ c :: r) = ⟨cur, true, false⟩ :: lay bl wd w (c :: r) := by
  have hg : ¬ wd ((cur ++ c :: r).getD (w - 1) bl) = true := by rw [getD_left bl _ _ _ (by omega), h2]; simp
  rw [lay, dif_neg (fun h => hg h.2.2), dif_pos ⟨hw, by simp; omega⟩]
  rw [← h1, List.take_left, List.drop_left]
theorem lay_one (w : Nat) (cur : List α) (h : Open bl wd w cur) : lay bl wd w cur = [⟨cur ++ List.replicate (w - cur.length) bl, false, false⟩] := by
  have h1 := h.1
  rw [lay, dif_neg (fun e => by have := h.2 (by omega); rw [this] at e; exact absurd e.2.2 (by simp)), dif_neg (by omega)]
/-- All cells handed on, the open line filled up: the paragraph at that width. -/
theorem fold_lay (w : Nat) (hw : 2 ≤ w) : ∀ (cells : List α) (done : List (Ln α)) (cur : List α), Open bl wd w cur →
    Open bl wd w (cells.foldl (step bl wd w) (done, cur)).2 ∧ (cells.foldl (step bl wd w) (done, cur)).1 ++ [⟨(cells.foldl (step bl wd w) (done, cur)).2 ++ List.replicate (w - (cells.foldl (step bl wd w) (done, cur)).2.length) bl, false, false⟩] = done ++ lay bl wd w (cur ++ cells)
  | [], done, cur, h => by
    refine ⟨h, ?_⟩
    rw [List.append_nil, lay_one bl wd w cur h]
    rfl
  | c :: cells, done, cur, h => by
    rw [List.foldl_cons]
    by_cases h1 : cur.length = w - 1 ∧ wd c = true
    · have e : step bl wd w (done, cur) c = (done ++ [⟨cur ++ [bl], true, true⟩], [c]) := if_pos h1
      rw [e]
      have ih := fold_lay w hw cells (done ++ [⟨cur ++ [bl], true, true⟩]) [c] (open_one bl wd w hw c)
      refine ⟨ih.1, ih.2.trans ?_⟩
      rw [lay_short bl wd w hw cur c cells h1.1 h1.2, List.append_assoc]
      rfl
    · by_cases h2 : cur.length = w
      · have e : step bl wd w (done, cur) c = (done ++ [⟨cur, true, false⟩], [c]) := by
          show (if _ then _ else _) = _
          rw [if_neg h1, if_pos h2]
        rw [e]
        have ih := fold_lay w hw cells (done ++ [⟨cur, true, false⟩]) [c] (open_one bl wd w hw c)
        refine ⟨ih.1, ih.2.trans ?_⟩
        rw [lay_full bl wd w hw cur c cells h2 (h.2 h2), List.append_assoc]
        rfl
      · have e : step bl wd w (done, cur) c = (done, cur ++ [c]) := by
          show (if _ then _ else _) = _
          rw [if_neg h1, if_neg h2]
        rw [e]
        have ih := fold_lay w hw cells done (cur ++ [c]) (open_more bl wd w hw cur c h h1 h2)
        refine ⟨ih.1, ih.2.trans ?_⟩
        rw [List.append_assoc]
        rfl

/-! ### where a cell stands -/
theorem pos_short (w : Nat) (hw : 2 ≤ w) (cur : List α) (c : α) (r : List α) (h1 : cur.length = w - 1) (h2 : wd c = true) (i : Nat) (hi : w - 1 ≤ i) : pos bl wd w (cur ++ c :: r) i = ((pos bl wd w (c :: r) (i - (w - 1))).1, (pos bl wd w (c :: r) (i - (w - 1))).2 + 1) := by
  rw [pos, dif_pos ⟨hw, by simp; omega, by rw [← h1, getD_at]; exact h2⟩, if_neg (by omega)]
  have hd : (cur ++ c :: r).drop (w - 1) = c :: r := by rw [← h1, List.drop_left]
  rw [hd]
theorem pos_full (w : Nat) (hw : 2 ≤ w) (cur : List α) (c : α) (r : List α) (h1 : cur.length = w) (h2 : wd (cur.getD (w - 1) bl) = false) (i : Nat) (hi : w ≤ i) : pos bl wd w (cur ++ c :: r) i = ((pos bl wd w (c :: r) (i - w)).1, (pos bl wd w (c :: r) (i - w)).2 + 1) := by
  have hg : ¬ wd ((cur ++ c :: r).getD (w - 1) bl) = true := by rw [getD_left bl _ _ _ (by omega), h2]; simp
  rw [pos, dif_neg (fun h => hg h.2.2), dif_pos ⟨hw, by simp; omega⟩, if_neg (by omega)]
  have hd : (cur ++ c :: r).drop w = c :: r := by rw [← h1, List.drop_left]
  rw [hd]
theorem pos_small (w : Nat) (hw : 2 ≤ w) (cs : List α) (i : Nat) (h1 : i < w) (h2 : ¬ (i = w - 1 ∧ wd (cs.getD i bl) = true)) : pos bl wd w cs i = (i, 0) := by
  rw [pos]
  split
  · rename_i h
    rw [if_pos (by
      by_cases e : i = w - 1
      · exact absurd ⟨e, by rw [e]; exact h.2.2⟩ h2
      · omega)]
  · split
    · first | rfl | rw [if_pos h1]
    · rfl
/-- Behind the cells l the last one of them stands at the open line's end. -/
theorem fold_pos (w : Nat) (hw : 2 ≤ w) : ∀ (l : List α) (done : List (Ln α)) (cur post : List α), Open bl wd w cur → l ≠ [] →
    (pos bl wd w (cur ++ (l ++ post)) (cur.length + l.length - 1)).1 + 1 = (l.foldl (step bl wd w) (done, cur)).2.length ∧ (pos bl wd w (cur ++ (l ++ post)) (cur.length + l.length - 1)).2 + done.length = (l.foldl (step bl wd w) (done, cur)).1.length
  | [], _, _, _, _, h => absurd rfl h
  | c :: l, done, cur, post, h, _ => by
    rw [List.foldl_cons, List.cons_append, List.length_cons]
    have hz : pos bl wd w (c :: (l ++ post)) 0 = (0, 0) := pos_small bl wd w hw _ 0 (by omega) (by omega)
    by_cases h1 : cur.length = w - 1 ∧ wd c = true
    · have e : step bl wd w (done, cur) c = (done ++ [⟨cur ++ [bl], true, true⟩], [c]) := if_pos h1
      rw [e, pos_short bl wd w hw cur c (l ++ post) h1.1 h1.2 _ (by omega)]
      by_cases hl : l = []
      · subst hl
        have e0 : cur.length + (([] : List α).length + 1) - 1 - (w - 1) = 0 := by simp; omega
        rw [e0, hz]
        simp; omega
      · have ih := fold_pos w hw l (done ++ [⟨cur ++ [bl], true, true⟩]) [c] post (open_one bl wd w hw c) hl
        have hi : cur.length + (l.length + 1) - 1 - (w - 1) = [c].length + l.length - 1 := by simp; omega
        rw [hi]
        have e2 : [c] ++ (l ++ post) = c :: (l ++ post) := rfl
        rw [e2] at ih
        refine ⟨ih.1, ?_⟩
        have := ih.2
        have hdl : (done ++ [(⟨cur ++ [bl], true, true⟩ : Ln α)]).length = done.length + 1 := by simp
        rw [hdl] at this
        dsimp only
        omega
    · by_cases h2 : cur.length = w
      · have e : step bl wd w (done, cur) c = (done ++ [⟨cur, true, false⟩], [c]) := by
          show (if _ then _ else _) = _
          rw [if_neg h1, if_pos h2]
        rw [e, pos_full bl wd w hw cur c (l ++ post) h2 (h.2 h2) _ (by omega)]
        by_cases hl : l = []
        · subst hl
          have e0 : cur.length + (([] : List α).length + 1) - 1 - w = 0 := by simp; omega
          rw [e0, hz]
          simp; omega
        · have ih := fold_pos w hw l (done ++ [⟨cur, true, false⟩]) [c] post (open_one bl wd w hw c) hl
          have hi : cur.length + (l.length + 1) - 1 - w = [c].length + l.length - 1 := by simp; omega
          rw [hi]
          have e2 : [c] ++ (l ++ post) = c :: (l ++ post) := rfl
          rw [e2] at ih
          refine ⟨ih.1, ?_⟩
          have := ih.2
          have hdl : (done ++ [(⟨cur, true, false⟩ : Ln α)]).length = done.length + 1 := by simp
          rw [hdl] at this
          dsimp only
          omega
      · have e : step bl wd w (done, cur) c = (done, cur ++ [c]) := by
          show (if _ then _ else _) = _
          rw [if_neg h1, if_neg h2]
        rw [e]
        by_cases hl : l = []
        · subst hl
          have e0 : cur.length + (([] : List α).length + 1) - 1 = cur.length := by simp
          have hp : pos bl wd w (cur ++ c :: ([] ++ post)) cur.length = (cur.length, 0) := pos_small bl wd w hw _ _ (by have := h.1; omega) (by rw [getD_at]; exact h1)
          rw [e0, hp]
          simp
        · have ih := fold_pos w hw l done (cur ++ [c]) post (open_more bl wd w hw cur c h h1 h2) hl
          have hi : (cur ++ [c]).length + l.length - 1 = cur.length + (l.length + 1) - 1 := by rw [List.length_append, List.length_singleton]; omega
          have e2 : (cur ++ [c]) ++ (l ++ post) = cur ++ c :: (l ++ post) := by rw [List.append_assoc]; rfl
          rw [hi, e2] at ih
          exact ih
end
end Go.Proofs.Ytifolcfnknlmdaa.Re

/-! ## Layer 15: what is whole stays whole at each width (plain; cells of layer 11). -/
set_option linter.unusedVariables false
namespace Go.Proofs.Ytifolcfnknlmdaa.Re
open Go.Proofs.Ytifolcfnknlmdaa.Rw

/-- The plain blank; the first half of a wide character. -/
def blC : Ce := blankC zeroAa
def wdC (c : Ce) : Bool := c.w == 1
abbrev LnC := Ln Ce
theorem getD_wide (cs : List Ce) (i : Nat) (hi : i < cs.length) : wdC (cs.getD i blC) = (wideV cs i == 1) := by
  unfold wideV cellV
  rw [List.getD_eq_getElem?_getD, List.getD_eq_getElem?_getD, List.getElem?_eq_getElem hi]
  rfl
theorem split_at {cs : List Ce} (h : wholeB cs = true) (x : Nat) (hx : wideV cs x ≠ 2) : wholeB (cs.take x) = true ∧ wholeB (cs.drop x) = true := by
  obtain ⟨h1, h2⟩ := split_run h x
  have e : (wideV cs x == 2) = false := by simpa using hx
  rw [e] at h1 h2
  exact ⟨whole_iff.2 h1, whole_iff.2 h2⟩
theorem trim_form (cs : List Ce) : ∃ k, cs = trim blC cs ++ List.replicate k blC := by
  have h : ∀ l : List Ce, ∃ k, l = List.replicate k blC ++ l.dropWhile fun c => decide (c = blC) := by
    intro l
    induction l with
    | nil => exact ⟨0, rfl⟩
    | cons c l ih =>
      by_cases hc : c = blC
      · obtain ⟨k, hk⟩ := ih
        refine ⟨k + 1, ?_⟩
        rw [List.dropWhile_cons_of_pos (by simpa using hc), List.replicate_succ, List.cons_append, ← hk, hc]
      · refine ⟨0, ?_⟩
        rw [List.dropWhile_cons_of_neg (by simpa using hc)]
        rfl
  obtain ⟨k, hk⟩ := h cs.reverse
  refine ⟨k, ?_⟩
  have := congrArg List.reverse hk
  rw [List.reverse_reverse, List.reverse_append, List.reverse_replicate] at this
  exact this
theorem trim_whole {cs : List Ce} (h : wholeB cs = true) : wholeB (trim blC cs) = true := by
  obtain ⟨k, hk⟩ := trim_form cs
  generalize trim blC cs = t at *
  subst hk
  have hx : wideV (t ++ List.replicate k blC) t.length ≠ 2 := by
    unfold wideV
    rw [cell_append, if_neg (Nat.lt_irrefl _), Nat.sub_self, cell_rep]
    split <;> simp [blC, blankC, zeroCe]
  have := (split_at h t.length hx).1
  rwa [List.take_left] at this
theorem blank_whole (k : Nat) : wholeB (List.replicate k blC) = true := whole_rep zeroAa k
theorem lay_whole (w : Nat) (hw : 2 ≤ w) : ∀ n (cs : List Ce), cs.length ≤ n → wholeB cs = true → ∀ a ∈ lay blC wdC w cs, wholeB a.cells = true := by
  intro n
  induction n with
  | zero =>
    intro cs hn hc a ha
    rw [lay, dif_neg (by omega), dif_neg (by omega)] at ha
    rw [List.mem_singleton] at ha
    subst ha
    exact whole_append hc (blank_whole _)
  | succ n ih =>
    intro cs hn hc a ha
    by_cases h1 : 2 ≤ w ∧ w ≤ cs.length ∧ wdC (cs.getD (w - 1) blC) = true
    · rw [lay, dif_pos h1] at ha
      have h1w : wideV cs (w - 1) = 1 := by
        have := h1.2.2
        rw [getD_wide cs (w - 1) (by omega)] at this
        simpa using this
      obtain ⟨s1, s2⟩ := split_at hc (w - 1) (by omega)
      rcases List.mem_cons.1 ha with rfl | ha
      · exact whole_append s1 (blank_whole 1)
      · exact ih _ (by rw [List.length_drop]; omega) s2 a ha
    · by_cases h2 : 2 ≤ w ∧ w < cs.length
      · rw [lay, dif_neg h1, dif_pos h2] at ha
        have hx : wideV cs w ≠ 2 := fun e => by
          have h3 := first_of hc (x := w - 1) (by rw [show w - 1 + 1 = w by omega]; exact e) (by omega)
          exact h1 ⟨hw, by omega, by rw [getD_wide cs (w - 1) (by omega), h3]; rfl⟩
        obtain ⟨s1, s2⟩ := split_at hc w hx
        rcases List.mem_cons.1 ha with rfl | ha
        · exact s1
        · exact ih _ (by rw [List.length_drop]; omega) s2 a ha
      · rw [lay, dif_neg h1, dif_neg h2] at ha
        rw [List.mem_singleton] at ha
        subst ha
        exact whole_append hc (blank_whole _)
theorem paras_whole : ∀ (l : List LnC) (acc : List Ce), wholeB acc = true → (∀ a ∈ l, wholeB (cnt a) = true) → ∀ p ∈ parasA blC acc l, wholeB p = true
  | [], _, _, _, p, hp => by cases hp
  | [a], acc, h, hl, p, hp => by
    rw [parasA, List.mem_singleton] at hp
    subst hp
    exact trim_whole (whole_append h (hl a (List.mem_cons_self ..)))
  | a :: b :: r, acc, h, hl, p, hp => by
    rw [parasA] at hp
    split at hp
    · exact paras_whole (b :: r) _ (whole_append h (hl a (List.mem_cons_self ..))) (fun x hx => hl x (List.mem_cons_of_mem _ hx)) p hp
    · rcases List.mem_cons.1 hp with rfl | hp
      · exact trim_whole (whole_append h (hl a (List.mem_cons_self ..)))
      · exact paras_whole (b :: r) [] whole_nil (fun x hx => hl x (List.mem_cons_of_mem _ hx)) p hp
theorem lines_whole (w : Nat) (hw : 2 ≤ w) (l : List LnC) (hl : ∀ a ∈ l, wholeB (cnt a) = true) : ∀ a ∈ linesV blC wdC w l, wholeB a.cells = true := by
  intro a ha
  obtain ⟨p, hp, ha⟩ := List.mem_flatMap.1 ha
  exact lay_whole w hw p.length p (Nat.le_refl _) (paras_whole l [] whole_nil hl p hp) a ha
end Go.Proofs.Ytifolcfnknlmdaa.Re

/-! ## Layer 15: where a place is at another width (plain), and that it is on its cell. -/
set_option linter.unusedVariables false
namespace Go.Proofs.Ytifolcfnknlmdaa.Re
open Go.Proofs.Ytifolcfnknlmdaa.Rw

/-- The first paragraph of lines, acc being what it has already. -/
def paraHd (acc : List Ce) : List LnC → List Ce
  | [] => trim blC acc
  | [a] => trim blC (acc ++ cnt a)
  | a :: b :: r => if a.joined then paraHd (acc ++ cnt a) (b :: r) else trim blC (acc ++ cnt a)
/-- Behind i columns of a paragraph: on the cell there, or behind the last one. -/
def spot (w : Nat) (p : List Ce) (i : Nat) : Nat × Nat :=
  if i < p.length then pos blC wdC w p i
  else (min ((if p.length = 0 then 0 else (pos blC wdC w p (p.length - 1)).1 + 1) + (i - p.length)) (w - 1), (lay blC wdC w p).length - 1)
def placeA (w x : Nat) (acc : List Ce) (down : Nat) : Nat → List LnC → Nat × Nat
  | _, [] => (0, 0)
  | 0, a :: r =>
    let x' := if a.joined = true ∧ r ≠ [] ∧ (cnt a).length < x then (cnt a).length else x
    let q := spot w (paraHd acc (a :: r)) (acc.length + x')
    (q.1, down + q.2)
  | y + 1, a :: r => if a.joined then placeA w x (acc ++ cnt a) down y r else placeA w x [] (down + (lay blC wdC w (trim blC (acc ++ cnt a))).length) y r
def placeV (l : List LnC) (w x y : Nat) : Nat × Nat := placeA w x [] 0 y l

theorem paras_hd : ∀ (l : List LnC) (acc : List Ce), l ≠ [] → ∃ t, parasA blC acc l = paraHd acc l :: t
  | [], _, h => absurd rfl h
  | [a], acc, _ => ⟨[], rfl⟩
  | a :: b :: r, acc, _ => by
    rw [parasA, paraHd]
    split
    · exact paras_hd (b :: r) _ (by simp)
    · exact ⟨_, rfl⟩
theorem hd_more : ∀ (l : List LnC) (acc : List Ce), ∃ m, paraHd acc l = trim blC (acc ++ m)
  | [], acc => ⟨[], by rw [List.append_nil]; rfl⟩
  | [a], acc => ⟨_, rfl⟩
  | a :: b :: r, acc => by
    rw [paraHd]
    split
    · obtain ⟨m, hm⟩ := hd_more (b :: r) (acc ++ cnt a)
      exact ⟨cnt a ++ m, by rw [hm, List.append_assoc]⟩
    · exact ⟨_, rfl⟩
theorem hd_cons (a : LnC) (r : List LnC) (acc : List Ce) : ∃ m, paraHd acc (a :: r) = trim blC (acc ++ cnt a ++ m) := by
  cases r with
  | nil => exact ⟨[], by rw [List.append_nil]; rfl⟩
  | cons b r =>
    rw [paraHd]
    split
    · exact hd_more (b :: r) _
    · exact ⟨[], by rw [List.append_nil]⟩
/-- A cell that is no plain blank is not cut off. -/
theorem trim_keeps (cs : List Ce) (i : Nat) (c : Ce) (h : cs[i]? = some c) (hc : c ≠ blC) : (trim blC cs)[i]? = some c := by
  obtain ⟨k, hk⟩ := trim_form cs
  generalize trim blC cs = t at *
  rw [hk] at h
  by_cases hi : i < t.length
  · rwa [List.getElem?_append_left hi] at h
  · rw [List.getElem?_append_right (by omega), List.getElem?_replicate] at h
    split at h
    · exact absurd (Option.some.inj h).symm hc
    · cases h
theorem spot_in (w : Nat) (hw : 2 ≤ w) (p : List Ce) (i : Nat) : ∃ a, (lay blC wdC w p)[(spot w p i).2]? = some a ∧ (spot w p i).1 < w ∧ (∀ c, p[i]? = some c → a.cells[(spot w p i).1]? = some c) := by
  unfold spot
  by_cases hi : i < p.length
  · rw [if_pos hi]
    obtain ⟨a, h1, h2, h3⟩ := pos_cell blC wdC w hw p.length p i (Nat.le_refl _) hi
    exact ⟨a, h1, h3, fun c hc => h2.trans hc⟩
  · rw [if_neg hi]
    have hn : 0 < (lay blC wdC w p).length := List.length_pos_iff.2 (lay_ne blC wdC w p)
    have hl : (lay blC wdC w p).length - 1 < (lay blC wdC w p).length := by omega
    refine ⟨_, List.getElem?_eq_getElem hl, ?_, fun c hc => ?_⟩
    · dsimp only; omega
    · rw [List.getElem?_eq_none (by omega)] at hc
      cases hc
theorem place_in (w x : Nat) (hw : 2 ≤ w) : ∀ (l : List LnC) (acc : List Ce) (down y : Nat), y < l.length →
    ∃ k a, (placeA w x acc down y l).2 = down + k ∧ ((parasA blC acc l).flatMap (lay blC wdC w))[k]? = some a ∧ (placeA w x acc down y l).1 < w ∧ ∀ b c, l[y]? = some b → (cnt b)[x]? = some c → c ≠ blC → a.cells[(placeA w x acc down y l).1]? = some c
  | [], _, _, _, h => by simp at h
  | a :: r, acc, down, 0, _ => by
    obtain ⟨t, ht⟩ := paras_hd (a :: r) acc (by simp)
    obtain ⟨m, hm⟩ := hd_cons a r acc
    rw [ht, List.flatMap_cons, placeA]
    obtain ⟨x', hx'⟩ : ∃ x', x' = (if a.joined = true ∧ r ≠ [] ∧ (cnt a).length < x then (cnt a).length else x) := ⟨_, rfl⟩
    rw [← hx']
    obtain ⟨b, h1, h2, h3⟩ := spot_in w hw (paraHd acc (a :: r)) (acc.length + x')
    refine ⟨_, b, rfl, ?_, h2, fun b' c hb hc hne => h3 c ?_⟩
    · rw [List.getElem?_append_left]
      · exact h1
      · exact (List.getElem?_eq_some_iff.1 h1).1
    · obtain rfl : a = b' := Option.some.inj hb
      have hlt : x < (cnt a).length := (List.getElem?_eq_some_iff.1 hc).1
      have hx : x' = x := by rw [hx', if_neg (by omega)]
      rw [hm, hx]
      refine trim_keeps _ _ c ?_ hne
      rw [List.append_assoc, List.getElem?_append_right (by omega), show acc.length + x - acc.length = x by omega, List.getElem?_append_left hlt]
      exact hc
  | a :: r, acc, down, y + 1, h => by
    have hy : y < r.length := by simpa using h
    have hr : r ≠ [] := fun e => by rw [e] at hy; simp at hy
    rw [placeA]
    by_cases hj : a.joined = true
    · rw [if_pos hj, parasA_joined blC acc a r hj hr]
      obtain ⟨k, b, h1, h2, h3, h4⟩ := place_in w x hw r (acc ++ cnt a) down y hy
      exact ⟨k, b, h1, h2, h3, fun b' c hb => h4 b' c (by simpa using hb)⟩
    · have hj : a.joined = false := by simpa using hj
      rw [if_neg (by simp [hj]), parasA_last blC acc a r hj, List.flatMap_cons]
      obtain ⟨k, b, h1, h2, h3, h4⟩ := place_in w x hw r [] (down + (lay blC wdC w (trim blC (acc ++ cnt a))).length) y hy
      refine ⟨(lay blC wdC w (trim blC (acc ++ cnt a))).length + k, b, by rw [h1, Nat.add_assoc], ?_, h3, fun b' c hb => h4 b' c (by simpa using hb)⟩
      rw [List.getElem?_append_right (by omega), Nat.add_sub_cancel_left]
      exact h2
/-- A place is one of the lines that there are then, and if it was on a cell that counts, no plain blank, it is on that cell. -/
theorem place_keeps (l : List LnC) (w x y : Nat) (hw : 2 ≤ w) (hy : y < l.length) : ∃ a, (linesV blC wdC w l)[(placeV l w x y).2]? = some a ∧ (placeV l w x y).1 < w ∧ ∀ b c, l[y]? = some b → (cnt b)[x]? = some c → c ≠ blC → a.cells[(placeV l w x y).1]? = some c := by
  obtain ⟨k, a, h1, h2, h3, h4⟩ := place_in w x hw l [] 0 y hy
  refine ⟨a, ?_, h3, h4⟩
  show ((parasA blC [] l).flatMap _)[(placeA w x [] 0 y l).2]? = _
  rw [h1, Nat.zero_add]
  exact h2
end Go.Proofs.Ytifolcfnknlmdaa.Re

/-! ## Layer 15: where paragraphs begin, and the document's road to a place (plain). -/
set_option linter.unusedVariables false
namespace Go.Proofs.Ytifolcfnknlmdaa.Re
open Go.Proofs.Ytifolcfnknlmdaa.Rw

def noLn : LnC := ⟨[], false, false⟩
/-- Where the paragraphs behind the open one begin, the lines standing from i on. -/
def contA (i : Nat) : List LnC → List Nat
  | [] => []
  | [_] => []
  | a :: b :: r => if a.joined then contA (i + 1) (b :: r) else (i + 1) :: contA (i + 1) (b :: r)
/-- Where all begin. -/
def startsB (i : Nat) (l : List LnC) : List Nat := if l = [] then [] else i :: contA i l
theorem starts_nil (i : Nat) : startsB i [] = [] := rfl
theorem starts_cons (i : Nat) (a : LnC) (r : List LnC) : startsB i (a :: r) = i :: contA i (a :: r) := by unfold startsB; rw [if_neg (by simp)]
theorem cont_joined (i : Nat) (a : LnC) (r : List LnC) (hj : a.joined = true) (hr : r ≠ []) : contA i (a :: r) = contA (i + 1) r := by
  cases r with
  | nil => exact absurd rfl hr
  | cons b r => rw [contA, if_pos hj]
theorem cont_last (i : Nat) (a : LnC) (r : List LnC) (h : a.joined = false ∨ r = []) : contA i (a :: r) = startsB (i + 1) r := by
  cases r with
  | nil => rfl
  | cons b r =>
    rw [starts_cons, contA, if_neg]
    rcases h with h | h
    · simp [h]
    · cases h
theorem paras_open (acc : List Ce) (a : LnC) (r : List LnC) (h : a.joined = false ∨ r = []) : parasA blC acc (a :: r) = trim blC (acc ++ cnt a) :: parasA blC [] r := by
  cases r with
  | nil => rfl
  | cons b r =>
    rcases h with h | h
    · exact parasA_last blC acc a (b :: r) h
    · cases h
theorem hd_joined (acc : List Ce) (a : LnC) (r : List LnC) (hj : a.joined = true) (hr : r ≠ []) : paraHd acc (a :: r) = paraHd (acc ++ cnt a) r := by
  cases r with
  | nil => exact absurd rfl hr
  | cons b r => rw [paraHd, if_pos hj]
theorem hd_open (acc : List Ce) (a : LnC) (r : List LnC) (h : a.joined = false ∨ r = []) : paraHd acc (a :: r) = trim blC (acc ++ cnt a) := by
  cases r with
  | nil => rfl
  | cons b r =>
    rcases h with h | h
    · rw [paraHd, if_neg (by simp [h])]
    · cases h
/-- The open paragraph and those behind it, each by where it begins. -/
theorem cont_at : ∀ (l : List LnC) (acc : List Ce) (i : Nat), l ≠ [] → parasA blC acc l = paraHd acc l :: ((contA i l).map fun f => paraHd [] (l.drop (f - i))) ∧ (∀ f ∈ contA i l, i < f ∧ f - i < l.length) ∧ (∀ k f, (contA i l)[k]? = some f → (contA i l)[k + 1]? = (contA f (l.drop (f - i))).head?)
  | [], _, _, h => absurd rfl h
  | a :: r, acc, i, _ => by
    by_cases h : a.joined = false ∨ r = []
    · rw [paras_open acc a r h, hd_open acc a r h, cont_last i a r h]
      cases r with
      | nil => exact ⟨rfl, fun f hf => (by cases hf), fun k f hf => (by cases k <;> cases hf)⟩
      | cons b r =>
        obtain ⟨h1, h2, h3⟩ := cont_at (b :: r) [] (i + 1) (by simp)
        rw [starts_cons, h1]
        refine ⟨?_, fun f hf => ?_, fun k f hf => ?_⟩
        · rw [List.map_cons]
          have e1 : (a :: b :: r).drop (i + 1 - i) = b :: r := by rw [show i + 1 - i = 1 by omega]; rfl
          rw [e1]
          congr 2
          refine List.map_congr_left fun f hf => ?_
          have := h2 f hf
          rw [show f - i = (f - (i + 1)) + 1 by omega, List.drop_succ_cons]
        · rcases List.mem_cons.1 hf with rfl | hf
          · simp
          · have := h2 f hf
            simp only [List.length_cons] at this ⊢
            omega
        · cases k with
          | zero =>
            have e : f = i + 1 := by simpa using hf.symm
            subst e
            have e1 : (a :: b :: r).drop (i + 1 - i) = b :: r := by rw [show i + 1 - i = 1 by omega]; rfl
            rw [e1, List.getElem?_cons_succ, List.head?_eq_getElem?]
          | succ k =>
            rw [List.getElem?_cons_succ] at hf ⊢
            rw [h3 k f hf]
            have := h2 f (List.mem_of_getElem? hf)
            rw [show f - i = (f - (i + 1)) + 1 by omega, List.drop_succ_cons]
    · have hj : a.joined = true := by
        cases hx : a.joined with
        | true => rfl
        | false => exact absurd (Or.inl hx) h
      have hr : r ≠ [] := fun e => h (Or.inr e)
      rw [parasA_joined blC acc a r hj hr, hd_joined acc a r hj hr, cont_joined i a r hj hr]
      obtain ⟨h1, h2, h3⟩ := cont_at r (acc ++ cnt a) (i + 1) hr
      refine ⟨h1.trans ?_, fun f hf => ?_, fun k f hf => ?_⟩
      · congr 1
        refine List.map_congr_left fun f hf => ?_
        have := h2 f hf
        rw [show f - i = (f - (i + 1)) + 1 by omega, List.drop_succ_cons]
      · have := h2 f hf
        simp only [List.length_cons] at this ⊢
        omega
      · rw [h3 k f hf]
        have := h2 f (List.mem_of_getElem? hf)
        rw [show f - i = (f - (i + 1)) + 1 by omega, List.drop_succ_cons]
/-- Of all lines. -/
theorem starts_at (l : List LnC) (k f : Nat) (h : (startsB 0 l)[k]? = some f) : f < l.length ∧ (paras blC l)[k]? = some (paraHd [] (l.drop f)) ∧ (startsB 0 l)[k + 1]? = (contA f (l.drop f)).head? ∧ (k = 0 → f = 0) := by
  cases l with
  | nil => cases k <;> cases h
  | cons a r =>
    obtain ⟨h1, h2, h3⟩ := cont_at (a :: r) [] 0 (by simp)
    rw [starts_cons] at h ⊢
    show _ ∧ (parasA blC [] (a :: r))[k]? = _ ∧ _ ∧ _
    rw [h1]
    cases k with
    | zero =>
      have e : f = 0 := by simpa using h.symm
      subst e
      exact ⟨by simp, rfl, by rw [List.getElem?_cons_succ, List.drop_zero, List.head?_eq_getElem?], fun _ => rfl⟩
    | succ k =>
      rw [List.getElem?_cons_succ] at h
      have hm := h2 f (List.mem_of_getElem? h)
      refine ⟨by have := hm.2; omega, ?_, ?_, fun e => by omega⟩
      · rw [List.getElem?_cons_succ, List.getElem?_map, h]
        rfl
      · rw [List.getElem?_cons_succ, h3 k f h, Nat.sub_zero]
theorem starts_len (l : List LnC) : (startsB 0 l).length = (paras blC l).length := by
  cases l with
  | nil => rfl
  | cons a r =>
    obtain ⟨h1, _, _⟩ := cont_at (a :: r) [] 0 (by simp)
    show _ = (parasA blC [] (a :: r)).length
    rw [starts_cons, h1]
    simp
/-- Past a whole paragraph. -/
theorem place_past (w x : Nat) : ∀ (l : List LnC) (acc : List Ce) (down y i f : Nat), (contA i l).head? = some f → f ≤ i + y → placeA w x acc down y l = placeA w x [] (down + (lay blC wdC w (paraHd acc l)).length) (i + y - f) (l.drop (f - i))
  | [], _, _, _, _, _, h, _ => by cases h
  | [a], _, _, _, _, _, h, _ => by cases h
  | a :: b :: r, acc, down, y, i, f, h, hf => by
    have hlt : i < f := by
      have := (cont_at (a :: b :: r) [] i (by simp)).2.1 f (List.mem_of_mem_head? (by rw [h]; rfl))
      exact this.1
    obtain ⟨y', rfl⟩ : ∃ y', y = y' + 1 := ⟨y - 1, by omega⟩
    by_cases hj : a.joined = true
    · rw [cont_joined i a _ hj (by simp)] at h
      rw [placeA, if_pos hj, hd_joined acc a _ hj (by simp), place_past w x (b :: r) (acc ++ cnt a) down y' (i + 1) f h (by omega)]
      rw [show i + 1 + y' = i + (y' + 1) by omega, show f - i = (f - (i + 1)) + 1 by omega, List.drop_succ_cons]
    · have hj : a.joined = false := by simpa using hj
      rw [cont_last i a _ (Or.inl hj), starts_cons] at h
      have e : f = i + 1 := by simpa using h.symm
      subst e
      rw [placeA, if_neg (by simp [hj]), hd_open acc a _ (Or.inl hj), show i + (y' + 1) - (i + 1) = y' by omega, show i + 1 - i = 1 by omega]
      rfl
/-- How many columns the paragraph's lines ahead count. -/
def aheadV (l : List LnC) : Nat → Nat
  | 0 => 0
  | y + 1 => aheadV l y + (cnt (l.getD y noLn)).length
theorem ahead_cons (a : LnC) (l : List LnC) : ∀ y, aheadV (a :: l) (y + 1) = (cnt a).length + aheadV l y
  | 0 => by simp [aheadV]
  | y + 1 => by
    rw [aheadV, ahead_cons a l y, aheadV]
    simp only [List.getD_cons_succ]
    omega
/-- How far a place is in its line. -/
def inLine (l : List LnC) (x y : Nat) : Nat := if (l.getD y noLn).joined = true ∧ y + 1 < l.length ∧ (cnt (l.getD y noLn)).length < x then (cnt (l.getD y noLn)).length else x
/-- In the open paragraph. -/
theorem place_here (w x : Nat) : ∀ (l : List LnC) (acc : List Ce) (down y i : Nat), y < l.length → (∀ f, (contA i l).head? = some f → i + y < f) → placeA w x acc down y l = ((spot w (paraHd acc l) (acc.length + aheadV l y + inLine l x y)).1, down + (spot w (paraHd acc l) (acc.length + aheadV l y + inLine l x y)).2)
  | [], _, _, _, _, h, _ => by simp at h
  | a :: r, acc, down, 0, i, h, hf => by
    have e : inLine (a :: r) x 0 = (if a.joined = true ∧ r ≠ [] ∧ (cnt a).length < x then (cnt a).length else x) := by
      unfold inLine
      simp only [List.getD_cons_zero, List.length_cons]
      have : (0 + 1 < r.length + 1) ↔ r ≠ [] := by
        cases r <;> simp
      simp only [this]
    rw [placeA, e]
    rfl
  | a :: r, acc, down, y + 1, i, h, hf => by
    have hy : y < r.length := by simpa using h
    have hr : r ≠ [] := fun e => by rw [e] at hy; simp at hy
    have hj : a.joined = true := by
      cases hx : a.joined with
      | true => rfl
      | false =>
        have := hf (i + 1) (by
          rw [cont_last i a r (Or.inl hx)]
          cases r with
          | nil => exact absurd rfl hr
          | cons b r => rw [starts_cons]; rfl)
        omega
    rw [cont_joined i a r hj hr] at hf
    rw [placeA, if_pos hj, hd_joined acc a r hj hr, place_here w x r (acc ++ cnt a) down y (i + 1) hy (fun f hf' => by have := hf f hf'; omega)]
    have e1 : inLine (a :: r) x (y + 1) = inLine r x y := by
      unfold inLine
      simp only [List.getD_cons_succ, List.length_cons]
      simp
    rw [e1, ahead_cons, List.length_append, show acc.length + (cnt a).length + aheadV r y = acc.length + ((cnt a).length + aheadV r y) by omega]
end Go.Proofs.Ytifolcfnknlmdaa.Re
