/- Layer 11: rows as lists of cells (plain): parting, what each call makes of a row, what stays whole. -/
import Derived.Lib.Hide
namespace Go.Proofs.Ytifolcfnknlmdaa.Rw

/-- An Attr, as numbers: the flags, and both colors' kinds and numbers. -/
structure Aa where
  fl : Nat
  fk : Nat
  fn : Nat
  bk : Nat
  bn : Nat
  deriving DecidableEq
/-- A cell: its rune, its Wide, its Attr. -/
structure Ce where
  r : Int
  w : Nat
  a : Aa
  deriving DecidableEq
def zeroAa : Aa := ⟨0, 0, 0, 0, 0⟩
def zeroCe : Ce := ⟨0, 0, zeroAa⟩
instance : Inhabited Ce := ⟨zeroCe⟩
def blankC (a : Aa) : Ce := ⟨32, 0, a⟩
/-- The cell at a place; the zero cell beyond. -/
def cellV (l : List Ce) (i : Nat) : Ce := l.getD i zeroCe
def wideV (l : List Ce) (i : Nat) : Nat := (cellV l i).w
theorem cell_lt {l : List Ce} {i : Nat} (h : i < l.length) : cellV l i = l[i] := by unfold cellV; rw [List.getD_eq_getElem?_getD, List.getElem?_eq_getElem h]; rfl
theorem cell_ge {l : List Ce} {i : Nat} (h : l.length ≤ i) : cellV l i = zeroCe := by unfold cellV; rw [List.getD_eq_getElem?_getD, List.getElem?_eq_none h]; rfl
theorem wide_ge {l : List Ce} {i : Nat} (h : l.length ≤ i) : wideV l i = 0 := by unfold wideV; rw [cell_ge h]; rfl
theorem ext_cell {l m : List Ce} (hl : l.length = m.length) (h : ∀ i, i < l.length → cellV l i = cellV m i) : l = m := by
  refine List.ext_getElem hl fun i h1 h2 => ?_
  have := h i h1
  rwa [cell_lt h1, cell_lt h2] at this
theorem cell_append (l m : List Ce) (i : Nat) : cellV (l ++ m) i = if i < l.length then cellV l i else cellV m (i - l.length) := by
  unfold cellV
  rw [List.getD_eq_getElem?_getD, List.getD_eq_getElem?_getD, List.getD_eq_getElem?_getD]
  split
  · rename_i h; rw [List.getElem?_append_left h]
  · rename_i h; rw [List.getElem?_append_right (by omega)]
theorem cell_take (l : List Ce) (k i : Nat) : cellV (l.take k) i = if i < k then cellV l i else zeroCe := by
  unfold cellV
  rw [List.getD_eq_getElem?_getD, List.getD_eq_getElem?_getD]
  split
  · rename_i h; rw [List.getElem?_take_of_lt h]
  · rename_i h; rw [List.getElem?_eq_none (by rw [List.length_take]; omega)]; rfl
theorem cell_drop (l : List Ce) (k i : Nat) : cellV (l.drop k) i = cellV l (k + i) := by
  unfold cellV
  rw [List.getD_eq_getElem?_getD, List.getD_eq_getElem?_getD, List.getElem?_drop]
theorem cell_rep (c : Ce) (k i : Nat) : cellV (List.replicate k c) i = if i < k then c else zeroCe := by
  unfold cellV
  rw [List.getD_eq_getElem?_getD]
  split
  · rename_i h; rw [List.getElem?_replicate, if_pos h]; rfl
  · rename_i h; rw [List.getElem?_replicate, if_neg h]; rfl

/-! ### parted -/
/-- A row is parted at a column: both halves of the character there become blanks. -/
def cutB (l : List Ce) (x : Nat) : Prop := 1 ≤ x ∧ x < l.length ∧ wideV l x = 2
instance (l : List Ce) (x : Nat) : Decidable (cutB l x) := by unfold cutB; infer_instance
def partC (l : List Ce) (x : Nat) : List Ce := if cutB l x then (l.set (x - 1) (blankC (cellV l (x - 1)).a)).set x (blankC (cellV l x).a) else l
theorem not_cut {l : List Ce} {x : Nat} (h : ¬ cutB l x) : partC l x = l := by unfold partC; rw [if_neg h]
theorem part_len (l : List Ce) (x : Nat) : (partC l x).length = l.length := by unfold partC; split <;> simp
theorem cell_set (l : List Ce) (k i : Nat) (c : Ce) : cellV (l.set k c) i = if i = k ∧ k < l.length then c else cellV l i := by
  unfold cellV
  rw [List.getD_eq_getElem?_getD, List.getD_eq_getElem?_getD]
  by_cases h : i = k
  · subst h
    by_cases h2 : i < l.length
    · rw [if_pos ⟨rfl, h2⟩, List.getElem?_set_self h2]; rfl
    · rw [if_neg (fun hh => h2 hh.2), List.getElem?_eq_none (by simpa using h2), List.getElem?_eq_none (by simpa using h2)]
  · rw [if_neg (fun hh => h hh.1), List.getElem?_set_ne (by omega)]
theorem part_cell (l : List Ce) (x i : Nat) : cellV (partC l x) i = if cutB l x ∧ (i = x ∨ i + 1 = x) then blankC (cellV l i).a else cellV l i := by
  unfold partC
  by_cases h : cutB l x
  · obtain ⟨h1, h2, h3⟩ := h
    rw [if_pos ⟨h1, h2, h3⟩, cell_set, cell_set]
    by_cases e : i = x
    · subst e; rw [if_pos ⟨rfl, by simpa using h2⟩, if_pos ⟨⟨h1, h2, h3⟩, Or.inl rfl⟩]
    · rw [if_neg (fun hh => e hh.1)]
      by_cases e2 : i + 1 = x
      · have e3 : i = x - 1 := by omega
        subst e3
        rw [if_pos ⟨rfl, by omega⟩, if_pos ⟨⟨h1, h2, h3⟩, Or.inr e2⟩]
      · rw [if_neg (fun hh => e2 (by omega)), if_neg (fun hh => hh.2.elim e e2)]
  · rw [if_neg h, if_neg (fun hh => h hh.1)]
/-- What is no column parts nothing. -/
theorem part_out (l : List Ce) {x : Nat} (h : x = 0 ∨ l.length ≤ x) : partC l x = l := by unfold partC; rw [if_neg (fun hh => by have := hh.1; have := hh.2.1; omega)]
theorem part_wide (l : List Ce) (x i : Nat) : wideV (partC l x) i = if cutB l x ∧ (i = x ∨ i + 1 = x) then 0 else wideV l i := by
  unfold wideV
  rw [part_cell]
  split <;> rfl

/-! ### whole -/
/-- One cell read: is a character open behind it? none: it may not stand there. -/
def nextO (o : Bool) (c : Ce) : Option Bool := if c.w > 2 ∨ o ≠ (c.w == 2) then none else some (c.w == 1)
def runO : Bool → List Ce → Option Bool
  | o, [] => some o
  | o, c :: l => (nextO o c).bind fun o' => runO o' l
def wholeB (l : List Ce) : Bool := runO false l == some false
theorem whole_iff {l : List Ce} : wholeB l = true ↔ runO false l = some false := by simp [wholeB]
theorem runO_append (l m : List Ce) (o : Bool) : runO o (l ++ m) = (runO o l).bind fun o' => runO o' m := by
  induction l generalizing o with
  | nil => rfl
  | cons c l ih =>
    show (nextO o c).bind (fun o' => runO o' (l ++ m)) = ((nextO o c).bind fun o' => runO o' l).bind _
    cases nextO o c with
    | none => rfl
    | some o' => exact ih o'
theorem whole_append {l m : List Ce} (h1 : wholeB l = true) (h2 : wholeB m = true) : wholeB (l ++ m) = true := by
  rw [whole_iff] at *
  rw [runO_append, h1]
  exact h2
theorem next_blank (a : Aa) : nextO false (blankC a) = some false := by unfold nextO; rw [if_neg (by simp [blankC])]; rfl
theorem whole_rep (a : Aa) (k : Nat) : wholeB (List.replicate k (blankC a)) = true := by
  rw [whole_iff]
  induction k with
  | zero => rfl
  | succ k ih =>
    show (nextO false (blankC a)).bind _ = _
    rw [next_blank]
    exact ih
theorem whole_nil : wholeB [] = true := rfl
/-- Of a whole row: what is open ahead of a place is told by that place's cell. -/
theorem open_at {l : List Ce} {o : Bool} (h : runO o l = some false) : o = (wideV l 0 == 2) := by
  cases l with
  | nil =>
    have : o = false := Option.some.inj h
    rw [this]; rfl
  | cons c l =>
    have h : (nextO o c).bind (fun o' => runO o' l) = some false := h
    unfold nextO at h
    split at h
    · cases h
    · rename_i hh
      have : o = (c.w == 2) := Classical.not_not.1 fun e => hh (Or.inr e)
      exact this
theorem split_run {l : List Ce} (h : wholeB l = true) (x : Nat) : runO false (l.take x) = some (wideV l x == 2) ∧ runO (wideV l x == 2) (l.drop x) = some false := by
  have h0 := whole_iff.1 h
  rw [← List.take_append_drop x l, runO_append] at h0
  cases hr : runO false (l.take x) with
  | none => rw [hr] at h0; cases h0
  | some o =>
    rw [hr] at h0
    have h0 : runO o (l.drop x) = some false := h0
    have e := open_at h0
    have e2 : wideV (l.drop x) 0 = wideV l x := by unfold wideV; rw [cell_drop]; rfl
    rw [e2] at e
    rw [← e]
    exact ⟨rfl, h0⟩
theorem run_one {o : Bool} {c : Ce} {l : List Ce} {r : Option Bool} (h : runO o (c :: l) = r) : r = (nextO o c).bind fun o' => runO o' l := h.symm
theorem take_one {l : List Ce} {x : Nat} (h : x < l.length) : l.take (x + 1) = l.take x ++ [cellV l x] := by rw [cell_lt h, List.take_add_one, List.getElem?_eq_getElem h]; rfl
theorem drop_one {l : List Ce} {x : Nat} (h : x < l.length) : l.drop x = cellV l x :: l.drop (x + 1) := by rw [cell_lt h]; exact List.drop_eq_getElem_cons h
/-- Ahead of a second half stands a first one. -/
theorem first_of {l : List Ce} (h : wholeB l = true) {x : Nat} (hw : wideV l (x + 1) = 2) (hx : x + 1 < l.length) : wideV l x = 1 := by
  have h1 := (split_run h (x + 1)).1
  have h2 := (split_run h x).1
  rw [take_one (by omega), runO_append, h2, hw] at h1
  have h1 : (nextO (wideV l x == 2) (cellV l x)).bind (fun o' => runO o' []) = some true := h1
  unfold nextO at h1
  split at h1
  · cases h1
  · have h1 : (cellV l x).w == 1 := Option.some.inj h1
    exact eq_of_beq h1
/-- Parted, both parts of a whole row are whole. -/
theorem split_whole {l : List Ce} (h : wholeB l = true) (x : Nat) : wholeB ((partC l x).take x) = true ∧ wholeB ((partC l x).drop x) = true := by
  obtain ⟨h1, h2⟩ := split_run h x
  by_cases hc : cutB l x
  · obtain ⟨y, rfl⟩ : ∃ y, x = y + 1 := ⟨x - 1, by have := hc.1; omega⟩
    have hy := hc.2.1
    have hw := first_of h hc.2.2 hy
    have g1 : (partC l (y + 1)).take y = l.take y := by
      refine ext_cell (by simp [part_len]) fun i hi => ?_
      have hi : i < y := by rw [List.length_take] at hi; omega
      rw [cell_take, cell_take, if_pos hi, if_pos hi, part_cell, if_neg (fun hh => by omega)]
    have g2 : (partC l (y + 1)).drop (y + 2) = l.drop (y + 2) := by
      refine ext_cell (by simp [part_len]) fun i _ => ?_
      rw [cell_drop, cell_drop, part_cell, if_neg (fun hh => by omega)]
    constructor
    · rw [whole_iff, take_one (by rw [part_len]; omega), runO_append, g1, (split_run h y).1, hw]
      show (nextO false (cellV (partC l (y + 1)) y)).bind _ = _
      rw [part_cell, if_pos ⟨hc, Or.inr rfl⟩, next_blank]
      rfl
    · rw [whole_iff, drop_one (by rw [part_len]; omega), g2]
      show (nextO false (cellV (partC l (y + 1)) (y + 1))).bind _ = _
      rw [part_cell, if_pos ⟨hc, Or.inl rfl⟩, next_blank]
      show runO false (l.drop (y + 2)) = _
      rw [drop_one hy, hc.2.2] at h2
      have h2 : (nextO true (cellV l (y + 1))).bind (fun o' => runO o' (l.drop (y + 2))) = some false := h2
      have e : nextO true (cellV l (y + 1)) = some false := by
        have : (cellV l (y + 1)).w = 2 := hc.2.2
        unfold nextO
        rw [this]
        rfl
      rw [e] at h2
      exact h2
  · have hp : partC l x = l := by unfold partC; rw [if_neg hc]
    have hf : (wideV l x == 2) = false := by
      by_cases e : wideV l x = 2
      · exfalso
        by_cases hx : x < l.length
        · by_cases hx0 : x = 0
          · subst hx0
            have h1 : some false = some (wideV l 0 == 2) := h1
            rw [e] at h1
            cases h1
          · exact hc ⟨by omega, hx, e⟩
        · rw [wide_ge (by omega)] at e; cases e
      · simpa using e
    rw [hf] at h1 h2
    rw [hp, whole_iff, whole_iff]
    exact ⟨h1, h2⟩
theorem head_of {l : List Ce} (h : wholeB l = true) : wideV l 0 ≠ 2 := by
  have := open_at (whole_iff.1 h)
  intro e
  rw [e] at this
  cases this
/-- A second parting, behind the first one's place. -/
theorem part_append (l m : List Ce) {y : Nat} (hy : l.length ≤ y) (hm : wideV m 0 ≠ 2) : partC (l ++ m) y = l ++ partC m (y - l.length) := by
  have hw : wideV (l ++ m) y = wideV m (y - l.length) := by unfold wideV; rw [cell_append, if_neg (by omega)]
  by_cases e : y = l.length
  · subst e
    rw [Nat.sub_self] at hw ⊢
    rw [part_out m (Or.inl rfl)]
    unfold partC
    rw [if_neg (fun hh => hm (by rw [← hw]; exact hh.2.2))]
  · have hc : cutB (l ++ m) y ↔ cutB m (y - l.length) := by
      unfold cutB
      rw [hw, List.length_append]
      omega
    refine ext_cell (by simp [part_len]) fun i hi => ?_
    rw [part_cell, cell_append, cell_append]
    by_cases hil : i < l.length
    · rw [if_pos hil, if_pos hil, if_neg (fun hh => by omega)]
    · rw [if_neg hil, if_neg hil, part_cell]
      by_cases hcc : cutB m (y - l.length) ∧ (i - l.length = y - l.length ∨ i - l.length + 1 = y - l.length)
      · rw [if_pos hcc, if_pos ⟨hc.2 hcc.1, by omega⟩]
      · rw [if_neg hcc, if_neg (fun hh => hcc ⟨hc.1 hh.1, by omega⟩)]

/-! ### the calls -/
/-- How many columns are meant. -/
def roomV (k : Nat) (x n : Int) : Nat := if x < 0 ∨ (k : Int) ≤ x ∨ n < 1 then 0 else min n.toNat (k - x.toNat)
/-- The three pieces of a row that is parted at two places. -/
def cutP (l : List Ce) (x y : Nat) : List Ce := partC (partC l x) y
theorem cutP_len (l : List Ce) (x y : Nat) : (cutP l x y).length = l.length := by unfold cutP; rw [part_len, part_len]
def blanks (n : Nat) (a : Aa) : List Ce := List.replicate n (blankC a)
theorem blanks_len (n : Nat) (a : Aa) : (blanks n a).length = n := List.length_replicate
def insN (l : List Ce) (x n : Nat) (a : Aa) : List Ce := (cutP l x (l.length - n)).take x ++ blanks n a ++ ((cutP l x (l.length - n)).take (l.length - n)).drop x
def delN (l : List Ce) (x n : Nat) (a : Aa) : List Ce := (cutP l x (x + n)).take x ++ (cutP l x (x + n)).drop (x + n) ++ blanks n a
def eraN (l : List Ce) (x n : Nat) (a : Aa) : List Ce := (cutP l x (x + n)).take x ++ blanks n a ++ (cutP l x (x + n)).drop (x + n)
def insV (l : List Ce) (x n : Int) (a : Aa) : List Ce := if roomV l.length x n = 0 then l else insN l x.toNat (roomV l.length x n) a
def delV (l : List Ce) (x n : Int) (a : Aa) : List Ce := if roomV l.length x n = 0 then l else delN l x.toNat (roomV l.length x n) a
def eraV (l : List Ce) (x n : Int) (a : Aa) : List Ce := if roomV l.length x n = 0 then l else eraN l x.toNat (roomV l.length x n) a
def resN (l : List Ce) (w : Nat) (a : Aa) : List Ce := if w ≤ l.length then (partC l w).take w else l ++ blanks (w - l.length) a
def resV (l : List Ce) (w : Int) (a : Aa) : List Ce := if w < 1 ∨ 400 < w then l else resN l w.toNat a
/-- What is written: one cell, or a wide one's two. -/
def penV (r : Int) (wide : Bool) (a : Aa) : List Ce := if wide then [⟨r, 1, a⟩, ⟨r, 2, a⟩] else [⟨r, 0, a⟩]
def fitsV (k : Nat) (x : Int) (wide : Bool) : Bool := decide (0 ≤ x) && decide (x + (if wide then 2 else 1) ≤ k)
def wriN (l : List Ce) (x : Nat) (p : List Ce) : List Ce := (cutP l x (x + p.length)).take x ++ p ++ (cutP l x (x + p.length)).drop (x + p.length)
def wriV (l : List Ce) (x : Int) (r : Int) (wide : Bool) (a : Aa) : List Ce := wriN l x.toNat (penV r wide a)
theorem room_le {k : Nat} {x n : Int} (h : roomV k x n ≠ 0) : 0 ≤ x ∧ 1 ≤ roomV k x n ∧ x.toNat + roomV k x n ≤ k := by
  unfold roomV at *
  split
  · rename_i hh; rw [if_pos hh] at h; exact absurd rfl h
  · omega
theorem ins_len {l : List Ce} {x n : Nat} (h : x + n ≤ l.length) (a : Aa) : (insN l x n a).length = l.length := by
  unfold insN
  simp only [List.length_append, List.length_take, List.length_drop, cutP_len, blanks_len]
  omega
theorem del_len {l : List Ce} {x n : Nat} (h : x + n ≤ l.length) (a : Aa) : (delN l x n a).length = l.length := by
  unfold delN
  simp only [List.length_append, List.length_take, List.length_drop, cutP_len, blanks_len]
  omega
theorem era_len {l : List Ce} {x n : Nat} (h : x + n ≤ l.length) (a : Aa) : (eraN l x n a).length = l.length := by
  unfold eraN
  simp only [List.length_append, List.length_take, List.length_drop, cutP_len, blanks_len]
  omega
theorem res_len (l : List Ce) (w : Nat) (a : Aa) : (resN l w a).length = w := by
  unfold resN
  split
  · rw [List.length_take, part_len]; omega
  · rw [List.length_append, blanks_len]; omega
theorem wri_len {l : List Ce} {x : Nat} {p : List Ce} (h : x + p.length ≤ l.length) : (wriN l x p).length = l.length := by
  unfold wriN
  simp only [List.length_append, List.length_take, List.length_drop, cutP_len]
  omega
theorem insV_len (l : List Ce) (x n : Int) (a : Aa) : (insV l x n a).length = l.length := by
  unfold insV
  split
  · rfl
  · rename_i h; exact ins_len (room_le h).2.2 a
theorem delV_len (l : List Ce) (x n : Int) (a : Aa) : (delV l x n a).length = l.length := by
  unfold delV
  split
  · rfl
  · rename_i h; exact del_len (room_le h).2.2 a
theorem eraV_len (l : List Ce) (x n : Int) (a : Aa) : (eraV l x n a).length = l.length := by
  unfold eraV
  split
  · rfl
  · rename_i h; exact era_len (room_le h).2.2 a
theorem resV_len (l : List Ce) (w : Int) (a : Aa) : (resV l w a).length = if w < 1 ∨ 400 < w then l.length else w.toNat := by
  unfold resV
  split
  · rfl
  · exact res_len l _ a
theorem pen_len (r : Int) (wide : Bool) (a : Aa) : (penV r wide a).length = if wide then 2 else 1 := by cases wide <;> rfl

/-! ### what is whole stays whole -/
theorem take_app (l m : List Ce) {y : Nat} (h : l.length ≤ y) : (l ++ m).take y = l ++ m.take (y - l.length) := by
  rw [List.take_append, List.take_of_length_le h]
theorem drop_app (l m : List Ce) {y : Nat} (h : l.length ≤ y) : (l ++ m).drop y = m.drop (y - l.length) := by
  rw [List.drop_append, List.drop_eq_nil_of_le h, List.nil_append]
/-- Parted at two places, the three pieces of a whole row are whole. -/
theorem three_whole {l : List Ce} (h : wholeB l = true) {x y : Nat} (hx : x ≤ l.length) (hxy : x ≤ y) : wholeB ((cutP l x y).take x) = true ∧ wholeB (((cutP l x y).take y).drop x) = true ∧ wholeB ((cutP l x y).drop y) = true := by
  obtain ⟨h1, h2⟩ := split_whole h x
  have e : cutP l x y = (partC l x).take x ++ partC ((partC l x).drop x) (y - x) := by
    have hl : ((partC l x).take x).length = x := by rw [List.length_take, part_len]; omega
    have := part_append ((partC l x).take x) ((partC l x).drop x) (y := y) (by omega) (head_of h2)
    rw [List.take_append_drop, hl] at this
    exact this
  obtain ⟨h3, h4⟩ := split_whole h2 (y - x)
  generalize hA : (partC l x).take x = A at *
  have hl : A.length = x := by rw [← hA, List.length_take, part_len]; omega
  rw [e]
  refine ⟨?_, ?_, ?_⟩
  · rw [take_app _ _ (by omega), hl, Nat.sub_self, List.take_zero, List.append_nil]; exact h1
  · rw [take_app _ _ (by omega), drop_app _ _ (by omega), hl, Nat.sub_self, List.drop_zero]; exact h3
  · rw [drop_app _ _ (by omega), hl]; exact h4
theorem blanks_whole (n : Nat) (a : Aa) : wholeB (blanks n a) = true := whole_rep a n
theorem ins_whole {l : List Ce} (h : wholeB l = true) {x n : Nat} (hx : x + n ≤ l.length) (a : Aa) : wholeB (insN l x n a) = true := by
  obtain ⟨h1, h2, _⟩ := three_whole h (x := x) (y := l.length - n) (by omega) (by omega)
  exact whole_append (whole_append h1 (blanks_whole n a)) h2
theorem del_whole {l : List Ce} (h : wholeB l = true) {x n : Nat} (hx : x + n ≤ l.length) (a : Aa) : wholeB (delN l x n a) = true := by
  obtain ⟨h1, _, h3⟩ := three_whole h (x := x) (y := x + n) (by omega) (by omega)
  exact whole_append (whole_append h1 h3) (blanks_whole n a)
theorem era_whole {l : List Ce} (h : wholeB l = true) {x n : Nat} (hx : x + n ≤ l.length) (a : Aa) : wholeB (eraN l x n a) = true := by
  obtain ⟨h1, _, h3⟩ := three_whole h (x := x) (y := x + n) (by omega) (by omega)
  exact whole_append (whole_append h1 (blanks_whole n a)) h3
theorem pen_whole (r : Int) (wide : Bool) (a : Aa) : wholeB (penV r wide a) = true := by cases wide <;> rfl
theorem wri_whole {l : List Ce} (h : wholeB l = true) {x : Nat} {p : List Ce} (hp : wholeB p = true) (hx : x + p.length ≤ l.length) : wholeB (wriN l x p) = true := by
  obtain ⟨h1, _, h3⟩ := three_whole h (x := x) (y := x + p.length) (by omega) (by omega)
  exact whole_append (whole_append h1 hp) h3
theorem res_whole {l : List Ce} (h : wholeB l = true) (w : Nat) (a : Aa) : wholeB (resN l w a) = true := by
  unfold resN
  split
  · exact (split_whole h w).1
  · exact whole_append h (blanks_whole _ a)
theorem insV_whole {l : List Ce} (h : wholeB l = true) (x n : Int) (a : Aa) : wholeB (insV l x n a) = true := by
  unfold insV
  split
  · exact h
  · rename_i hr; exact ins_whole h (room_le hr).2.2 a
theorem delV_whole {l : List Ce} (h : wholeB l = true) (x n : Int) (a : Aa) : wholeB (delV l x n a) = true := by
  unfold delV
  split
  · exact h
  · rename_i hr; exact del_whole h (room_le hr).2.2 a
theorem eraV_whole {l : List Ce} (h : wholeB l = true) (x n : Int) (a : Aa) : wholeB (eraV l x n a) = true := by
  unfold eraV
  split
  · exact h
  · rename_i hr; exact era_whole h (room_le hr).2.2 a
theorem resV_whole {l : List Ce} (h : wholeB l = true) (w : Int) (a : Aa) : wholeB (resV l w a) = true := by
  unfold resV
  split
  · exact h
  · exact res_whole h _ a
theorem fits_iff {k : Nat} {x : Int} {wide : Bool} : fitsV k x wide = true ↔ 0 ≤ x ∧ x + (if wide then 2 else 1) ≤ k := by simp [fitsV]
theorem wriV_len {l : List Ce} {x r : Int} {wide : Bool} (h : fitsV l.length x wide = true) (a : Aa) : (wriV l x r wide a).length = l.length := by
  have hf := fits_iff.1 h
  refine wri_len ?_
  rw [pen_len]
  cases wide <;> simp at hf ⊢ <;> omega
theorem wriV_whole {l : List Ce} (hw : wholeB l = true) {x r : Int} {wide : Bool} (h : fitsV l.length x wide = true) (a : Aa) : wholeB (wriV l x r wide a) = true := by
  have hf := fits_iff.1 h
  refine wri_whole hw (pen_whole r wide a) ?_
  rw [pen_len]
  cases wide <;> simp at hf ⊢ <;> omega

/-! ### Delete behind Insert; Erase: cell by cell -/
theorem take_cell {l : List Ce} {k i : Nat} (h : i < k) : cellV (l.take k) i = cellV l i := by rw [cell_take, if_pos h]
theorem ins_cell {l : List Ce} {x n : Nat} (h : x + n ≤ l.length) (a : Aa) {i : Nat} (hi : i < l.length) : cellV (insN l x n a) i = if i < x then cellV (cutP l x (l.length - n)) i else if i < x + n then blankC a else cellV (cutP l x (l.length - n)) (i - n) := by
  unfold insN
  have hl := cutP_len l x (l.length - n)
  have h1 : ((cutP l x (l.length - n)).take x).length = x := by rw [List.length_take]; omega
  rw [cell_append, cell_append, List.length_append, h1, blanks_len]
  by_cases c1 : i < x
  · rw [if_pos (by omega), if_pos c1, if_pos c1, take_cell c1]
  · by_cases c2 : i < x + n
    · rw [if_pos c2, if_neg c1, if_neg c1, if_pos c2]
      unfold blanks
      rw [cell_rep, if_pos (by omega)]
    · rw [if_neg c2, if_neg c1, if_neg c2, cell_drop, take_cell (by omega)]
      congr 1
      omega
theorem del_cell {l : List Ce} {x n : Nat} (h : x + n ≤ l.length) (a : Aa) {i : Nat} (hi : i < l.length) : cellV (delN l x n a) i = if i < x then cellV (cutP l x (x + n)) i else if i < l.length - n then cellV (cutP l x (x + n)) (i + n) else blankC a := by
  unfold delN
  have hl := cutP_len l x (x + n)
  have h1 : ((cutP l x (x + n)).take x).length = x := by rw [List.length_take]; omega
  have h2 : ((cutP l x (x + n)).drop (x + n)).length = l.length - (x + n) := by rw [List.length_drop]; omega
  rw [cell_append, cell_append, List.length_append, h1, h2]
  by_cases c1 : i < x
  · rw [if_pos (by omega), if_pos c1, if_pos c1, take_cell c1]
  · by_cases c2 : i < l.length - n
    · rw [if_pos (by omega), if_neg c1, if_neg c1, if_pos c2, cell_drop]
      congr 1
      omega
    · rw [if_neg (by omega), if_neg c1, if_neg c2]
      unfold blanks
      rw [cell_rep, if_pos (by omega)]
theorem era_cell {l : List Ce} {x n : Nat} (h : x + n ≤ l.length) (a : Aa) (i : Nat) : cellV (eraN l x n a) i = if i < x then cellV (cutP l x (x + n)) i else if i < x + n then blankC a else cellV (cutP l x (x + n)) i := by
  unfold eraN
  have hl := cutP_len l x (x + n)
  have h1 : ((cutP l x (x + n)).take x).length = x := by rw [List.length_take]; omega
  rw [cell_append, cell_append, List.length_append, h1, blanks_len]
  by_cases c1 : i < x
  · rw [if_pos (by omega), if_pos c1, if_pos c1, take_cell c1]
  · by_cases c2 : i < x + n
    · rw [if_pos c2, if_neg c1, if_neg c1, if_pos c2]
      unfold blanks
      rw [cell_rep, if_pos (by omega)]
    · rw [if_neg c2, if_neg c1, if_neg c2, cell_drop]
      congr 1
      omega
/-- Behind its parting no second half stands at a place of a whole row. -/
theorem part_clean {l : List Ce} (h : wholeB l = true) (x : Nat) : wideV (partC l x) x ≠ 2 := by
  rw [part_wide]
  by_cases hc : cutB l x
  · rw [if_pos ⟨hc, Or.inl rfl⟩]; decide
  · rw [if_neg (fun hh => hc hh.1)]
    intro e
    by_cases h0 : x = 0
    · subst h0; exact head_of h e
    · by_cases hl : x < l.length
      · exact hc ⟨by omega, hl, e⟩
      · rw [wide_ge (by omega)] at e; cases e
theorem cut_clean {l : List Ce} (h : wholeB l = true) (x y : Nat) : wideV (cutP l x y) x ≠ 2 := by
  unfold cutP
  rw [part_wide]
  split
  · decide
  · exact part_clean h x
theorem cut_attr (l : List Ce) (x i : Nat) : (cellV (partC l x) i).a = (cellV l i).a := by rw [part_cell]; split <;> rfl
/-- Parted at a place and at a further one: cell by cell. -/
theorem cutP_cell {l : List Ce} (h : wholeB l = true) {x y : Nat} (hxy : x ≤ y) (i : Nat) : cellV (cutP l x y) i = if (cutB l x ∧ (i = x ∨ i + 1 = x)) ∨ (cutB l y ∧ (i = y ∨ i + 1 = y)) then blankC (cellV l i).a else cellV l i := by
  have hc2 : x < y → (cutB (partC l x) y ↔ cutB l y) := fun hlt => by
    unfold cutB
    rw [part_len, part_wide]
    constructor
    · rintro ⟨h1, h2, h3⟩
      refine ⟨h1, h2, ?_⟩
      split at h3
      · cases h3
      · exact h3
    · rintro ⟨h1, h2, h3⟩
      refine ⟨h1, h2, ?_⟩
      rw [if_neg (fun hh => by omega)]
      exact h3
  have hcell : cellV (partC l x) i = if cutB l x ∧ (i = x ∨ i + 1 = x) then blankC (cellV l i).a else cellV l i := part_cell l x i
  by_cases e : x = y
  · subst e
    have hn : ¬ cutB (partC l x) x := fun hh => part_clean h x hh.2.2
    have : cutP l x x = partC l x := not_cut hn
    rw [this, hcell]
    by_cases g : cutB l x ∧ (i = x ∨ i + 1 = x)
    · rw [if_pos g, if_pos (Or.inl g)]
    · rw [if_neg g, if_neg (fun hh => hh.elim g g)]
  · have hlt : x < y := by omega
    unfold cutP
    rw [part_cell, cut_attr, hcell]
    by_cases g2 : cutB (partC l x) y ∧ (i = y ∨ i + 1 = y)
    · rw [if_pos g2, if_pos (Or.inr ⟨(hc2 hlt).1 g2.1, g2.2⟩)]
    · rw [if_neg g2]
      by_cases g1 : cutB l x ∧ (i = x ∨ i + 1 = x)
      · rw [if_pos g1, if_pos (Or.inl g1)]
      · rw [if_neg g1, if_neg (fun hh => hh.elim g1 fun hy => g2 ⟨(hc2 hlt).2 hy.1, hy.2⟩)]
/-- P11.4: Delete behind Insert. -/
theorem back_cell {l : List Ce} (h : wholeB l = true) {x n : Nat} (hx : x + n ≤ l.length) (hn : 1 ≤ n) (a a' : Aa) {i : Nat} (hi : i < l.length) : cellV (delN (insN l x n a) x n a') i = if l.length - n ≤ i then blankC a' else cellV (cutP l x (l.length - n)) i := by
  have hl := ins_len hx a
  have w1 : ¬ cutB (insN l x n a) x := fun hh => by
    have h3 := hh.2.2
    unfold wideV at h3
    rw [ins_cell hx a (by omega), if_neg (by omega), if_pos (by omega)] at h3
    cases h3
  have w2 : ¬ cutB (insN l x n a) (x + n) := fun hh => by
    have h2 := hh.2.1
    have h3 := hh.2.2
    rw [hl] at h2
    unfold wideV at h3
    rw [ins_cell hx a h2, if_neg (by omega), if_neg (by omega), Nat.add_sub_cancel] at h3
    exact cut_clean h x _ h3
  have e : cutP (insN l x n a) x (x + n) = insN l x n a := by
    unfold cutP
    rw [not_cut w1, not_cut w2]
  rw [del_cell (by rw [hl]; exact hx) a' (by rw [hl]; exact hi), hl, e]
  by_cases c1 : i < x
  · rw [if_pos c1, if_neg (by omega), ins_cell hx a hi, if_pos c1]
  · rw [if_neg c1]
    by_cases c2 : i < l.length - n
    · rw [if_pos c2, if_neg (by omega), ins_cell hx a (by omega), if_neg (by omega), if_neg (by omega), Nat.add_sub_cancel]
    · rw [if_neg c2, if_pos (by omega)]
end Go.Proofs.Ytifolcfnknlmdaa.Rw
