/- Layer 15: the document's Paragraphs. -/
import Derived.Test.YtifolcfnknlmdaaReE
import Derived.Test.YtifolcfnknlmdaaReG
set_option linter.unusedVariables false
namespace Go.Proofs.Ytifolcfnknlmdaa.Re
open Go.RowKit Go.Proofs.Ytifolcfnknlmdaa.Rw

def nilS : Value := .slice none 0 0
def rowsOf (us : List Value) : List (List Value) := us.map fun u => [u]
def intsOf (fs : List Nat) : List (List Value) := fs.map fun k : Nat => [.int .i64 (k : Int)]
theorem rows_snoc (us : List Value) (u : Value) : rowsOf (us ++ [u]) = rowsOf us ++ [[u]] := by simp [rowsOf]
theorem ints_snoc (fs : List Nat) (k : Nat) : intsOf (fs ++ [k]) = intsOf fs ++ [[.int .i64 (k : Int)]] := by simp [intsOf]
/-- Rows of the call's own, in a table of its own; numbers beside it. -/
structure PState (B : Nat) (V : World) (vo vf : Value) (us : List Value) (ps : List (List Ce)) (fs : List Nat) : Prop where
  out : OwnG 28 1 V B vo (rowsOf us)
  len : us.length = ps.length
  rows : ∀ k, k < ps.length → OwnC V B (us.getD k nilS) (ps.getD k [])
  fst : OwnG 3 1 V B vf (intsOf fs)
theorem cell_ne_row : 38 ≠ 28 := by decide
theorem int_ne_row : 3 ≠ 28 := by decide
theorem cell_ne_int : 38 ≠ 3 := by decide
namespace PState
variable {B : Nat} {V V' : World} {vo vf v' : Value} {us : List Value} {ps : List (List Ce)} {fs : List Nat}
theorem keep (h : PState B V vo vf us ps fs) (hk : ∀ g, g < V.heap.size → V'.heap[g]? = V.heap[g]?) : PState B V' vo vf us ps fs :=
  ⟨ownG_keep h.out fun g e => hk g (ownG_typed h.out g e).2.1, h.len, fun k hk' => own_keep (h.rows k hk') fun g e => hk g (own_lt (h.rows k hk') g e), ownG_keep h.fst fun g e => hk g (ownG_typed h.fst g e).2.1⟩
theorem below (h : PState B V vo vf us ps fs) (hb : Below V.heap.size V V') : PState B V' vo vf us ps fs := h.keep fun g hg => hb.block g hg
/-- One more number. -/
theorem first (h : PState B V vo vf us ps fs) {f : Nat} (ho : OwnG 3 1 V' B v' (intsOf (fs ++ [f]))) (hg : V.grownBy V' vf.ownBlock) : PState B V' vo v' us ps (fs ++ [f]) := by
  refine ⟨ownG_keep h.out fun g e => ?_, h.len, fun k hk' => own_keep (h.rows k hk') fun g e => ?_, ho⟩
  · obtain ⟨_, hlt, cur, hc⟩ := ownG_typed h.out g e
    refine hg.block g hlt fun e2 => ?_
    obtain ⟨_, _, cur2, hc2⟩ := ownG_typed h.fst g e2.symm
    exact typed_ne hc2 hc int_ne_row rfl
  · obtain ⟨_, hlt, cur, hc⟩ := ownC_typed (h.rows k hk') g e
    refine hg.block g hlt fun e2 => ?_
    obtain ⟨_, _, cur2, hc2⟩ := ownG_typed h.fst g e2.symm
    exact typed_ne hc hc2 cell_ne_int rfl
/-- One more row. -/
theorem more (h : PState B V vo vf us ps fs) {u : Value} {p : List Ce} (hp : OwnC V B u p) (ho : OwnG 28 1 V' B v' (rowsOf (us ++ [u]))) (hg : V.grownBy V' vo.ownBlock) : PState B V' v' vf (us ++ [u]) (ps ++ [p]) fs := by
  have hrow : ∀ (u : Value) (p : List Ce), OwnC V B u p → OwnC V' B u p := fun u p hu => own_keep hu fun g e => by
    obtain ⟨_, hlt, cur, hc⟩ := ownC_typed hu g e
    refine hg.block g hlt fun e2 => ?_
    obtain ⟨_, _, cur2, hc2⟩ := ownG_typed h.out g e2.symm
    exact typed_ne hc hc2 cell_ne_row rfl
  refine ⟨ho, by rw [List.length_append, List.length_append, h.len]; rfl, fun k hk' => ?_, ownG_keep h.fst fun g e => ?_⟩
  · by_cases hlt : k < ps.length
    · have e1 : (us ++ [u]).getD k nilS = us.getD k nilS := by rw [List.getD_eq_getElem?_getD, List.getD_eq_getElem?_getD, List.getElem?_append_left (by rw [h.len]; exact hlt)]
      have e2 : (ps ++ [p]).getD k [] = ps.getD k [] := by rw [List.getD_eq_getElem?_getD, List.getD_eq_getElem?_getD, List.getElem?_append_left hlt]
      rw [e1, e2]
      exact hrow _ _ (h.rows k hlt)
    · have hk2 : k = ps.length := by rw [List.length_append, List.length_singleton] at hk'; omega
      subst hk2
      have e1 : (us ++ [u]).getD ps.length nilS = u := by rw [← h.len, List.getD_eq_getElem?_getD, List.getElem?_append_right (Nat.le_refl _), Nat.sub_self]; rfl
      have e2 : (ps ++ [p]).getD ps.length [] = p := by rw [List.getD_eq_getElem?_getD, List.getElem?_append_right (Nat.le_refl _), Nat.sub_self]; rfl
      rw [e1, e2]
      exact hrow _ _ hp
  · obtain ⟨_, hlt, cur, hc⟩ := ownG_typed h.fst g e
    refine hg.block g hlt fun e2 => ?_
    obtain ⟨_, _, cur2, hc2⟩ := ownG_typed h.out g e2.symm
    exact typed_ne hc hc2 int_ne_row rfl
theorem none (V : World) (B : Nat) : PState B V (.slice none 0 0) (.slice none 0 0) [] [] [] := ⟨ownG_none _ _, rfl, fun k hk => by simp at hk, ownG_none _ _⟩
end PState
/-- What Paragraphs answers. -/
def ParasPost (w : World) (l : List LnC) (e : Ending) (w' : World) : Prop := ∃ t f us, e = .returned (.tuple #[t, f]) ∧ PState w.heap.size w' t f us (paras blC l) (startsB 0 l) ∧ Below w.heap.size w w'

/-! ### plain -/
def cntN (a : LnC) : Nat := if a.joined && a.short then a.cells.length - 1 else a.cells.length
theorem cnt_take (a : LnC) : cnt a = a.cells.take (cntN a) := by
  unfold cnt cntN
  split
  · exact List.dropLast_eq_take
  · rw [List.take_length]
theorem cntN_le (a : LnC) : cntN a ≤ a.cells.length := by unfold cntN; split <;> omega
def sumV (l : List LnC) : Nat := (l.map fun a => a.cells.length).sum
theorem sum_cons (a : LnC) (l : List LnC) : sumV (a :: l) = a.cells.length + sumV l := by simp [sumV]
theorem drop_at {l : List LnC} {j : Nat} (h : j < l.length) : l.drop j = l.getD j noLn :: l.drop (j + 1) := by
  rw [List.drop_eq_getElem_cons h, List.getD_eq_getElem?_getD, List.getElem?_eq_getElem h]
  rfl
theorem sum_drop (l : List LnC) (j : Nat) : sumV (l.drop j) ≤ sumV l := by
  induction l generalizing j with
  | nil => simp [sumV]
  | cons a l ih =>
    cases j with
    | zero => exact Nat.le_refl _
    | succ j => rw [List.drop_succ_cons, sum_cons]; have := ih j; omega
/-- One blank less. -/
theorem trim_less (p : List Ce) (m : Nat) (h : m < p.length) (hb : cellV p m = blC) : trim blC (p.take (m + 1)) = trim blC (p.take m) := by
  have e : p.take (m + 1) = p.take m ++ List.replicate 1 blC := by
    rw [List.take_add_one, List.getElem?_eq_getElem h]
    have : p[m] = blC := by
      rw [← hb]
      unfold cellV
      rw [List.getD_eq_getElem?_getD, List.getElem?_eq_getElem h]
      rfl
    rw [this]
    rfl
  rw [e, trim_blanks]
theorem trim_keep (p : List Ce) (m : Nat) (h : m < p.length) (hb : cellV p m ≠ blC) : trim blC (p.take (m + 1)) = p.take (m + 1) := by
  have e : p.take (m + 1) = p.take m ++ [cellV p m] := by
    rw [List.take_add_one, List.getElem?_eq_getElem h]
    have : cellV p m = p[m] := by
      unfold cellV
      rw [List.getD_eq_getElem?_getD, List.getElem?_eq_getElem h]
      rfl
    rw [this]
    rfl
  rw [e]
  unfold trim
  rw [List.reverse_append, List.reverse_singleton, List.singleton_append, List.dropWhile_cons_of_neg (by simpa using hb)]
  simp
end Go.Proofs.Ytifolcfnknlmdaa.Re
