/- Layer 12: the document's lists are the stops (plain). -/
import Derived.Test.YtfkiihddcinckaaTbG
set_option linter.unusedVariables false
namespace Go.Proofs.Ytfkiihddcinckaa.Tb

theorem is_iff {l : List Nat} {x : Int} : isL l x = true ↔ 0 ≤ x ∧ x.toNat ∈ l := by
  unfold isL
  rw [List.any_eq_true]
  constructor
  · rintro ⟨k, hk, h⟩
    have e : (k : Int) = x := by simpa using h
    have : x.toNat = k := by omega
    exact ⟨by omega, by rw [this]; exact hk⟩
  · rintro ⟨h0, h1⟩
    exact ⟨x.toNat, h1, by simp; omega⟩
theorem is_st (bs : List Bool) (x : Int) : isL (stL bs) x = clrOk bs x := by
  have h : isL (stL bs) x = true ↔ clrOk bs x = true := by rw [is_iff, clrOk_iff, st_mem]
  cases h1 : isL (stL bs) x <;> cases h2 : clrOk bs x <;> simp_all
theorem is_at (bs : List Bool) (k : Nat) : isL (stL bs) (k : Int) = atB bs k := by
  rw [is_st]
  unfold clrOk
  simp
theorem set_ok (bs : List Bool) (x : Int) : setLok bs.length (stL bs) x = setOk bs x := by
  unfold setLok setOk
  rw [is_st]
  unfold clrOk
  by_cases h : 0 ≤ x
  · simp [h]
  · simp [h]
theorem set_st {bs : List Bool} {x : Int} (h : setOk bs x = true) : (List.range bs.length).filter (setP (stL bs) x) = stL (setB bs x) := by
  refine (st_of bs.length _ _ (set_len bs x) fun k hk => ?_).symm
  rw [at_set]
  unfold setP
  rw [is_at]
  by_cases e : (k : Int) = x
  · rw [if_pos ⟨h, e⟩, decide_eq_true e]; rfl
  · rw [if_neg (fun hh => e hh.2), decide_eq_false e]; rfl
theorem set_same {bs : List Bool} {x : Int} (h : setOk bs x = false) : setB bs x = bs := by unfold setB; rw [if_neg (by simp [h])]
theorem clr_same {bs : List Bool} {x : Int} (h : clrOk bs x = false) : clrB bs x = bs := by unfold clrB; rw [if_neg (by simp [h])]
theorem clr_st {bs : List Bool} {x : Int} (h : clrOk bs x = true) : (stL bs).filter (clrP x) = stL (clrB bs x) := by
  rw [st_of bs.length (fun k => decide ((k : Int) ≠ x) && atB bs k) (clrB bs x) (clr_len bs x) (fun k hk => ?_)]
  · unfold stL
    rw [List.filter_filter]
    rfl
  · rw [at_clr]
    by_cases e : (k : Int) = x
    · rw [if_pos ⟨h, e⟩, decide_eq_false (by simpa using e)]; rfl
    · rw [if_neg (fun hh => e hh.2), decide_eq_true (by simpa using e)]; rfl
theorem new_st (x : Int) : (List.range (widthV x)).filter baseB = stL (newB x) := by
  refine (st_of (widthV x) _ _ (new_len x) fun k hk => ?_).symm
  rw [at_new, decide_eq_true hk]; rfl
theorem size_st (bs : List Bool) (x : Int) : (List.range (widthV x)).filter (sizeP bs.length (stL bs)) = stL (sizeB bs x) := by
  refine (st_of (widthV x) _ _ (size_len bs x) fun k hk => ?_).symm
  rw [at_size, decide_eq_true hk]
  unfold sizeP
  rw [is_at]
  by_cases h : k < bs.length
  · rw [if_pos h, decide_eq_true h, decide_eq_false (by omega)]; simp
  · rw [if_neg h, decide_eq_false h, decide_eq_true (by omega)]; simp
theorem next_st (bs : List Bool) (x n : Int) : nextL (stL bs) bs.length x n = nextV bs x n := rfl
theorem prev_st (bs : List Bool) (x n : Int) : prevL (stL bs) x n = prevV bs x n := rfl

/-! ### what Next and Prev are -/
theorem next_at {bs : List Bool} {i j : Nat} (hj : i + j + 1 < (stL bs).length) (n : Int) (hn : n = (j : Int) + 1) : nextV bs ((stL bs).getD i 0 : Nat) n = (stL bs).getD (i + j + 1) 0 := by
  have hr := st_rise bs
  unfold nextV
  generalize bs.length - 1 = d
  generalize stL bs = L at *
  have hn2 : nthV n = j := by unfold nthV; omega
  rw [hn2]
  have key : (L.filter fun k : Nat => decide (((L.getD i 0 : Nat) : Int) < (k : Int))) = L.drop (i + 1) := by
    have e : L = L.take (i + 1) ++ L.drop (i + 1) := (List.take_append_drop _ _).symm
    have hi : i < L.length := by omega
    have hgi : L.getD i 0 = L[i] := by rw [List.getD_eq_getElem?_getD, List.getElem?_eq_getElem hi]; rfl
    have h1 : ((L.take (i + 1)).filter fun k : Nat => decide (((L.getD i 0 : Nat) : Int) < (k : Int))) = [] := by
      refine List.filter_eq_nil_iff.2 fun k hk => ?_
      obtain ⟨m, hm, rfl⟩ := List.mem_iff_getElem.1 hk
      rw [List.length_take] at hm
      rw [List.getElem_take, hgi]
      have : L[m] ≤ L[i] := by
        by_cases hmi : m = i
        · subst hmi; exact Nat.le_refl _
        · exact Nat.le_of_lt (List.pairwise_iff_getElem.1 hr m i (by omega) hi (by omega))
      simp; omega
    have h2 : ((L.drop (i + 1)).filter fun k : Nat => decide (((L.getD i 0 : Nat) : Int) < (k : Int))) = L.drop (i + 1) := by
      refine List.filter_eq_self.2 fun k hk => ?_
      obtain ⟨m, hm, rfl⟩ := List.mem_iff_getElem.1 hk
      rw [List.length_drop] at hm
      rw [List.getElem_drop, hgi]
      have := List.pairwise_iff_getElem.1 hr i (i + 1 + m) hi (by omega) (by omega)
      simp; omega
    conv => lhs; rw [e]
    rw [List.filter_append]
    rw [← e, h1, h2, List.nil_append]
  rw [key]
  rw [List.getD_eq_getElem?_getD, List.getElem?_drop, List.getD_eq_getElem?_getD, show i + 1 + j = i + j + 1 by omega, List.getElem?_eq_getElem hj]
  rfl
theorem prev_at {bs : List Bool} {i j : Nat} (hj : i + j + 1 < (stL bs).length) (n : Int) (hn : n = (j : Int) + 1) : prevV bs ((stL bs).getD (i + j + 1) 0 : Nat) n = (stL bs).getD i 0 := by
  have hr := st_rise bs
  unfold prevV
  generalize stL bs = L at *
  have hn2 : nthV n = j := by unfold nthV; omega
  rw [hn2]
  have key : (L.filter fun k : Nat => decide ((k : Int) < ((L.getD (i + j + 1) 0 : Nat) : Int))) = L.take (i + j + 1) := by
    have e : L = L.take (i + j + 1) ++ L.drop (i + j + 1) := (List.take_append_drop _ _).symm
    have hgi : L.getD (i + j + 1) 0 = L[i + j + 1] := by rw [List.getD_eq_getElem?_getD, List.getElem?_eq_getElem hj]; rfl
    have h1 : ((L.drop (i + j + 1)).filter fun k : Nat => decide ((k : Int) < ((L.getD (i + j + 1) 0 : Nat) : Int))) = [] := by
      refine List.filter_eq_nil_iff.2 fun k hk => ?_
      obtain ⟨m, hm, rfl⟩ := List.mem_iff_getElem.1 hk
      rw [List.length_drop] at hm
      rw [List.getElem_drop, hgi]
      have : L[i + j + 1] ≤ L[i + j + 1 + m] := by
        by_cases hmi : m = 0
        · subst hmi; exact Nat.le_refl _
        · exact Nat.le_of_lt (List.pairwise_iff_getElem.1 hr (i + j + 1) (i + j + 1 + m) hj (by omega) (by omega))
      simp; omega
    have h2 : ((L.take (i + j + 1)).filter fun k : Nat => decide ((k : Int) < ((L.getD (i + j + 1) 0 : Nat) : Int))) = L.take (i + j + 1) := by
      refine List.filter_eq_self.2 fun k hk => ?_
      obtain ⟨m, hm, rfl⟩ := List.mem_iff_getElem.1 hk
      rw [List.length_take] at hm
      rw [List.getElem_take, hgi]
      have := List.pairwise_iff_getElem.1 hr m (i + j + 1) (by omega) hj (by omega)
      simp; omega
    conv => lhs; rw [e]
    rw [List.filter_append]
    rw [← e, h1, h2, List.append_nil]
  rw [List.filter_reverse, key]
  have hl : j < (L.take (i + j + 1)).reverse.length := by rw [List.length_reverse, List.length_take]; omega
  rw [List.getD_eq_getElem?_getD, List.getElem?_eq_getElem hl, List.getD_eq_getElem?_getD, List.getElem?_eq_getElem (show i < L.length by omega)]
  simp only [Option.getD_some]
  rw [List.getElem_reverse, List.getElem_take]
  congr 1
  rw [List.length_take]
  omega
theorem st_lt_len {bs : List Bool} {k : Nat} (h : k ∈ stL bs) : k < bs.length := at_lt (st_mem.1 h)
theorem next_last {bs : List Bool} (h : bs.length ≤ 400) : nextV bs 1000 1 = bs.length - 1 := by
  unfold nextV
  rw [List.filter_eq_nil_iff.2 (fun k hk => by have := st_lt_len hk; simp; omega)]
  rfl
theorem next_in (bs : List Bool) (x n : Int) : nextV bs x n = bs.length - 1 ∨ nextV bs x n ∈ stL bs := by
  unfold nextV
  generalize hF : (stL bs).filter (fun k : Nat => decide (x < (k : Int))) = F
  by_cases h : nthV n < F.length
  · right
    have h1 : F[nthV n] ∈ F := List.getElem_mem h
    have h2 : F[nthV n] ∈ (stL bs).filter (fun k : Nat => decide (x < (k : Int))) := by rw [hF]; exact h1
    rw [List.getD_eq_getElem?_getD, List.getElem?_eq_getElem h]
    exact (List.mem_filter.1 h2).1
  · left
    rw [List.getD_eq_getElem?_getD, List.getElem?_eq_none (by omega)]
    rfl
theorem prev_in (bs : List Bool) (x n : Int) : prevV bs x n = 0 ∨ prevV bs x n ∈ stL bs := by
  unfold prevV
  generalize hF : (stL bs).reverse.filter (fun k : Nat => decide ((k : Int) < x)) = F
  by_cases h : nthV n < F.length
  · right
    have h1 : F[nthV n] ∈ F := List.getElem_mem h
    have h2 : F[nthV n] ∈ (stL bs).reverse.filter (fun k : Nat => decide ((k : Int) < x)) := by rw [hF]; exact h1
    rw [List.getD_eq_getElem?_getD, List.getElem?_eq_getElem h]
    exact List.mem_reverse.1 (List.mem_filter.1 h2).1
  · left
    rw [List.getD_eq_getElem?_getD, List.getElem?_eq_none (by omega)]
    rfl
theorem st_step {bs : List Bool} {i : Nat} (h : i + 1 < (stL bs).length) : (stL bs).getD i 0 < (stL bs).getD (i + 1) 0 := by
  rw [List.getD_eq_getElem?_getD, List.getElem?_eq_getElem (show i < (stL bs).length by omega), List.getD_eq_getElem?_getD, List.getElem?_eq_getElem h]
  exact List.pairwise_iff_getElem.1 (st_rise bs) i (i + 1) (by omega) h (by omega)
end Go.Proofs.Ytfkiihddcinckaa.Tb
