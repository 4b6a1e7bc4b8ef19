/- Layer 12: stops as bools, one a column; the lists that they are; cursors (plain). -/
import Derived.Lib.Hide
namespace Go.Proofs.Ytfkiihddcinckaa.Tb

def widthV (w : Int) : Nat := if w < 1 then 1 else if 400 < w then 400 else w.toNat
theorem width_in (w : Int) : 1 ≤ widthV w ∧ widthV w ≤ 400 := by unfold widthV; split; (· omega); split <;> omega
def baseB (k : Nat) : Bool := decide (0 < k) && k % 8 == 0
def atB (bs : List Bool) (k : Nat) : Bool := bs.getD k false
def newB (w : Int) : List Bool := (List.range (widthV w)).map baseB
def setOk (bs : List Bool) (x : Int) : Bool := decide (0 ≤ x) && decide (x < bs.length) && !atB bs x.toNat
def setB (bs : List Bool) (x : Int) : List Bool := if setOk bs x then bs.set x.toNat true else bs
def clrOk (bs : List Bool) (x : Int) : Bool := decide (0 ≤ x) && atB bs x.toNat
def clrB (bs : List Bool) (x : Int) : List Bool := if clrOk bs x then bs.set x.toNat false else bs
def wipeB (bs : List Bool) : List Bool := List.replicate bs.length false
def sizeB (bs : List Bool) (w : Int) : List Bool := (List.range (widthV w)).map fun k => if k < bs.length then atB bs k else baseB k
/-- The stops, rising. -/
def stL (bs : List Bool) : List Nat := (List.range bs.length).filter fun k => atB bs k
def nthV (n : Int) : Nat := (max n 1).toNat - 1
def nextV (bs : List Bool) (x n : Int) : Nat := ((stL bs).filter fun k : Nat => decide (x < (k : Int))).getD (nthV n) (bs.length - 1)
def prevV (bs : List Bool) (x n : Int) : Nat := ((stL bs).reverse.filter fun k : Nat => decide ((k : Int) < x)).getD (nthV n) 0

/-! ### lengths, places -/
theorem at_lt {bs : List Bool} {k : Nat} (h : atB bs k = true) : k < bs.length := by
  unfold atB at h
  by_cases hk : k < bs.length
  · exact hk
  · rw [List.getD_eq_getElem?_getD, List.getElem?_eq_none (by omega)] at h
    cases h
theorem at_get {bs : List Bool} {k : Nat} (h : k < bs.length) : atB bs k = bs[k] := by
  unfold atB
  rw [List.getD_eq_getElem?_getD, List.getElem?_eq_getElem h]
  rfl
theorem at_ge {bs : List Bool} {k : Nat} (h : bs.length ≤ k) : atB bs k = false := by
  unfold atB
  rw [List.getD_eq_getElem?_getD, List.getElem?_eq_none h]
  rfl
theorem new_len (w : Int) : (newB w).length = widthV w := by simp [newB]
theorem set_len (bs : List Bool) (x : Int) : (setB bs x).length = bs.length := by unfold setB; split <;> simp
theorem clr_len (bs : List Bool) (x : Int) : (clrB bs x).length = bs.length := by unfold clrB; split <;> simp
theorem wipe_len (bs : List Bool) : (wipeB bs).length = bs.length := by simp [wipeB]
theorem size_len (bs : List Bool) (w : Int) : (sizeB bs w).length = widthV w := by simp [sizeB]
theorem at_map (n k : Nat) (f : Nat → Bool) : atB ((List.range n).map f) k = (decide (k < n) && f k) := by
  by_cases h : k < n
  · rw [at_get (by simpa using h)]
    simp [h]
  · rw [at_ge (by simp; omega)]
    simp [h]
theorem at_new (w : Int) (k : Nat) : atB (newB w) k = (decide (k < widthV w) && baseB k) := at_map _ _ _
theorem at_size (bs : List Bool) (w : Int) (k : Nat) : atB (sizeB bs w) k = (decide (k < widthV w) && if k < bs.length then atB bs k else baseB k) := at_map _ _ _
theorem at_wipe (bs : List Bool) (k : Nat) : atB (wipeB bs) k = false := by
  by_cases h : k < bs.length
  · rw [at_get (by rw [wipe_len]; exact h)]
    simp [wipeB]
  · exact at_ge (by rw [wipe_len]; omega)
theorem at_put (bs : List Bool) (j k : Nat) (b : Bool) (hj : j < bs.length) : atB (bs.set j b) k = if k = j then b else atB bs k := by
  by_cases h : k < bs.length
  · rw [at_get (by rw [List.length_set]; exact h), at_get h, List.getElem_set]
    by_cases e : j = k
    · subst e; simp
    · rw [if_neg e, if_neg (fun h => e h.symm)]
  · rw [at_ge (by rw [List.length_set]; omega), at_ge (by omega), if_neg (by omega)]
theorem setOk_iff {bs : List Bool} {x : Int} : setOk bs x = true ↔ 0 ≤ x ∧ x < bs.length ∧ atB bs x.toNat = false := by
  unfold setOk; simp [and_assoc]
theorem clrOk_iff {bs : List Bool} {x : Int} : clrOk bs x = true ↔ 0 ≤ x ∧ atB bs x.toNat = true := by
  unfold clrOk; simp
theorem at_set (bs : List Bool) (x : Int) (k : Nat) : atB (setB bs x) k = if setOk bs x = true ∧ (k : Int) = x then true else atB bs k := by
  unfold setB
  by_cases h : setOk bs x = true
  · rw [if_pos h]
    have := setOk_iff.1 h
    rw [at_put _ _ _ _ (by omega)]
    by_cases e : k = x.toNat
    · rw [if_pos e, if_pos ⟨h, by omega⟩]
    · rw [if_neg e, if_neg (fun hh => e (by omega))]
  · rw [if_neg h, if_neg (fun hh => h hh.1)]
theorem at_clr (bs : List Bool) (x : Int) (k : Nat) : atB (clrB bs x) k = if clrOk bs x = true ∧ (k : Int) = x then false else atB bs k := by
  unfold clrB
  by_cases h : clrOk bs x = true
  · rw [if_pos h]
    have := clrOk_iff.1 h
    have hl := at_lt this.2
    rw [at_put _ _ _ _ hl]
    by_cases e : k = x.toNat
    · rw [if_pos e, if_pos ⟨h, by omega⟩]
    · rw [if_neg e, if_neg (fun hh => e (by omega))]
  · rw [if_neg h, if_neg (fun hh => h hh.1)]

/-! ### the list -/
theorem st_mem {bs : List Bool} {k : Nat} : k ∈ stL bs ↔ atB bs k = true := by
  unfold stL
  rw [List.mem_filter, List.mem_range]
  exact ⟨fun h => h.2, fun h => ⟨at_lt h, h⟩⟩
theorem st_rise (bs : List Bool) : (stL bs).Pairwise (· < ·) := List.Pairwise.filter _ List.pairwise_lt_range
theorem st_of (W : Nat) (p : Nat → Bool) (bs : List Bool) (hl : bs.length = W) (h : ∀ k, k < W → atB bs k = p k) : stL bs = (List.range W).filter p := by
  unfold stL
  rw [hl]
  exact List.filter_congr fun k hk => h k (List.mem_range.1 hk)
theorem st_wipe (bs : List Bool) : stL (wipeB bs) = [] := by
  rw [st_of bs.length (fun _ => false) _ (wipe_len bs) (fun k _ => at_wipe bs k)]
  exact List.filter_eq_nil_iff.2 (by simp)
theorem st_len (bs : List Bool) : (stL bs).length ≤ bs.length := by
  have := List.length_filter_le (fun k => atB bs k) (List.range bs.length)
  rwa [List.length_range] at this

/-! ### cursors -/
def nearV (n low high : Int) : Int := if n < low then low else if n > high then high else n
def mayB (W H T B : Int) : Bool := decide (1 ≤ W) && decide (W ≤ 400) && decide (1 ≤ H) && decide (H ≤ 400) && decide (0 ≤ T) && decide (B ≤ H - 1) && decide (T ≤ B)
theorem may_iff {W H T B : Int} : mayB W H T B = true ↔ (1 ≤ W ∧ W ≤ 400) ∧ (1 ≤ H ∧ H ≤ 400) ∧ 0 ≤ T ∧ B ≤ H - 1 ∧ T ≤ B := by
  unfold mayB; simp [and_assoc]
/-- n steps up to an end above; down to an end below. -/
def stepUp (y n e : Int) : Int := y - min (max n 1) (y - e)
def stepDown (y n e : Int) : Int := y + min (max n 1) (e - y)
def upV (H T y n : Int) : Int := stepUp (nearV y 0 (H - 1)) n (if nearV y 0 (H - 1) ≥ T then T else 0)
def downV (H B y n : Int) : Int := stepDown (nearV y 0 (H - 1)) n (if nearV y 0 (H - 1) ≤ B then B else H - 1)
def leftV (W x n : Int) : Int := stepUp (nearV x 0 (W - 1)) n 0
def aheadV (W x n : Int) : Int := stepDown (nearV x 0 (W - 1)) n (W - 1)
def toxV (W x : Int) : Int := nearV x 0 (W - 1)
def toyV (H T B : Int) (o : Bool) (y : Int) : Int := if o then T + nearV y 0 (B - T) else nearV y 0 (H - 1)
theorem near_in {n low high : Int} (h : low ≤ high) : low ≤ nearV n low high ∧ nearV n low high ≤ high := by
  unfold nearV; split; (· omega); split <;> omega
theorem near_same {n low high : Int} (h1 : low ≤ n) (h2 : n ≤ high) : nearV n low high = n := by
  unfold nearV; rw [if_neg (by omega), if_neg (by omega)]
end Go.Proofs.Ytfkiihddcinckaa.Tb
