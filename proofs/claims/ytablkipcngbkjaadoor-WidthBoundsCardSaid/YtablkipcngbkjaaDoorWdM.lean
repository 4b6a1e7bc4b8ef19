/- Layer 9: how many columns characters have, as lists. Plain mathematics, nothing of the program. -/
import Derived.Lib.Hide
set_option linter.unusedVariables false
namespace Go.Proofs.YtablkipcngbkjaaDoor.Wid

/-- The chapter's lists, in the document's order; the program's, rising. -/
def docT : List (Int × Int × Int) := [(0, 31, 0), (127, 159, 0), (768, 879, 0), (1155, 1161, 0), (1425, 1469, 0), (1552, 1562, 0), (1611, 1631, 0), (8203, 8207, 0), (8400, 8447, 0), (65024, 65039, 0), (65056, 65071, 0), (917760, 917999, 0),
  (4352, 4447, 2), (11904, 12350, 2), (12353, 13311, 2), (13312, 19903, 2), (19968, 40959, 2), (40960, 42191, 2), (44032, 55203, 2), (63744, 64255, 2), (65072, 65135, 2), (65280, 65376, 2), (65504, 65510, 2), (127744, 128591, 2), (129280, 129535, 2), (131072, 262141, 2)]
def proT : List (Int × Int × Int) := [(0, 31, 0), (127, 159, 0), (768, 879, 0), (1155, 1161, 0), (1425, 1469, 0), (1552, 1562, 0), (1611, 1631, 0), (4352, 4447, 2), (8203, 8207, 0), (8400, 8447, 0), (11904, 12350, 2), (12353, 13311, 2), (13312, 19903, 2),
  (19968, 40959, 2), (40960, 42191, 2), (44032, 55203, 2), (63744, 64255, 2), (65024, 65039, 0), (65056, 65071, 0), (65072, 65135, 2), (65280, 65376, 2), (65504, 65510, 2), (127744, 128591, 2), (129280, 129535, 2), (131072, 262141, 2), (917760, 917999, 0)]

def fitsW (r : Int) (x : Int × Int × Int) : Bool := decide (x.1 ≤ r) && decide (r ≤ x.2.1)
/-- The first row that has r; one column where none has. -/
def findW (r : Int) : List (Int × Int × Int) → Int
  | [] => 1
  | x :: l => if fitsW r x then x.2.2 else findW r l
/-- The same, with an end at the first row beyond r. -/
def findS (r : Int) : List (Int × Int × Int) → Int
  | [] => 1
  | x :: l => if r < x.1 then 1 else if r ≤ x.2.1 then x.2.2 else findS r l
def ofV (r : Int) : Int := findW r docT

def risesB (lo : Int) : List (Int × Int × Int) → Bool
  | [] => true
  | x :: l => decide (lo < x.1) && decide (x.1 ≤ x.2.1) && risesB x.2.1 l
theorem rises_cons {lo : Int} {x : Int × Int × Int} {l : List (Int × Int × Int)} (h : risesB lo (x :: l) = true) : lo < x.1 ∧ x.1 ≤ x.2.1 ∧ risesB x.2.1 l = true := by
  simp only [risesB, Bool.and_eq_true, decide_eq_true_eq] at h
  exact ⟨h.1.1, h.1.2, h.2⟩
theorem rises_low {r : Int} : ∀ {l : List (Int × Int × Int)} {lo : Int}, risesB lo l = true → r ≤ lo → ∀ x ∈ l, r < x.1
  | [], _, _, _, _, hx => by cases hx
  | y :: l, lo, h, hr, x, hx => by
    obtain ⟨h1, h2, h3⟩ := rises_cons h
    rcases List.mem_cons.1 hx with rfl | hm
    · omega
    · exact rises_low h3 (by omega) x hm
theorem fits_iff {r : Int} {x : Int × Int × Int} : fitsW r x = true ↔ x.1 ≤ r ∧ r ≤ x.2.1 := by simp [fitsW]
theorem fits_not {r : Int} {x : Int × Int × Int} (h : r < x.1) : fitsW r x = false := by
  cases hf : fitsW r x with
  | false => rfl
  | true => have := (fits_iff.1 hf).1; omega
theorem find_none {r : Int} : ∀ {l : List (Int × Int × Int)}, (∀ x ∈ l, fitsW r x = false) → findW r l = 1
  | [], _ => rfl
  | y :: l, h => by rw [findW, h y (List.mem_cons_self ..)]; exact find_none fun x hx => h x (List.mem_cons_of_mem _ hx)
theorem find_some {r : Int} : ∀ {l : List (Int × Int × Int)} (x : Int × Int × Int), x ∈ l → fitsW r x = true → (∀ y ∈ l, fitsW r y = true → y = x) → findW r l = x.2.2
  | y :: l, x, hx, hf, hu => by
    rw [findW]
    cases hy : fitsW r y with
    | true => rw [hu y (List.mem_cons_self ..) hy]; rfl
    | false =>
      rcases List.mem_cons.1 hx with rfl | hm
      · rw [hf] at hy; cases hy
      · exact find_some x hm hf fun z hz => hu z (List.mem_cons_of_mem _ hz)
theorem findS_eq {r : Int} : ∀ {l : List (Int × Int × Int)} {lo : Int}, risesB lo l = true → findS r l = findW r l
  | [], _, _ => rfl
  | x :: l, lo, h => by
    obtain ⟨h1, h2, h3⟩ := rises_cons h
    by_cases hr : r < x.1
    · rw [findS, if_pos hr, find_none]
      intro y hy
      rcases List.mem_cons.1 hy with rfl | hm
      · exact fits_not hr
      · exact fits_not (rises_low h3 (show r ≤ x.2.1 by omega) y hm)
    · rw [findS, if_neg hr, findW]
      by_cases hr2 : r ≤ x.2.1
      · rw [if_pos hr2, fits_iff.2 ⟨by omega, hr2⟩]; rfl
      · have : fitsW r x = false := by
          cases hf : fitsW r x with
          | false => rfl
          | true => exact absurd (fits_iff.1 hf).2 hr2
        rw [if_neg hr2, this]
        exact findS_eq h3
theorem rises_one {r : Int} : ∀ {l : List (Int × Int × Int)} {lo : Int}, risesB lo l = true → ∀ x ∈ l, ∀ y ∈ l, fitsW r x = true → fitsW r y = true → y = x
  | [], _, _, _, hx, _, _, _, _ => by cases hx
  | z :: l, lo, h, x, hx, y, hy, fx, fy => by
    obtain ⟨h1, h2, h3⟩ := rises_cons h
    have gx := fits_iff.1 fx
    have gy := fits_iff.1 fy
    rcases List.mem_cons.1 hx with rfl | hmx
    · rcases List.mem_cons.1 hy with rfl | hmy
      · rfl
      · have := rises_low h3 gx.2 y hmy; omega
    · rcases List.mem_cons.1 hy with rfl | hmy
      · have := rises_low h3 gy.2 x hmx; omega
      · exact rises_one h3 x hmx y hmy fx fy

theorem pro_rises : risesB (-1) proT = true := by decide +kernel
theorem doc_pro : docT.all (fun x => proT.contains x) = true := by decide +kernel
theorem pro_doc : proT.all (fun x => docT.contains x) = true := by decide +kernel
theorem mem_pro {x : Int × Int × Int} (h : x ∈ docT) : x ∈ proT := by simpa using List.all_eq_true.1 doc_pro x h
theorem mem_doc {x : Int × Int × Int} (h : x ∈ proT) : x ∈ docT := by simpa using List.all_eq_true.1 pro_doc x h

/-- The program's look-up is the document's. -/
theorem findS_pro (r : Int) : findS r proT = ofV r := by
  rw [findS_eq pro_rises]
  by_cases h : ∃ x ∈ proT, fitsW r x = true
  · obtain ⟨x, hx, hf⟩ := h
    rw [find_some x hx hf fun y hy hy' => rises_one pro_rises x hx y hy hf hy']
    exact (find_some x (mem_doc hx) hf fun y hy hy' => rises_one pro_rises x hx y (mem_pro hy) hf hy').symm
  · have hn : ∀ x ∈ proT, fitsW r x = false := fun x hx => by
      cases hf : fitsW r x with
      | false => rfl
      | true => exact absurd ⟨x, hx, hf⟩ h
    rw [find_none hn]
    exact (find_none fun x hx => hn x (mem_pro hx)).symm

theorem find_in {r : Int} : ∀ {l : List (Int × Int × Int)}, (∀ x ∈ l, 0 ≤ x.2.2 ∧ x.2.2 ≤ 2) → 0 ≤ findW r l ∧ findW r l ≤ 2
  | [], _ => by simp [findW]
  | y :: l, h => by
    rw [findW]
    split
    · exact h y (List.mem_cons_self ..)
    · exact find_in fun x hx => h x (List.mem_cons_of_mem _ hx)
theorem doc_in : docT.all (fun x => decide (0 ≤ x.2.2) && decide (x.2.2 ≤ 2)) = true := by decide +kernel
theorem of_in (r : Int) : 0 ≤ ofV r ∧ ofV r ≤ 2 := find_in fun x hx => by simpa using List.all_eq_true.1 doc_in x hx

/-- The look-ups from a row on. -/
theorem findS_drop (r : Int) {l : List (Int × Int × Int)} {k : Nat} (hk : k < l.length) : findS r (l.drop k) = if r < (l[k]).1 then 1 else if r ≤ (l[k]).2.1 then (l[k]).2.2 else findS r (l.drop (k + 1)) := by
  rw [List.drop_eq_getElem_cons hk, findS]
theorem findW_drop (r : Int) {l : List (Int × Int × Int)} {k : Nat} (hk : k < l.length) : findW r (l.drop k) = if fitsW r l[k] then (l[k]).2.2 else findW r (l.drop (k + 1)) := by
  rw [List.drop_eq_getElem_cons hk, findW]

/-- Columns together. -/
def sumV : List Int → Int
  | [] => 0
  | x :: l => ofV x + sumV l
theorem sum_append : ∀ (a b : List Int), sumV (a ++ b) = sumV a + sumV b
  | [], b => by simp [sumV]
  | x :: a, b => by rw [List.cons_append, sumV, sumV, sum_append a b]; omega
theorem sum_in : ∀ (l : List Int), 0 ≤ sumV l ∧ sumV l ≤ 2 * (l.length : Int)
  | [] => by simp [sumV]
  | x :: l => by
    have h1 := sum_in l
    have h2 := of_in x
    rw [sumV, List.length_cons]
    omega
theorem sum_succ {l : List Int} {k : Nat} (hk : k < l.length) : sumV (l.take (k + 1)) = sumV (l.take k) + ofV l[k] := by
  rw [List.take_succ_eq_append_getElem hk, sum_append]
  simp [sumV]
theorem sum_mono {l : List Int} {j k : Nat} (h : j ≤ k) : sumV (l.take j) ≤ sumV (l.take k) := by
  have e : l.take k = l.take j ++ (l.take k).drop j := by
    have := (List.take_append_drop j (l.take k)).symm
    rwa [List.take_take, Nat.min_eq_left h] at this
  rw [e, sum_append]
  have := (sum_in ((l.take k).drop j)).1
  omega

/-- So many of the first characters fit, and no more. -/
structure Fits (l : List Int) (c : Int) (k : Nat) : Prop where
  le : k ≤ l.length
  sum : sumV (l.take k) ≤ c
  next : k < l.length → c < sumV (l.take (k + 1))
theorem Fits.one {l : List Int} {c : Int} {j k : Nat} (h : Fits l c j) (g : Fits l c k) : j = k := by
  rcases Nat.lt_trichotomy j k with hl | he | hl
  · have h1 := h.next (by have := g.le; omega)
    have h2 := g.sum
    have h3 := sum_mono (l := l) (show j + 1 ≤ k by omega)
    omega
  · exact he
  · have h1 := g.next (by have := h.le; omega)
    have h2 := h.sum
    have h3 := sum_mono (l := l) (show k + 1 ≤ j by omega)
    omega
end Go.Proofs.YtablkipcngbkjaaDoor.Wid
