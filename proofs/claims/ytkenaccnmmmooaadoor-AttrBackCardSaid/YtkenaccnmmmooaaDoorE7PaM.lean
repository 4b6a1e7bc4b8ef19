/- Layer 7: the parameters of bytes, as lists; the document's road to them; parameters in digits. Plain mathematics, nothing of the program. -/
import Derived.Lib.ItoaNum
import Derived.Lib.Hide
set_option linter.unusedVariables false
namespace Go.Proofs.YtkenaccnmmmooaaDoor.P7.Par

/-- A list that is not empty: the parameters ahead of the last one, the last one's parts ahead of its last one, that part; m: 0: open, 1: what comes does nothing up to the next ;, 2: for good. -/
structure PS where
  ps : List (List Nat)
  one : List Nat
  n : Nat
  m : Nat

def step1 (p : PS) (c : Nat) : PS :=
  if p.m = 2 then p
  else if c = 59 then (if p.ps.length + 1 < 16 then ⟨p.ps ++ [p.one ++ [p.n]], [], 0, 0⟩ else { p with m := 2 })
  else if p.m = 1 then p
  else if c = 58 then (if p.one.length + 1 < 8 then { p with one := p.one ++ [p.n], n := 0 } else { p with m := 1 })
  else { p with n := if 9999 < 10 * p.n + (c - 48) then 9999 else 10 * p.n + (c - 48) }
def inB (c : Nat) : Bool := decide (48 ≤ c) && decide (c ≤ 59)
/-- A byte comes. -/
def comes (o : Option PS) (c : Nat) : Option PS := if inB c then some (step1 (o.getD ⟨[], [], 0, 0⟩) c) else o
def runP (o : Option PS) : List UInt8 → Option PS
  | [] => o
  | b :: l => runP (comes o b.toNat) l
def listP : Option PS → List (List Nat)
  | none => []
  | some p => p.ps ++ [p.one ++ [p.n]]
/-- The parameters of bytes. -/
def parsV (l : List UInt8) : List (List Nat) := listP (runP none l)

theorem runP_append (o : Option PS) (l m : List UInt8) : runP o (l ++ m) = runP (runP o l) m := by
  induction l generalizing o with
  | nil => rfl
  | cons b l ih => exact ih _

/-! ### what a list is -/
structure OkP (p : PS) : Prop where
  ps : p.ps.length < 16
  one : p.one.length < 8
  n : p.n ≤ 9999
  parts : ∀ x ∈ p.one, x ≤ 9999
  all : ∀ q ∈ p.ps, 1 ≤ q.length ∧ q.length ≤ 8 ∧ ∀ x ∈ q, x ≤ 9999
  m : p.m ≤ 2
  m1 : p.m = 1 → p.one.length = 7
  m2 : p.m = 2 → p.ps.length = 15

theorem OkP.last {p : PS} (h : OkP p) : 1 ≤ (p.one ++ [p.n]).length ∧ (p.one ++ [p.n]).length ≤ 8 ∧ ∀ x ∈ p.one ++ [p.n], x ≤ 9999 := by
  refine ⟨by simp, by have := h.one; simp; omega, fun x hx => ?_⟩
  rcases List.mem_append.1 hx with hx | hx
  · exact h.parts x hx
  · rw [List.mem_singleton.1 hx]; exact h.n
theorem ok_new : OkP ⟨[], [], 0, 0⟩ := ⟨by decide, by decide, by decide, by simp, by simp, by decide, by simp, by simp⟩

theorem ok_step {p : PS} (h : OkP p) (c : Nat) : OkP (step1 p c) := by
  unfold step1
  by_cases h2 : p.m = 2
  · rw [if_pos h2]; exact h
  rw [if_neg h2]
  by_cases h59 : c = 59
  · rw [if_pos h59]
    by_cases hl : p.ps.length + 1 < 16
    · rw [if_pos hl]
      refine ⟨by simpa using hl, by simp, by simp, by simp, fun q hq => ?_, by simp, by simp, by simp⟩
      rcases List.mem_append.1 hq with hq | hq
      · exact h.all q hq
      · rw [List.mem_singleton.1 hq]; exact h.last
    · rw [if_neg hl]
      have hp := h.ps
      exact ⟨h.ps, h.one, h.n, h.parts, h.all, by simp, by simp, fun _ => by show p.ps.length = 15; omega⟩
  rw [if_neg h59]
  by_cases h1 : p.m = 1
  · rw [if_pos h1]; exact h
  rw [if_neg h1]
  by_cases h58 : c = 58
  · rw [if_pos h58]
    by_cases hl : p.one.length + 1 < 8
    · rw [if_pos hl]
      refine ⟨h.ps, by simpa using hl, by simp, fun x hx => ?_, h.all, h.m, fun e => absurd e h1, fun e => absurd e h2⟩
      rcases List.mem_append.1 hx with hx | hx
      · exact h.parts x hx
      · rw [List.mem_singleton.1 hx]; exact h.n
    · rw [if_neg hl]
      have hp := h.one
      exact ⟨h.ps, h.one, h.n, h.parts, h.all, by simp, fun _ => by show p.one.length = 7; omega, by simp⟩
  rw [if_neg h58]
  refine ⟨h.ps, h.one, ?_, h.parts, h.all, h.m, h.m1, h.m2⟩
  by_cases h9 : 9999 < 10 * p.n + (c - 48)
  · show (if 9999 < 10 * p.n + (c - 48) then 9999 else 10 * p.n + (c - 48)) ≤ 9999
    rw [if_pos h9]; exact Nat.le_refl _
  · show (if 9999 < 10 * p.n + (c - 48) then 9999 else 10 * p.n + (c - 48)) ≤ 9999
    rw [if_neg h9]; exact Nat.le_of_not_lt h9

def OkO (o : Option PS) : Prop := ∀ p, o = some p → OkP p
theorem ok_comes {o : Option PS} (h : OkO o) (c : Nat) : OkO (comes o c) := by
  unfold comes
  by_cases hc : inB c
  · rw [if_pos hc]
    intro p hp
    rw [← Option.some.inj hp]
    cases o with
    | none => exact ok_step ok_new c
    | some q => exact ok_step (h q rfl) c
  · rw [if_neg hc]; exact h
theorem ok_run {o : Option PS} (h : OkO o) (l : List UInt8) : OkO (runP o l) := by
  induction l generalizing o with
  | nil => exact h
  | cons b l ih => exact ih (ok_comes h _)
theorem ok_none : OkO none := fun p hp => by cases hp

theorem list_ok {o : Option PS} (h : OkO o) : (listP o).length ≤ 16 ∧ ∀ q ∈ listP o, 1 ≤ q.length ∧ q.length ≤ 8 ∧ ∀ x ∈ q, x ≤ 9999 := by
  cases o with
  | none => exact ⟨by simp [listP], by simp [listP]⟩
  | some p =>
    have hp := h p rfl
    refine ⟨by have := hp.ps; simp [listP]; omega, fun q hq => ?_⟩
    rcases List.mem_append.1 hq with hq | hq
    · exact hp.all q hq
    · rw [List.mem_singleton.1 hq]; exact hp.last
theorem pars_ok (l : List UInt8) : (parsV l).length ≤ 16 ∧ ∀ q ∈ parsV l, 1 ≤ q.length ∧ q.length ≤ 8 ∧ ∀ x ∈ q, x ≤ 9999 := list_ok (ok_run ok_none l)

/-! ### what comes behind -/
/-- The parameters ahead stay. -/
def Keeps (pre : List (List Nat)) (o : Option PS) : Prop := ∃ p r, o = some p ∧ (p.ps = pre ++ r ∨ (p.m = 2 ∧ listP o = pre))
theorem keeps_step {pre : List (List Nat)} {p : PS} {r : List (List Nat)} (h : p.ps = pre ++ r ∨ (p.m = 2 ∧ p.ps ++ [p.one ++ [p.n]] = pre)) (c : Nat) : Keeps pre (some (step1 p c)) := by
  rcases h with h | ⟨h, h'⟩
  · unfold step1
    by_cases h2 : p.m = 2
    · rw [if_pos h2]; exact ⟨p, r, rfl, Or.inl h⟩
    rw [if_neg h2]
    by_cases h59 : c = 59
    · rw [if_pos h59]
      by_cases hl : p.ps.length + 1 < 16
      · rw [if_pos hl]; exact ⟨_, r ++ [p.one ++ [p.n]], rfl, Or.inl (by show p.ps ++ _ = _; rw [h, List.append_assoc])⟩
      · rw [if_neg hl]; exact ⟨_, r, rfl, Or.inl h⟩
    rw [if_neg h59]
    by_cases h1 : p.m = 1
    · rw [if_pos h1]; exact ⟨p, r, rfl, Or.inl h⟩
    rw [if_neg h1]
    by_cases h58 : c = 58
    · rw [if_pos h58]
      by_cases hl : p.one.length + 1 < 8
      · rw [if_pos hl]; exact ⟨_, r, rfl, Or.inl h⟩
      · rw [if_neg hl]; exact ⟨_, r, rfl, Or.inl h⟩
    rw [if_neg h58]
    exact ⟨_, r, rfl, Or.inl h⟩
  · unfold step1
    rw [if_pos h]
    exact ⟨p, [], rfl, Or.inr ⟨h, h'⟩⟩
theorem keeps_comes {pre : List (List Nat)} {o : Option PS} (h : Keeps pre o) (c : Nat) : Keeps pre (comes o c) := by
  obtain ⟨p, r, rfl, h⟩ := h
  unfold comes
  by_cases hc : inB c
  · rw [if_pos hc]; exact keeps_step h c
  · rw [if_neg hc]; exact ⟨p, r, rfl, h⟩
theorem keeps_run {pre : List (List Nat)} {o : Option PS} (h : Keeps pre o) (l : List UInt8) : Keeps pre (runP o l) := by
  induction l generalizing o with
  | nil => exact h
  | cons b l ih => exact ih (keeps_comes h _)
theorem keeps_list {pre : List (List Nat)} {o : Option PS} (h : Keeps pre o) : ∃ r, listP o = pre ++ r := by
  obtain ⟨p, r, rfl, h | ⟨_, h⟩⟩ := h
  · exact ⟨r ++ [p.one ++ [p.n]], by simp [listP, h]⟩
  · exact ⟨[], by rw [h]; simp⟩

/-- Behind a ; what was ahead of it stays. -/
theorem pars_keep (s t : List UInt8) : ∃ r, parsV (s ++ 59 :: t) = parsV s ++ r := by
  unfold parsV
  rw [runP_append]
  show ∃ r, listP (runP (comes (runP none s) 59) t) = _
  apply keeps_list
  apply keeps_run
  have hin : inB 59 = true := rfl
  unfold comes
  rw [if_pos hin]
  cases h : runP none s with
  | none => exact keeps_step (r := []) (Or.inl rfl) 59
  | some p =>
    show Keeps (listP (some p)) (some (step1 p 59))
    have ho : OkP p := ok_run ok_none s p h
    unfold step1
    by_cases h2 : p.m = 2
    · rw [if_pos h2]; exact ⟨p, [], rfl, Or.inr ⟨h2, rfl⟩⟩
    rw [if_neg h2, if_pos rfl]
    by_cases hl : p.ps.length + 1 < 16
    · rw [if_pos hl]; exact ⟨_, [], rfl, Or.inl (by simp [listP])⟩
    · rw [if_neg hl]; exact ⟨_, [], rfl, Or.inr ⟨rfl, rfl⟩⟩

/-! ### the document's road -/
structure RS where
  all : List (List Nat)
  one : List Nat
  n : Nat
  any : Bool
  parts : Nat
def rnew : RS := ⟨[], [], 0, false, 1⟩
/-- One round of the document's loop, at a byte from 30 to 3b; last: the ; that it lays behind. -/
def rstep (last : Bool) (r : RS) (c : Nat) : RS :=
  let any := r.any || !last
  if c ≤ 57 then { r with any := any, n := if r.parts ≤ 8 then (if 9999 < 10 * r.n + (c - 48) then 9999 else 10 * r.n + (c - 48)) else r.n }
  else
    let one := if r.parts ≤ 8 then r.one ++ [r.n] else r.one
    if c = 59 then ⟨if any && decide (r.all.length < 16) then r.all ++ [one] else r.all, [], 0, any, 1⟩
    else ⟨r.all, one, 0, any, r.parts + 1⟩
def rcomes (r : RS) (c : Nat) : RS := if inB c then rstep false r c else r
def runR (r : RS) : List UInt8 → RS
  | [] => r
  | b :: l => runR (rcomes r b.toNat) l
def refV (l : List UInt8) : List (List Nat) := (rstep true (runR rnew l) 59).all

/-- A list beside the document's words. -/
def Beside (r : RS) : Option PS → Prop
  | none => r = rnew
  | some p => r.any = true ∧ ((p.m = 0 ∧ r.all = p.ps ∧ r.one = p.one ∧ r.n = p.n ∧ r.parts = p.one.length + 1) ∨ (p.m = 1 ∧ r.all = p.ps ∧ r.one = p.one ++ [p.n] ∧ 8 < r.parts) ∨ (p.m = 2 ∧ r.all = p.ps ++ [p.one ++ [p.n]]))

theorem beside_step {r : RS} {p : PS} (ho : OkP p) (hr : (p.m = 0 ∧ r.all = p.ps ∧ r.one = p.one ∧ r.n = p.n ∧ r.parts = p.one.length + 1) ∨ (p.m = 1 ∧ r.all = p.ps ∧ r.one = p.one ++ [p.n] ∧ 8 < r.parts) ∨ (p.m = 2 ∧ r.all = p.ps ++ [p.one ++ [p.n]]))
    {c : Nat} (hc : inB c = true) : Beside (rstep false r c) (some (step1 p c)) := by
  have hc' : 48 ≤ c ∧ c ≤ 59 := by simpa [inB] using hc
  have hps := ho.ps
  have hone := ho.one
  obtain ⟨ra, ro, rn, ry, rp⟩ := r
  obtain ⟨pa, po, pn, pm⟩ := p
  simp only at hr hps hone
  rcases hr with ⟨rfl, rfl, rfl, rfl, rfl⟩ | ⟨rfl, rfl, rfl, h8⟩ | ⟨rfl, rfl⟩
  · have hle : ro.length + 1 ≤ 8 := by omega
    by_cases h57 : c ≤ 57
    · have e1 : ¬ c = 59 := by omega
      have e2 : ¬ c = 58 := by omega
      simp only [rstep, step1, h57, if_true, e1, e2, if_false, hle, Bool.not_false, Bool.or_true]
      exact ⟨rfl, Or.inl ⟨rfl, rfl, rfl, rfl, rfl⟩⟩
    · by_cases h59 : c = 59
      · subst h59
        by_cases hl : ra.length + 1 < 16
        · have : decide (ra.length < 16) = true := by simp; omega
          simp only [rstep, step1, h57, if_false, if_true, hle, Bool.not_false, Bool.or_true, Bool.true_and, this, hl]
          exact ⟨rfl, Or.inl ⟨rfl, rfl, rfl, rfl, rfl⟩⟩
        · have : decide (ra.length < 16) = true := by simp; omega
          simp only [rstep, step1, h57, if_false, if_true, hle, Bool.not_false, Bool.or_true, Bool.true_and, this, hl]
          exact ⟨rfl, Or.inr (Or.inr ⟨rfl, rfl⟩)⟩
      · have h58 : c = 58 := by omega
        subst h58
        by_cases hl : ro.length + 1 < 8
        · simp only [rstep, step1, h57, if_false, if_true, hle, h59, hl, Bool.not_false, Bool.or_true]
          exact ⟨rfl, Or.inl ⟨rfl, rfl, rfl, rfl, by simp⟩⟩
        · simp only [rstep, step1, h57, if_false, if_true, hle, h59, hl, Bool.not_false, Bool.or_true]
          exact ⟨rfl, Or.inr (Or.inl ⟨rfl, rfl, rfl, by show 8 < ro.length + 1 + 1; omega⟩)⟩
  · have hle : ¬ rp ≤ 8 := by omega
    by_cases h57 : c ≤ 57
    · have e1 : ¬ c = 59 := by omega
      simp only [rstep, step1, h57, if_true, e1, if_false, hle, Bool.not_false, Bool.or_true]
      exact ⟨rfl, Or.inr (Or.inl ⟨rfl, rfl, rfl, h8⟩)⟩
    · by_cases h59 : c = 59
      · subst h59
        by_cases hl : ra.length + 1 < 16
        · have : decide (ra.length < 16) = true := by simp; omega
          simp only [rstep, step1, h57, if_false, if_true, hle, Bool.not_false, Bool.or_true, Bool.true_and, this, hl]
          exact ⟨rfl, Or.inl ⟨rfl, rfl, rfl, rfl, rfl⟩⟩
        · have : decide (ra.length < 16) = true := by simp; omega
          simp only [rstep, step1, h57, if_false, if_true, hle, Bool.not_false, Bool.or_true, Bool.true_and, this, hl]
          exact ⟨rfl, Or.inr (Or.inr ⟨rfl, rfl⟩)⟩
      · simp only [rstep, step1, h57, if_false, if_true, hle, h59, Bool.not_false, Bool.or_true]
        exact ⟨rfl, Or.inr (Or.inl ⟨rfl, rfl, rfl, by show 8 < rp + 1; omega⟩)⟩
  · have hfull : decide ((pa ++ [po ++ [pn]]).length < 16) = false := by
      have := ho.m2 rfl
      simp only at this
      simp [this]
    by_cases h57 : c ≤ 57
    · simp only [rstep, step1, h57, if_true, Bool.not_false, Bool.or_true]
      exact ⟨rfl, Or.inr (Or.inr ⟨rfl, rfl⟩)⟩
    · by_cases h59 : c = 59
      · subst h59
        simp only [rstep, step1, h57, if_false, if_true, Bool.not_false, Bool.or_true, Bool.true_and, hfull]
        exact ⟨rfl, Or.inr (Or.inr ⟨rfl, rfl⟩)⟩
      · simp only [rstep, step1, h57, if_false, if_true, h59, Bool.not_false, Bool.or_true]
        exact ⟨rfl, Or.inr (Or.inr ⟨rfl, rfl⟩)⟩

theorem rstep_any (r : RS) (c : Nat) (b : Bool) : rstep false { r with any := b } c = rstep false r c := by
  simp [rstep]
theorem beside_comes {r : RS} {o : Option PS} (ho : OkO o) (h : Beside r o) (c : Nat) : Beside (rcomes r c) (comes o c) := by
  unfold rcomes comes
  by_cases hc : inB c = true
  · rw [if_pos hc, if_pos hc]
    cases o with
    | none =>
      have h : r = rnew := h
      rw [h, ← rstep_any rnew c true]
      exact beside_step ok_new (Or.inl ⟨rfl, rfl, rfl, rfl, rfl⟩) hc
    | some p => exact beside_step (ho p rfl) h.2 hc
  · rw [if_neg hc, if_neg hc]; exact h
theorem beside_run {r : RS} {o : Option PS} (ho : OkO o) (h : Beside r o) (l : List UInt8) : Beside (runR r l) (runP o l) := by
  induction l generalizing r o with
  | nil => exact h
  | cons b l ih => exact ih (ok_comes ho _) (beside_comes ho h _)

/-- The document's All is the list. -/
theorem ref_pars (l : List UInt8) : refV l = parsV l := by
  have h := beside_run ok_none (show Beside rnew none from rfl) l
  have ho := ok_run ok_none l
  unfold refV parsV
  cases e : runP none l with
  | none =>
    rw [e] at h
    have h : runR rnew l = rnew := h
    rw [h]
    rfl
  | some p =>
    rw [e] at h
    have hp := ho p e
    have hps := hp.ps
    have hone := hp.one
    obtain ⟨hy, h⟩ := h
    generalize runR rnew l = r at hy h
    obtain ⟨ra, ro, rn, ry, rp⟩ := r
    simp only at hy h
    subst hy
    rcases h with ⟨_, rfl, rfl, rfl, rfl⟩ | ⟨_, rfl, rfl, h8⟩ | ⟨h2, rfl⟩
    · have e1 : p.one.length + 1 ≤ 8 := by omega
      simp [rstep, listP, hps, e1]
    · have e1 : ¬ rp ≤ 8 := by omega
      simp [rstep, listP, hps, e1]
    · have e1 := hp.m2 h2
      simp [rstep, listP, e1]

/-! ### parameters in digits -/
def partT : Bool → List Nat → List UInt8
  | _, [] => []
  | first, x :: p => (if first then [] else [58]) ++ Lib.decDigits x ++ partT false p
def listT : Bool → List (List Nat) → List UInt8
  | _, [] => []
  | first, p :: l => (if first then [] else [59]) ++ partT true p ++ listT false l

theorem dec_small' {n : Nat} (hn : n < 10) : Lib.decDigits n = [UInt8.ofNat (48 + n)] := by rw [Lib.decDigits, dif_pos hn]
theorem dec_great' {n : Nat} (hn : ¬ n < 10) : Lib.decDigits n = Lib.decDigits (n / 10) ++ Lib.decDigits (n % 10) := by
  conv => lhs; rw [Lib.decDigits, dif_neg hn]
  rw [dec_small' (Nat.mod_lt _ (by omega))]

theorem comes_digit {ps : List (List Nat)} {one : List Nat} {n d : Nat} (hd : d < 10) (hn : 10 * n + d ≤ 9999) : comes (some ⟨ps, one, n, 0⟩) (UInt8.ofNat (48 + d)).toNat = some ⟨ps, one, 10 * n + d, 0⟩ := by
  have e : (UInt8.ofNat (48 + d)).toNat = 48 + d := by simp; omega
  rw [e]
  have hin : inB (48 + d) = true := by simp [inB]; omega
  unfold comes
  rw [if_pos hin]
  have e1 : ¬ 48 + d = 59 := by omega
  have e2 : ¬ 48 + d = 58 := by omega
  have e3 : ¬ 9999 < 10 * n + (48 + d - 48) := by omega
  simp [step1, e1, e2]
  omega

theorem run_digits (ps : List (List Nat)) (one : List Nat) (n : Nat) : n ≤ 9999 → runP (some ⟨ps, one, 0, 0⟩) (Lib.decDigits n) = some ⟨ps, one, n, 0⟩ := by
  induction n using Nat.strongRecOn with
  | ind n ih =>
    intro hn
    by_cases h : n < 10
    · rw [dec_small' h]
      show comes _ _ = _
      rw [comes_digit h (by omega)]
      simp
    · rw [dec_great' h, runP_append, ih (n / 10) (by omega) (by omega), dec_small' (Nat.mod_lt _ (by omega))]
      show comes _ _ = _
      rw [comes_digit (Nat.mod_lt _ (by omega)) (by omega)]
      congr 2
      omega

/-- The parts behind the first one. -/
theorem run_parts (ps : List (List Nat)) : ∀ (p : List Nat) (one : List Nat) (n : Nat), (∀ x ∈ p, x ≤ 9999) → one.length + 1 + p.length ≤ 8 → ∃ o' n', runP (some ⟨ps, one, n, 0⟩) (partT false p) = some ⟨ps, o', n', 0⟩ ∧ o' ++ [n'] = one ++ [n] ++ p
  | [], one, n, _, _ => ⟨one, n, rfl, by simp⟩
  | x :: p, one, n, hx, hl => by
    simp only [List.length_cons] at hl
    have hlt : one.length + 1 < 8 := by omega
    have e : comes (some ⟨ps, one, n, 0⟩) 58 = some ⟨ps, one ++ [n], 0, 0⟩ := by
      show some (step1 _ 58) = _
      simp [step1, hlt]
    obtain ⟨o', n', h1, h2⟩ := run_parts ps p (one ++ [n]) x (fun y hy => hx y (by simp [hy])) (by simp; omega)
    refine ⟨o', n', ?_, by rw [h2]; simp⟩
    show runP _ ([58] ++ Lib.decDigits x ++ partT false p) = _
    rw [List.append_assoc, runP_append, show runP (some ⟨ps, one, n, 0⟩) [58] = comes (some ⟨ps, one, n, 0⟩) 58 from rfl, e, runP_append, run_digits ps (one ++ [n]) x (hx x (by simp)), h1]

/-- A whole parameter, behind a new one. -/
theorem run_part (ps : List (List Nat)) (p : List Nat) (hx : ∀ x ∈ p, x ≤ 9999) (h1 : 1 ≤ p.length) (h8 : p.length ≤ 8) : ∃ o' n', runP (some ⟨ps, [], 0, 0⟩) (partT true p) = some ⟨ps, o', n', 0⟩ ∧ o' ++ [n'] = p := by
  cases p with
  | nil => simp at h1
  | cons x p =>
    obtain ⟨o', n', e1, e2⟩ := run_parts ps p [] x (fun y hy => hx y (by simp [hy])) (by simp at h8 ⊢; omega)
    refine ⟨o', n', ?_, by rw [e2]; simp⟩
    show runP _ ([] ++ Lib.decDigits x ++ partT false p) = _
    rw [List.nil_append, runP_append, run_digits ps [] x (hx x (by simp)), e1]

theorem run_list : ∀ (l : List (List Nat)) (ps : List (List Nat)) (one : List Nat) (n : Nat), (∀ p ∈ l, 1 ≤ p.length ∧ p.length ≤ 8 ∧ ∀ x ∈ p, x ≤ 9999) → ps.length + 1 + l.length ≤ 16 →
    listP (runP (some ⟨ps, one, n, 0⟩) (listT false l)) = ps ++ [one ++ [n]] ++ l
  | [], ps, one, n, _, _ => by simp [listT, runP, listP]
  | p :: l, ps, one, n, hp, hl => by
    simp only [List.length_cons] at hl
    have hlt : ps.length + 1 < 16 := by omega
    have e : comes (some ⟨ps, one, n, 0⟩) 59 = some ⟨ps ++ [one ++ [n]], [], 0, 0⟩ := by
      show some (step1 _ 59) = _
      simp [step1, hlt]
    obtain ⟨h1, h8, hx⟩ := hp p (by simp)
    obtain ⟨o', n', e1, e2⟩ := run_part (ps ++ [one ++ [n]]) p hx h1 h8
    show listP (runP _ ([59] ++ partT true p ++ listT false l)) = _
    rw [List.append_assoc, runP_append, show runP (some ⟨ps, one, n, 0⟩) [59] = comes (some ⟨ps, one, n, 0⟩) 59 from rfl, e, runP_append, e1, run_list l _ o' n' (fun q hq => hp q (by simp [hq])) (by simp; omega), e2]
    simp

/-- The first byte of a digit makes the first parameter. -/
theorem run_first (n : Nat) (l : List UInt8) : runP none (Lib.decDigits n ++ l) = runP (some ⟨[], [], 0, 0⟩) (Lib.decDigits n ++ l) := by
  have : ∃ d m, d < 10 ∧ Lib.decDigits n = UInt8.ofNat (48 + d) :: m := by
    induction n using Nat.strongRecOn with
    | ind n ih =>
      by_cases h : n < 10
      · exact ⟨n, [], h, dec_small' h⟩
      · obtain ⟨d, m, hd, e⟩ := ih (n / 10) (by omega)
        exact ⟨d, m ++ Lib.decDigits (n % 10), hd, by rw [dec_great' h, e]; rfl⟩
  obtain ⟨d, m, hd, e⟩ := this
  rw [e]
  show runP (comes none _) _ = runP (comes _ _) _
  have e : (UInt8.ofNat (48 + d)).toNat = 48 + d := by simp; omega
  have hin : inB (48 + d) = true := by simp [inB]; omega
  rw [e]
  unfold comes
  rw [if_pos hin, if_pos hin]
  rfl

/-- P7.3. -/
theorem pars_text (l : List (List Nat)) (hl : l.length ≤ 16) (hp : ∀ p ∈ l, 1 ≤ p.length ∧ p.length ≤ 8 ∧ ∀ x ∈ p, x ≤ 9999) : parsV (listT true l) = l := by
  cases l with
  | nil => rfl
  | cons p l =>
    obtain ⟨h1, h8, hx⟩ := hp p (by simp)
    have e0 : runP none (listT true (p :: l)) = runP (some ⟨[], [], 0, 0⟩) (listT true (p :: l)) := by
      cases p with
      | nil => simp at h1
      | cons x p =>
        show runP none ([] ++ ([] ++ Lib.decDigits x ++ partT false p) ++ listT false l) = runP _ ([] ++ ([] ++ Lib.decDigits x ++ partT false p) ++ listT false l)
        simp only [List.nil_append, List.append_assoc]
        exact run_first x _
    obtain ⟨o', n', e1, e2⟩ := run_part [] p hx h1 h8
    unfold parsV
    rw [e0]
    show listP (runP _ ([] ++ partT true p ++ listT false l)) = _
    rw [List.nil_append, runP_append, e1, run_list l [] o' n' (fun q hq => hp q (by simp [hq])) (by simp at hl ⊢; omega), e2]
    rfl

end Go.Proofs.YtkenaccnmmmooaaDoor.P7.Par
