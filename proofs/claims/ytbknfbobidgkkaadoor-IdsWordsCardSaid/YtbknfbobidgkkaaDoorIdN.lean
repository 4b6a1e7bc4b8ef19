/- Layer 4, plain: the document's Parse over lists of bytes, and that it is the program's. Of no program. -/
import Derived.Test.YtbknfbobidgkkaaDoorIdM
namespace Ids
open Go Go.Lib

def isDig (c : UInt8) : Bool := decide (48 ≤ c.toNat) && decide (c.toNat ≤ 57)

def addD (n : Nat) (c : UInt8) : Nat := 10 * n + (c.toNat - 48)
theorem addD_eq (n : Nat) (c : UInt8) : addD n c = 10 * n + (c.toNat - 48) := by unfold addD; exact Eq.refl _

/-- The digits ahead, read on from n: the number and what is left; none, if it is too great. -/
def numGo (n : Nat) : List UInt8 → Option (Nat × List UInt8)
  | [] => some (n, [])
  | c :: r => if isDig c then (if 2147483647 < addD n c then none else numGo (addD n c) r) else some (n, c :: r)

/-- Does a nought stand ahead of another digit, or no digit at all? -/
def poor (l r : List UInt8) : Bool := decide (r.length = l.length) || (decide (r.length + 1 < l.length) && (l.head? == some 48))

def numL (l : List UInt8) : Option (Nat × List UInt8) := match numGo 0 l with
  | some (n, r) => if poor l r then none else some (n, r)
  | none => none

/-- A number, and a dot behind it. -/
def numDot (l : List UInt8) : Option (Nat × List UInt8) := match numL l with
  | some (n, 46 :: r) => some (n, r)
  | _ => none

def refL : List UInt8 → Option (Nat × Nat × Nat)
  | 112 :: l1 => match numDot l1 with
    | some (a, l2) => match numDot l2 with
      | some (b, l3) => match numL l3 with
        | some (c, []) => some (a, b, c)
        | _ => none
      | none => none
    | none => none
  | _ => none

/-- What digits say, read on from n. -/
def valD (n : Nat) (l : List UInt8) : Nat := l.foldl addD n

theorem val_nil (n : Nat) : valD n [] = n := rfl
theorem val_cons (n : Nat) (c : UInt8) (l : List UInt8) : valD n (c :: l) = valD (addD n c) l := by unfold valD; rw [List.foldl_cons]
theorem add_le (n : Nat) (c : UInt8) : n ≤ addD n c := by rw [addD_eq]; omega
theorem val_le (l : List UInt8) : ∀ n : Nat, n ≤ valD n l := by
  induction l with
  | nil => intro n; exact Nat.le_of_eq (val_nil n).symm
  | cons c r ih => intro n; rw [val_cons]; exact Nat.le_trans (add_le n c) (ih _)

theorem val_snoc (l : List UInt8) (n : Nat) (c : UInt8) : valD n (l ++ [c]) = 10 * valD n l + (c.toNat - 48) := by
  unfold valD
  rw [List.foldl_append, List.foldl_cons, List.foldl_nil, addD_eq]

/-- No digit ahead. -/
def noDig : List UInt8 → Prop
  | [] => True
  | c :: _ => isDig c = false

theorem go_some : ∀ (l : List UInt8) (n m : Nat) (r : List UInt8), numGo n l = some (m, r) → n ≤ 2147483647 → ∃ ds, l = ds ++ r ∧ (∀ c ∈ ds, isDig c = true) ∧ noDig r ∧ m = valD n ds ∧ m ≤ 2147483647
  | [], n, m, r, h, hn => by
    simp only [numGo] at h
    injection h with h; injection h with h1 h2; subst h1 h2
    exact ⟨[], rfl, by simp, trivial, (val_nil _).symm, hn⟩
  | c :: l, n, m, r, h, hn => by
    simp only [numGo] at h
    split at h
    · rename_i hc
      split at h
      · cases h
      · rename_i hm
        obtain ⟨ds, h1, h2, h3, h4, h5⟩ := go_some l _ m r h (by omega)
        exact ⟨c :: ds, by rw [h1]; rfl, by simpa [hc] using h2, h3, h4, h5⟩
    · rename_i hc
      injection h with h; injection h with h1 h2; subst h1 h2
      exact ⟨[], rfl, by simp, by simpa [noDig] using hc, (val_nil _).symm, hn⟩

theorem go_of : ∀ (ds : List UInt8) (n : Nat) (r : List UInt8), (∀ c ∈ ds, isDig c = true) → noDig r → valD n ds ≤ 2147483647 → numGo n (ds ++ r) = some (valD n ds, r)
  | [], n, r, _, hr, _ => by
    cases r with
    | nil => rfl
    | cons c r => simp only [noDig] at hr; simp [numGo, hr, val_nil]
  | c :: ds, n, r, hd, hr, hv => by
    have hc := hd c (by simp)
    have := val_le ds (addD n c)
    rw [val_cons] at hv
    simp only [List.cons_append, numGo, hc, if_true, val_cons]
    rw [if_neg (by omega)]
    exact go_of ds _ r (fun d h => hd d (by simp [h])) hr hv

/-- The digits of what digits say: themselves, unless a nought stands ahead. -/
theorem digits_val : ∀ (k : Nat) (ds : List UInt8), ds.length = k → ds ≠ [] → (∀ c ∈ ds, isDig c = true) → (1 < ds.length → ds.head? ≠ some 48) → decDigits (valD 0 ds) = ds
  | 0, ds, hl, hne, _, _ => absurd (List.eq_nil_of_length_eq_zero hl) hne
  | k + 1, ds, hl, hne, hd, hh => by
    rcases List.eq_nil_or_concat ds with rfl | ⟨es, c, rfl⟩
    · exact absurd rfl hne
    rw [List.concat_eq_append] at hl hd hh ⊢
    have hc := hd c (by simp)
    simp only [isDig, Bool.and_eq_true, decide_eq_true_eq] at hc
    have ec : UInt8.ofNat (48 + (c.toNat - 48)) = c := by
      have : 48 + (c.toNat - 48) = c.toNat := by omega
      rw [this]; simp
    rw [val_snoc]
    cases es with
    | nil =>
      have e0 : 10 * valD 0 ([] : List UInt8) + (c.toNat - 48) = c.toNat - 48 := by rw [val_nil]; omega
      rw [e0, decDigits]
      split
      · rw [ec]; rfl
      · omega
    | cons e es =>
      have hes : ∀ d ∈ e :: es, isDig d = true := fun d h => hd d (List.mem_append_left _ h)
      have h48 : e ≠ 48 := by
        intro he
        exact hh (by simp) (by simp [he])
      have he := hes e (by simp)
      simp only [isDig, Bool.and_eq_true, decide_eq_true_eq] at he
      have hpos : 1 ≤ e.toNat - 48 := by
        have : e.toNat ≠ 48 := fun h => h48 (UInt8.toNat_inj.1 (by simpa using h))
        omega
      have hv : 1 ≤ valD 0 (e :: es) := by
        have := val_le es (addD 0 e)
        rw [val_cons]; rw [addD_eq] at this ⊢; omega
      have ih := digits_val k (e :: es) (by simpa using hl) (by simp) hes (fun _ => by simpa using h48)
      have hge : ¬ 10 * valD 0 (e :: es) + (c.toNat - 48) < 10 := by omega
      rw [decDigits, dif_neg hge]
      have e1 : (10 * valD 0 (e :: es) + (c.toNat - 48)) / 10 = valD 0 (e :: es) := by omega
      have e2 : (10 * valD 0 (e :: es) + (c.toNat - 48)) % 10 = c.toNat - 48 := by omega
      rw [e1, e2, ih, ec]

theorem val_digits (u : Nat) : valD 0 (decDigits u) = u := by
  induction u using Nat.strongRecOn with
  | ind u ih =>
    rw [decDigits]
    split
    · rename_i h
      have := digit_char u h
      rw [val_cons, val_nil, addD_eq]; omega
    · rename_i h
      have := digit_char (u % 10) (by omega)
      rw [val_snoc, ih (u / 10) (by omega)]
      omega

theorem digits_head (u : Nat) : 0 < u → (decDigits u).head? ≠ some 48 := by
  induction u using Nat.strongRecOn with
  | ind u ih =>
    intro h0
    rw [decDigits]
    split
    · rename_i h
      have := digit_char u h
      intro he
      simp only [List.head?_cons, Option.some.injEq] at he
      rw [he] at this
      simp at this
      omega
    · rename_i h
      have h1 := ih (u / 10) (by omega) (by omega)
      have h2 := digits_ne (u / 10)
      cases hx : decDigits (u / 10) with
      | nil => exact absurd hx h2
      | cons x y => rw [hx] at h1; simpa using h1

theorem dig_of {c : UInt8} (h : 48 ≤ c.toNat ∧ c.toNat ≤ 57) : isDig c = true := by simp [isDig, h]

/-- The document's numbers are the digits of numbers that may be. -/
theorem num_iff (l : List UInt8) (n : Nat) (r : List UInt8) : numL l = some (n, r) ↔ (l = decDigits n ++ r ∧ n ≤ 2147483647 ∧ noDig r) := by
  constructor
  · intro h
    unfold numL at h
    split at h
    · rename_i m r' hg
      split at h
      · cases h
      · rename_i hp
        injection h with h; injection h with h1 h2; subst h1 h2
        obtain ⟨ds, h1, h2, h3, h4, h5⟩ := go_some l 0 m r' hg (by omega)
        simp only [poor, Bool.or_eq_true, Bool.and_eq_true, decide_eq_true_eq, beq_iff_eq, not_or, not_and] at hp
        have hne : ds ≠ [] := by
          rintro rfl
          exact hp.1 (by rw [h1]; simp)
        have hh : 1 < ds.length → ds.head? ≠ some 48 := fun hl => by
          have := hp.2 (by rw [h1]; simp; omega)
          rw [h1] at this
          cases ds with
          | nil => simp at hl
          | cons d ds => simpa using this
        refine ⟨?_, h5, h3⟩
        rw [h4, digits_val _ ds rfl hne h2 hh, h1]
    · cases h
  · rintro ⟨rfl, hn, hr⟩
    have hv := val_digits n
    have hd : ∀ c ∈ decDigits n, isDig c = true := fun c hc => dig_of (digits_all n c hc)
    have hg := go_of (decDigits n) 0 r hd hr (by omega)
    unfold numL
    rw [hg, hv]
    have hp : poor (decDigits n ++ r) r = false := by
      simp only [poor, Bool.or_eq_false_iff, Bool.and_eq_false_iff, decide_eq_false_iff_not]
      have hne := digits_ne n
      have hlen : 0 < (decDigits n).length := List.length_pos_iff.2 hne
      refine ⟨by simp; omega, ?_⟩
      rcases Nat.eq_zero_or_pos n with rfl | hpos
      · left
        rw [decDigits]; simp
      · right
        have := digits_head n hpos
        cases hx : decDigits n with
        | nil => exact absurd hx hne
        | cons x y => rw [hx] at this; simpa using this
    simp [hp]

theorem no_dot (r : List UInt8) : noDig (46 :: r) := by simp [noDig, isDig]

theorem dot_iff (l : List UInt8) (n : Nat) (r : List UInt8) : numDot l = some (n, r) ↔ (l = decDigits n ++ 46 :: r ∧ n ≤ 2147483647) := by
  constructor
  · intro h
    unfold numDot at h
    split at h
    · rename_i m r' hg
      injection h with h; injection h with h1 h2; subst h1 h2
      obtain ⟨h1, h2, _⟩ := (num_iff _ _ _).1 hg
      exact ⟨h1, h2⟩
    · cases h
  · rintro ⟨h1, h2⟩
    have := (num_iff l n (46 :: r)).2 ⟨h1, h2, no_dot r⟩
    simp only [numDot, this]

theorem ref_iff (l : List UInt8) (a b c : Nat) : refL l = some (a, b, c) ↔ (l = 112 :: (decDigits a ++ 46 :: (decDigits b ++ 46 :: decDigits c)) ∧ a ≤ 2147483647 ∧ b ≤ 2147483647 ∧ c ≤ 2147483647) := by
  constructor
  · intro h
    unfold refL at h
    split at h
    · rename_i l1
      split at h
      · rename_i a' l2 h2
        split at h
        · rename_i b' l3 h3
          split at h
          · rename_i c' h4
            injection h with h; injection h with e1 h; injection h with e2 e3; subst e1 e2 e3
            obtain ⟨x1, x2⟩ := (dot_iff _ _ _).1 h2
            obtain ⟨y1, y2⟩ := (dot_iff _ _ _).1 h3
            obtain ⟨z1, z2, _⟩ := (num_iff _ _ _).1 h4
            rw [List.append_nil] at z1
            exact ⟨by rw [x1, y1, z1], x2, y2, z2⟩
          · cases h
        · cases h
      · cases h
    · cases h
  · rintro ⟨rfl, ha, hb, hc⟩
    have h1 := (dot_iff (decDigits a ++ 46 :: (decDigits b ++ 46 :: decDigits c)) a _).2 ⟨rfl, ha⟩
    have h2 := (dot_iff (decDigits b ++ 46 :: decDigits c) b _).2 ⟨rfl, hb⟩
    have h3 := (num_iff (decDigits c) c []).2 ⟨by simp, hc, trivial⟩
    simp only [refL, h1, h2, h3]

/-- The document's Parse is the program's. -/
theorem ref_parse (l : List UInt8) : parseV l = (refL l).map fun p => ((p.1 : Int), (p.2.1 : Int), (p.2.2 : Int)) := by
  cases h : refL l with
  | some p =>
    obtain ⟨a, b, c⟩ := p
    obtain ⟨h1, ha, hb, hc⟩ := (ref_iff _ _ _ _).1 h
    have hw : wordsL a b c = l := by
      rw [h1]
      simp [wordsL, itoa_of (Int.natCast_nonneg _)]
    have hm : mayAll a b c = true := by
      simp only [mayAll, Bool.and_eq_true]
      exact ⟨⟨may_of (by omega) (by omega), may_of (by omega) (by omega)⟩, may_of (by omega) (by omega)⟩
    rw [← hw, parse_words hm]
    rfl
  | none =>
    cases h' : parseV l with
    | none => rfl
    | some p =>
      obtain ⟨a, b, c⟩ := p
      obtain ⟨hm, hw⟩ := words_parse h'
      simp only [mayAll, Bool.and_eq_true] at hm
      obtain ⟨⟨ha, hb⟩, hc⟩ := hm
      obtain ⟨a0, a1⟩ := may_true ha
      obtain ⟨b0, b1⟩ := may_true hb
      obtain ⟨c0, c1⟩ := may_true hc
      have := (ref_iff l a.toNat b.toNat c.toNat).2 ⟨by rw [← hw]; simp [wordsL, itoa_of a0, itoa_of b0, itoa_of c0], by omega, by omega, by omega⟩
      rw [h] at this
      cases this

end Ids
