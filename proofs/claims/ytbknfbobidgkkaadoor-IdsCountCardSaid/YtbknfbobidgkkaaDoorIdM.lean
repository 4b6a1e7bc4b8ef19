/- Layer 4, plain: panes' names as lists of bytes: what the program's Words and Parse answer. Of no program. -/
import Derived.Lib.AtoiAll
import Derived.Lib.AtoiAllCases
import Derived.Lib.ItoaMem
import Derived.Lib.Bytealg
import Derived.Lib.Strings
import Derived.Lib.ItoaLen
namespace Ids
open Go Go.Lib

/-- What stands ahead of the first dot, and what stands behind it. -/
def cutL : List UInt8 → List UInt8 × List UInt8
  | [] => ([], [])
  | c :: r => if c == 46 then ([], r) else (c :: (cutL r).1, (cutL r).2)

theorem cut_len : ∀ l, (cutL l).1.length ≤ l.length ∧ (cutL l).2.length ≤ l.length
  | [] => by simp [cutL]
  | c :: r => by
    have := cut_len r
    unfold cutL
    split <;> simp <;> omega

theorem cut_cases : ∀ l : List UInt8, (indexByte l 46 = -1 ∧ cutL l = (l, [])) ∨ ∃ i : Nat, indexByte l 46 = i ∧ i < l.length ∧ cutL l = (l.take i, l.drop (i + 1))
  | [] => Or.inl ⟨rfl, rfl⟩
  | c :: r => by
    by_cases h : c = 46
    · subst h
      exact Or.inr ⟨0, by simp [indexByte], by simp, by simp [cutL]⟩
    · have hc : (c == 46) = false := by simpa using h
      rcases cut_cases r with ⟨h1, h2⟩ | ⟨i, h1, h2, h3⟩
      · exact Or.inl ⟨by simp [indexByte, hc, h1], by simp [cutL, hc, h2]⟩
      · refine Or.inr ⟨i + 1, ?_, by simp; omega, by simp [cutL, hc, h3]⟩
        have hne : ((i : Int) == -1) = false := by simp
        simp [indexByte, hc, h1, hne]

theorem cut_at {x r : List UInt8} (h : ∀ c ∈ x, c ≠ 46) : cutL (x ++ 46 :: r) = (x, r) := by
  induction x with
  | nil => simp [cutL]
  | cons c x ih =>
    have hc : (c == 46) = false := by simpa using h c (by simp)
    have := ih fun d hd => h d (by simp [hd])
    simp [cutL, hc, this]

/-- The number that a word spells; -1, if it spells none. -/
def partV (l : List UInt8) : Int := match atoiAll l with
  | .ok v => v
  | _ => -1

/-- May it stand in a name? -/
def mayB (a : Int) : Bool := decide (0 ≤ a) && decide (a ≤ 2147483647)

theorem may_true {a : Int} (h : mayB a = true) : 0 ≤ a ∧ a ≤ 2147483647 := by simpa [mayB] using h
theorem may_of {a : Int} (h0 : 0 ≤ a) (h1 : a ≤ 2147483647) : mayB a = true := by simp [mayB, h0, h1]

def wordsL (a b c : Int) : List UInt8 := 112 :: (itoa a ++ 46 :: (itoa b ++ 46 :: itoa c))

/-- May all three? -/
def mayAll (a b c : Int) : Bool := mayB a && mayB b && mayB c

/-- The three numbers that a text is read as, whether or not they spell it. -/
def loose (l : List UInt8) : Int × Int × Int :=
  (partV (cutL (trimPrefix l [112])).1, partV (cutL (cutL (trimPrefix l [112])).2).1, partV (cutL (cutL (trimPrefix l [112])).2).2)

/-- Do these three spell the text? -/
def spells (p : Int × Int × Int) (l : List UInt8) : Bool := mayAll p.1 p.2.1 p.2.2 && wordsL p.1 p.2.1 p.2.2 == l

def parseV (l : List UInt8) : Option (Int × Int × Int) := if spells (loose l) l then some (loose l) else none

/-! ### Digits -/

theorem digit_char (d : Nat) (h : d < 10) : 48 ≤ (UInt8.ofNat (48 + d)).toNat ∧ (UInt8.ofNat (48 + d)).toNat ≤ 57 ∧ (UInt8.ofNat (48 + d)).toNat - 48 = d := by
  have : (UInt8.ofNat (48 + d)).toNat = 48 + d := by simp; omega
  omega

theorem digits_all (u : Nat) : ∀ c ∈ decDigits u, 48 ≤ c.toNat ∧ c.toNat ≤ 57 := by
  induction u using Nat.strongRecOn with
  | ind u ih =>
    rw [decDigits]
    split
    · rename_i h
      intro c hc
      obtain rfl : c = UInt8.ofNat (48 + u) := by simpa using hc
      have := digit_char u h
      omega
    · rename_i h
      intro c hc
      rcases List.mem_append.1 hc with hc | hc
      · exact ih (u / 10) (by omega) c hc
      · obtain rfl : c = UInt8.ofNat (48 + u % 10) := by simpa using hc
        have := digit_char (u % 10) (by omega)
        omega

theorem digits_ne (u : Nat) : decDigits u ≠ [] := by
  rw [decDigits]; split <;> simp

/-- A number's digits, read one by one, are the number. -/
theorem parse_app : ∀ (l r : List UInt8) (acc u : Nat), (∀ c ∈ l, 48 ≤ c.toNat ∧ c.toNat ≤ 57) → parseUint10 acc l = .ok u → parseUint10 acc (l ++ r) = parseUint10 u r
  | [], r, acc, u, _, h => by simp only [parseUint10] at h; injection h with h; subst h; rfl
  | c :: l, r, acc, u, hd, h => by
    have hc := hd c (by simp)
    simp only [List.cons_append, parseUint10, hc, and_self, if_true] at h ⊢
    split
    · rename_i h1; simp [h1] at h
    · rename_i h1
      simp only [h1, if_false] at h
      split
      · rename_i h2; simp [h2] at h
      · rename_i h2
        simp only [h2, if_false] at h
        exact parse_app l r _ u (fun d hd' => hd d (by simp [hd'])) h

theorem parse_digits (u : Nat) (hu : u < 9223372036854775808) : parseUint10 0 (decDigits u) = .ok u := by
  induction u using Nat.strongRecOn with
  | ind u ih =>
    rw [decDigits]
    split
    · rename_i h
      have hd := digit_char u h
      simp only [parseUint10, hd, and_self, if_true, Nat.zero_mul, Nat.zero_add]
      rw [if_neg (by omega), if_neg (by omega)]
    · rename_i h
      have hd := digit_char (u % 10) (by omega)
      rw [parse_app _ _ _ (u / 10) (digits_all _) (ih (u / 10) (by omega) (by omega))]
      have e : u / 10 * 10 + u % 10 = u := by omega
      simp only [parseUint10, hd, and_self, if_true, e]
      rw [if_neg (by omega), if_neg (by omega)]

theorem part_digits (u : Nat) (hu : u < 9223372036854775808) : partV (decDigits u) = u := by
  have hall := digits_all u
  have hp := parse_digits u hu
  cases hl : decDigits u with
  | nil => exact absurd hl (digits_ne u)
  | cons c r =>
    rw [hl] at hall hp
    have hc := hall c (by simp)
    have h1 := atoiAll_plain c r (by omega) (by omega)
    have h2 : parseMag (c :: r) = .ok u := by simp only [parseMag]; rw [if_neg (by simp)]; exact hp
    unfold partV
    rw [h1, h2]
    have : ¬ 9223372036854775808 ≤ u := by omega
    simp [signless, this]

theorem itoa_of {a : Int} (h : 0 ≤ a) : itoa a = decDigits a.toNat := by
  unfold itoa; rw [if_neg (by omega)]

theorem part_itoa {a : Int} (h0 : 0 ≤ a) (h1 : a ≤ 2147483647) : partV (itoa a) = a := by
  rw [itoa_of h0, part_digits _ (by omega)]; omega

theorem itoa_nodot {a : Int} (h0 : 0 ≤ a) : ∀ c ∈ itoa a, c ≠ 46 := by
  rw [itoa_of h0]
  rintro c hc rfl
  have := digits_all _ _ hc
  simp at this

theorem trim_p (l : List UInt8) : trimPrefix (112 :: l) [112] = l := by simp [trimPrefix, hasPrefix]

theorem loose_words {a b c : Int} (h : mayAll a b c = true) : loose (wordsL a b c) = (a, b, c) := by
  simp only [mayAll, Bool.and_eq_true] at h
  obtain ⟨⟨ha, hb⟩, hc⟩ := h
  obtain ⟨a0, a1⟩ := may_true ha
  obtain ⟨b0, b1⟩ := may_true hb
  obtain ⟨c0, c1⟩ := may_true hc
  unfold loose wordsL
  rw [trim_p, cut_at (itoa_nodot a0), cut_at (itoa_nodot b0)]
  simp only [part_itoa a0 a1, part_itoa b0 b1, part_itoa c0 c1]

theorem spells_words {a b c : Int} (h : mayAll a b c = true) : spells (a, b, c) (wordsL a b c) = true := by simp [spells, h]

/-- Parse of Words is the name. -/
theorem parse_words {a b c : Int} (h : mayAll a b c = true) : parseV (wordsL a b c) = some (a, b, c) := by
  unfold parseV; rw [loose_words h, if_pos (spells_words h)]

/-- And the other way about. -/
theorem words_parse {l : List UInt8} {a b c : Int} (h : parseV l = some (a, b, c)) : mayAll a b c = true ∧ wordsL a b c = l := by
  unfold parseV at h
  split at h
  · rename_i hs
    injection h with h
    rw [h] at hs
    simpa [spells] using hs
  · cases h

theorem parse_empty : parseV [] = none := by decide +kernel

theorem words_len {a b c : Int} (h : mayAll a b c = true) : (wordsL a b c).length ≤ 100 := by
  simp only [mayAll, Bool.and_eq_true] at h
  obtain ⟨⟨ha, hb⟩, hc⟩ := h
  obtain ⟨a0, a1⟩ := may_true ha
  obtain ⟨b0, b1⟩ := may_true hb
  obtain ⟨c0, c1⟩ := may_true hc
  have h1 := itoa_length_le a (by omega) (by omega)
  have h2 := itoa_length_le b (by omega) (by omega)
  have h3 := itoa_length_le c (by omega) (by omega)
  simp [wordsL]; omega

theorem words_inj {a b c a' b' c' : Int} (h : mayAll a b c = true) (h' : mayAll a' b' c' = true) (e : wordsL a b c = wordsL a' b' c') : (a, b, c) = (a', b', c') := by
  have h1 := parse_words h
  rw [e, parse_words h'] at h1
  injection h1 with h1
  exact h1.symm

end Ids
