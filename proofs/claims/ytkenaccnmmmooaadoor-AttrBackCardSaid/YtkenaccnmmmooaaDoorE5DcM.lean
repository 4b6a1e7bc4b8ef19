/- Layer 5: a decoder over lists of bytes: what is kept, what is told. Plain mathematics, nothing of the program. -/
import Derived.Lib.DecodeNEq
set_option linter.unusedVariables false
namespace Go.Proofs.YtkenaccnmmmooaaDoor.D5
open Go.Lib

/-- What Go's road over its tables answers of the first n bytes (n is not 0). -/
def fullN (n b0 b1 b2 : Nat) : Bool :=
  decide (firstT b0 % 8 ≤ n) || (decide (1 < n) && (decide (b1 < accLo (firstT b0 / 16)) || decide (accHi (firstT b0 / 16) < b1))) || (decide (2 < n) && (decide (b2 < 128) || decide (191 < b2)))

theorem first_nine (b : Nat) : firstT b = 240 ∨ firstT b = 241 ∨ firstT b = 2 ∨ firstT b = 19 ∨ firstT b = 3 ∨ firstT b = 35 ∨ firstT b = 52 ∨ firstT b = 4 ∨ firstT b = 68 := by
  unfold firstT
  repeat' split
  all_goals simp

theorem first_low (b : Nat) : firstT b % 8 ≤ 4 ∧ firstT b < 256 := by
  rcases first_nine b with h | h | h | h | h | h | h | h | h <;> omega

theorem fullN_long {n b0 b1 b2 : Nat} (h : firstT b0 % 8 ≤ n) : fullN n b0 b1 b2 = true := by simp [fullN, h]

namespace Dec

/-- Byte i of a list, as a number. -/
def bt (l : List UInt8) (i : Nat) : Nat := (l.getD i 0).toNat
theorem bt_lt (l : List UInt8) (i : Nat) : bt l i < 256 := (l.getD i 0).toNat_lt

/-- Do bytes not begin a character, or are they anew? -/
def fullB (l : List UInt8) : Bool := !l.isEmpty && fullN l.length (bt l 0) (bt l 1) (bt l 2)
/-- The character at the head, and how many bytes it takes. -/
def dec (l : List UInt8) : Nat × Nat := decodeN l.length (bt l 0) (bt l 1) (bt l 2) (bt l 3)

/-- A byte comes where nothing is kept. -/
def anew (b : UInt8) : List Nat × List UInt8 := if fullB [b] then ([(dec [b]).1], []) else ([], [b])
/-- A byte comes: what is told, what is kept then. -/
def comes (k : List UInt8) (b : UInt8) : List Nat × List UInt8 :=
  if fullB (k ++ [b]) = false then ([], k ++ [b])
  else if (dec (k ++ [b])).2 = (k ++ [b]).length then ([(dec (k ++ [b])).1], [])
  else (65533 :: (anew b).1, (anew b).2)
/-- What comes of many bytes. -/
def runsD : List UInt8 → List UInt8 → List Nat × List UInt8
  | k, [] => ([], k)
  | k, b :: l => ((comes k b).1 ++ (runsD (comes k b).2 l).1, (runsD (comes k b).2 l).2)
/-- What the end tells. -/
def endsD (k : List UInt8) : List Nat := if k = [] then [] else [65533]
def allD (l : List UInt8) : List Nat := (runsD [] l).1 ++ endsD (runsD [] l).2

theorem full_nil : fullB [] = false := rfl

theorem full_length {k : List UInt8} (h : fullB k = false) : k.length ≤ 3 := by
  by_cases h3 : k.length ≤ 3
  · exact h3
  · exfalso
    have h4 := (first_low (bt k 0)).1
    have : fullB k = true := by
      unfold fullB
      rw [fullN_long (by omega)]
      cases k with
      | nil => simp at h3
      | cons a l => rfl
    rw [this] at h
    cases h

theorem decode_one (b0 b1 b2 b3 : Nat) : (decodeN 1 b0 b1 b2 b3).2 = 1 := by
  unfold decodeN
  repeat' split
  all_goals first | rfl | (exfalso; omega)

theorem dec_one (b : UInt8) : (dec [b]).2 = 1 := decode_one _ _ _ _

theorem comes_nil (b : UInt8) : comes [] b = anew b := by
  unfold comes anew
  rw [List.nil_append]
  cases h : fullB [b]
  · simp
  · simp [dec_one]

theorem anew_keeps (b : UInt8) : fullB (anew b).2 = false := by
  unfold anew
  cases h : fullB [b]
  · simpa using h
  · rfl

theorem comes_keeps (k : List UInt8) (b : UInt8) : fullB (comes k b).2 = false := by
  unfold comes
  split
  · assumption
  · split
    · rfl
    · exact anew_keeps b

theorem runs_append (k l m : List UInt8) : runsD k (l ++ m) = ((runsD k l).1 ++ (runsD (runsD k l).2 m).1, (runsD (runsD k l).2 m).2) := by
  induction l generalizing k with
  | nil => simp [runsD]
  | cons b l ih => simp [runsD, ih]

theorem runs_one (k : List UInt8) (b : UInt8) : runsD k [b] = comes k b := by simp [runsD]

theorem runs_snoc (k l : List UInt8) (b : UInt8) : runsD k (l ++ [b]) = ((runsD k l).1 ++ (comes (runsD k l).2 b).1, (comes (runsD k l).2 b).2) := by
  rw [runs_append, runs_one]

theorem runs_keeps (k l : List UInt8) (h : fullB k = false) : fullB (runsD k l).2 = false := by
  induction l generalizing k with
  | nil => exact h
  | cons b l ih => exact ih _ (comes_keeps k b)

theorem kept_full (l : List UInt8) : fullB (runsD [] l).2 = false := runs_keeps [] l rfl
theorem kept_le (l : List UInt8) : (runsD [] l).2.length ≤ 3 := full_length (kept_full l)

/-- How many are told, against how many came. -/
theorem anew_count (b : UInt8) : (anew b).1.length + (anew b).2.length = 1 := by
  unfold anew
  split <;> rfl

theorem comes_count (k : List UInt8) (b : UInt8) (h : fullB k = false) :
    (comes k b).1.length + (comes k b).2.length ≤ k.length + 1 ∧ k.length + 1 ≤ 4 * (comes k b).1.length + (comes k b).2.length ∧ (comes k b).1.length ≤ 2 := by
  have h3 := full_length h
  unfold comes
  split
  · simp <;> omega
  · split
    · simp <;> omega
    · rename_i hf hd
      have h1 := anew_count b
      have hk : 1 ≤ k.length := by
        cases k with
        | nil => exact absurd (dec_one b) hd
        | cons a l => simp
      simp only [List.length_cons]
      omega

theorem runs_count (k l : List UInt8) (h : fullB k = false) :
    (runsD k l).1.length + (runsD k l).2.length ≤ k.length + l.length ∧ k.length + l.length ≤ 4 * (runsD k l).1.length + (runsD k l).2.length := by
  induction l generalizing k with
  | nil => simp [runsD]
  | cons b l ih =>
    have h1 := comes_count k b h
    have h2 := ih _ (comes_keeps k b)
    simp only [runsD, List.length_append, List.length_cons]
    omega

theorem all_count (l : List UInt8) : (allD l).length ≤ l.length ∧ l.length ≤ 4 * (allD l).length := by
  have h := runs_count [] l rfl
  have h3 := kept_le l
  unfold allD endsD
  split
  · rename_i e
    rw [e] at h
    simp at h ⊢
    omega
  · rename_i e
    have : 1 ≤ (runsD [] l).2.length := by
      cases hk : (runsD [] l).2 with
      | nil => exact absurd hk e
      | cons a l => simp
    simp only [List.length_append, List.length_cons, List.length_nil] at h ⊢
    omega

theorem all_join (l m : List UInt8) (h : (runsD [] l).2 = []) : allD (l ++ m) = allD l ++ allD m := by
  unfold allD
  rw [runs_append, h]
  simp [endsD]

end Dec
end Go.Proofs.YtkenaccnmmmooaaDoor.D5
