/- Layer 11: what the program's calls answer (plain): blanks, a row's text; contracts said of whatever values. -/
import Derived.Test.YtomfeehebkknoaaRwJ
import Derived.Lib.RuneBytes
set_option linter.unusedVariables false
namespace Go.Proofs.Ytomfeehebkknoaa.Rw
open Go.RowKit

def blankV (x : Int) (a : Aa) : List Ce := if x < 1 ∨ 400 < x then [] else blanks x.toNat a
/-- Its characters' cells. -/
def keepV (l : List Ce) : List Ce := l.filter fun c => c.w != 2
def isBlank (c : Ce) : Bool := c.r == 32 && c.w == 0
/-- Without the blanks at its end. -/
def trimV (l : List Ce) : List Ce := ((keepV l).reverse.dropWhile isBlank).reverse
def bytesV (l : List Ce) : List UInt8 := l.flatMap fun c => Lib.encodeRune c.r
def textV (l : List Ce) : ByteArray := ⟨(bytesV (trimV l)).toArray⟩
/-- Its runes are int32's. -/
def runesB (l : List Ce) : Bool := l.all fun c => decide (-2147483648 ≤ c.r) && decide (c.r ≤ 2147483647)
/-- Write's answer, of whatever program. -/
def PutPost (w : World) (l : List Ce) (ok : Bool) (e : Ending) (w' : World) : Prop := ∃ v, e = .returned (.tuple #[v, .bool ok]) ∧ OwnC w' w.heap.size v (if ok then l else []) ∧ Below w.heap.size w w'
theorem WriPost.put {w w' : World} {l : List Ce} {ok : Bool} {e : Ending} (h : WriPost w l ok e w') : PutPost w l ok e w' := by
  cases ok with
  | true => obtain ⟨⟨v, h1, h2⟩, h3⟩ := h; exact ⟨v, h1, h2, h3⟩
  | false => obtain ⟨h1, h3⟩ := h; exact ⟨_, h1, own_none _ _, h3⟩

theorem same_lies (u1 u2 : Value) (l1 l2 : List Ce) (w : World) (h1 : Lies w u1 l1) (h2 : Lies w u2 l2) (hl : l1.length ≤ 100000) : Calls Try.prog 21 #[u1, u2] w fun e w' => e = .returned (.bool (decide (l1 = l2))) ∧ Below w.heap.size w w' := by
  obtain ⟨A1, c1, rfl, _⟩ := id h1
  obtain ⟨A2, c2, rfl, _⟩ := id h2
  exact same_any l1 l2 A1 A2 _ _ c1 c2 w h1 h2 hl
def IntIn (n : Int) : Prop := -9223372036854775808 ≤ n ∧ n ≤ 9223372036854775807
/-! ### constants -/
def stepsB (s : ByteArray) : Nat → List Nat → Bool
  | pos, [] => decide (s.size ≤ pos)
  | pos, r :: rs => decide (pos < s.size) && (decide ((Utf8.decode s pos).1 = r) && (decide (1 ≤ (Utf8.decode s pos).2) && stepsB s (pos + (Utf8.decode s pos).2) rs))
theorem steps_of {s : ByteArray} : ∀ {rs : List Nat} {pos : Nat}, stepsB s pos rs = true → Steps s pos rs
  | [], pos, h => (of_decide_eq_true h : s.size ≤ pos)
  | r :: rs, pos, h => by
    simp only [stepsB, Bool.and_eq_true, decide_eq_true_eq] at h
    exact ⟨h.1, h.2.1, h.2.2.1, steps_of h.2.2.2⟩
end Go.Proofs.Ytomfeehebkknoaa.Rw
