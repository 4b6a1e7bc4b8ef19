/- Layer 8: Same: whether two events are alike. -/
import Derived.Test.YtkenaccnmmmooaaDoorF7PaX
import Derived.LoopTactic
import Derived.WideShapes
import Derived.Test.YtkenaccnmmmooaaDoorF5DcA
namespace Go.Proofs.YtkenaccnmmmooaaDoor
open Go.RowKit

/-- Two rows are alike from k on. -/
def rowB (n : Nat) (f g : Nat → Int) (k : Nat) : Bool := if k < n then (if f k = g k then rowB n f g (k + 1) else false) else true
termination_by n - k
def rowsB (n1 n2 : Nat) (f g : Nat → Int) : Bool := if n1 = n2 then rowB n1 f g 0 else false
def gridB (n : Nat) (L M : Nat → Nat) (T U : Nat → Nat → Int) (k : Nat) : Bool := if k < n then (if rowsB (L k) (M k) (T k) (U k) = true then gridB n L M T U (k + 1) else false) else true
termination_by n - k
def gridsB (n1 n2 : Nat) (L M : Nat → Nat) (T U : Nat → Nat → Int) : Bool := if n1 = n2 then gridB n1 L M T U 0 else false

theorem rowB_go {n : Nat} {f g : Nat → Int} {k : Nat} (h : k < n) (e : f k = g k) : rowB n f g k = rowB n f g (k + 1) := by rw [rowB, if_pos h, if_pos e]
theorem rowB_no {n : Nat} {f g : Nat → Int} {k : Nat} (h : k < n) (e : f k ≠ g k) : rowB n f g k = false := by rw [rowB, if_pos h, if_neg e]
theorem rowB_end {n : Nat} {f g : Nat → Int} {k : Nat} (h : ¬ k < n) : rowB n f g k = true := by rw [rowB, if_neg h]
theorem gridB_go {n : Nat} {L M : Nat → Nat} {T U : Nat → Nat → Int} {k : Nat} (h : k < n) (e : rowsB (L k) (M k) (T k) (U k) = true) : gridB n L M T U k = gridB n L M T U (k + 1) := by rw [gridB, if_pos h, if_pos e]
theorem gridB_no {n : Nat} {L M : Nat → Nat} {T U : Nat → Nat → Int} {k : Nat} (h : k < n) (e : rowsB (L k) (M k) (T k) (U k) = false) : gridB n L M T U k = false := by rw [gridB, if_pos h, if_neg (by rw [e]; decide)]
theorem gridB_end {n : Nat} {L M : Nat → Nat} {T U : Nat → Nat → Int} {k : Nat} (h : ¬ k < n) : gridB n L M T U k = true := by rw [gridB, if_neg h]

/-- A row in memory, of any integers. -/
def RowW (w : World) (A : Option Addr) (n : Nat) (f : Nat → Int) : Prop := ∀ c, c < n → ∃ a, A = some a ∧ w.cell? (a.add c) = some (.int .i64 (f c))

/-- A table of any integers in memory. -/
def GridW (w : World) (A : Option Addr) (n : Nat) (L : Nat → Nat) (T : Nat → Nat → Int) : Prop := ∀ r, r < n → ∃ a A' C, A = some a ∧ w.cell? (a.add r) = some (.slice A' (L r) C) ∧ L r ≤ 9223372036854775807 ∧ RowW w A' (L r) (T r)
theorem RowW.drewN {w : World} {A : Option Addr} {n : Nat} {f : Nat → Int} (h : RowW w A n f) (k : Nat) : RowW (w.drewN k) A n f := h

theorem cell_lt {w : World} {p : Addr} {v : Value} (h : w.cell? p = some v) : p.block < w.heap.size := by
  unfold World.cell? at h
  cases hx : w.heap[p.block]? with
  | none => simp [hx] at h
  | some y => exact (Array.getElem?_eq_some_iff.1 hx).1
theorem GridW.below {w w' : World} {A : Option Addr} {n : Nat} {L : Nat → Nat} {T : Nat → Nat → Int} (h : GridW w A n L T) (hb : Below w.heap.size w w') : GridW w' A n L T := fun r hr => by
  obtain ⟨a, A', C, e, h1, h2, h3⟩ := h r hr
  refine ⟨a, A', C, e, (hb.cell (cell_lt h1)).trans h1, h2, fun c hc => ?_⟩
  obtain ⟨b, e', k⟩ := h3 c hc
  exact ⟨b, e', (hb.cell (cell_lt k)).trans k⟩
theorem two_below (w : World) (x y : Obj) : Below w.heap.size w ((w.alloc x).alloc y) := ((Below.refl _ _).alloc (Nat.le_refl _) _).alloc (by simp) _
theorem str_ne {a b : ByteArray} (h : a ≠ b) : (a.toList == b.toList) = false := by
  have : a.toList ≠ b.toList := fun e => h (by
    rw [ByteArray.toList_eq, ByteArray.toList_eq] at e
    exact WideShapes.bytes_inj e)
  simpa using this
theorem str_eq (a : ByteArray) : (a.toList == a.toList) = true := by simp
/-- Whether all of two events is alike. -/
def sameV (k1 k2 r1 r2 f1 f2 : Int) (m1 m2 t1 t2 : ByteArray) (g : Bool) : Bool := (k1 == k2) && ((r1 == r2) && ((f1 == f2) && ((m1.toList == m2.toList) && ((t1.toList == t2.toList) && g))))
end Go.Proofs.YtkenaccnmmmooaaDoor
