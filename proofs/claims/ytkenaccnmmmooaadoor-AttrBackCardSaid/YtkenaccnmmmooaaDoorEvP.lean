/- Layer 8: a value that lies inside a block (an embedded struct, a field): its cells; what may turn. -/
import Derived.Test.YtkenaccnmmmooaaDoorProg
import Derived.WalkKit
import Derived.KernelRfl
import Derived.Lib.Hide
import Derived.Deep.QuietTactic
import Derived.BigQuiet
import Derived.Below
import Derived.OneCell
import Derived.Laws.Rows
import Derived.Deep.Heap
import Derived.Laws.IdiomCopy
set_option linter.unusedVariables false
namespace Go.Proofs.YtkenaccnmmmooaaDoor
open Go.RowKit

/-- The cells c lie in block a from o on. -/
def Part (w : World) (a o : Nat) (c : Array Value) : Prop := ∃ C t, w.heap[a]? = some (.cells C t (0, 0)) ∧ o + c.size ≤ C.size ∧ ∀ i, i < c.size → C[o + i]? = c[i]?

namespace Part
variable {w : World} {a o : Nat} {c : Array Value}
theorem cell (h : Part w a o c) {i : Nat} (hi : i < c.size) : w.cell? ⟨a, o + i, none⟩ = c[i]? := by
  obtain ⟨C, t, h1, _, h3⟩ := h
  simp [World.cell?, h1, h3 i hi]
theorem free (h : Part w a o c) (i : Nat) : w.frozen? ⟨a, i, none⟩ = false := by
  obtain ⟨C, t, h1, _, _⟩ := h
  simp [World.frozen?, h1]
theorem lt (h : Part w a o c) : a < w.heap.size := by
  obtain ⟨C, t, h1, _, _⟩ := h
  exact (Array.getElem?_eq_some_iff.1 h1).1
theorem of_block {w' : World} (h : Part w a o c) (e : w'.heap[a]? = w.heap[a]?) : Part w' a o c := by
  obtain ⟨C, t, h1, h2, h3⟩ := h
  exact ⟨C, t, e.trans h1, h2, h3⟩
theorem below {w' : World} {B : Nat} (h : Part w a o c) (hb : Below B w w') (hB : a < B) : Part w' a o c := h.of_block (hb.block a hB)
theorem whole {t : TypeId} (h : w.heap[a]? = some (.cells c t (0, 0))) : Part w a 0 c := ⟨c, t, h, by omega, fun i _ => by rw [Nat.zero_add]⟩
/-- A store into it. -/
theorem set (h : Part w a o c) (i : Nat) (v : Value) (hi : i < c.size) : Part (w.setCell ⟨a, o + i, none⟩ v) a o (c.setIfInBounds i v) := by
  obtain ⟨C, t, h1, h2, h3⟩ := h
  refine ⟨_, t, heap_setCell_same w a (o + i) C t v h1, by simpa using h2, fun j hj => ?_⟩
  have hj : j < c.size := by simpa using hj
  by_cases e : i = j
  · subst e
    rw [Array.getElem?_setIfInBounds_self_of_lt (by omega), Array.getElem?_setIfInBounds_self_of_lt hi]
  · rw [Array.getElem?_setIfInBounds_ne (by omega), Array.getElem?_setIfInBounds_ne e, h3 j hj]
/-- A store beside it. -/
theorem beside (h : Part w a o c) (i : Nat) (v : Value) (hi : i < o ∨ o + c.size ≤ i) : Part (w.setCell ⟨a, i, none⟩ v) a o c := by
  obtain ⟨C, t, h1, h2, h3⟩ := h
  refine ⟨_, t, heap_setCell_same w a i C t v h1, by simpa using h2, fun j hj => ?_⟩
  rw [Array.getElem?_setIfInBounds_ne (by omega), h3 j hj]
/-- A piece of it. -/
theorem piece (h : Part w a o c) (p n : Nat) (c' : Array Value) (hs : c'.size = n) (hn : p + n ≤ c.size) (hc : ∀ i, i < n → c[p + i]? = c'[i]?) : Part w a (o + p) c' := by
  obtain ⟨C, t, h1, h2, h3⟩ := h
  refine ⟨C, t, h1, by omega, fun i hi => ?_⟩
  rw [← hc i (by omega), ← h3 (p + i) (by omega), Nat.add_assoc]
end Part

/-- Only n cells of block g from o on, and new blocks, have turned. -/
structure Stirs (g o n : Nat) (w w' : World) : Prop where
  os : w'.os = w.os
  tape : w'.tape = w.tape
  output : w'.output = w.output
  size : w.heap.size ≤ w'.heap.size
  block : ∀ k, k < w.heap.size → k ≠ g → w'.heap[k]? = w.heap[k]?
  part : ∀ C t, w.heap[g]? = some (.cells C t (0, 0)) → ∃ C', w'.heap[g]? = some (.cells C' t (0, 0)) ∧ C'.size = C.size ∧ ∀ i, i < o ∨ o + n ≤ i → C'[i]? = C[i]?

namespace Stirs
variable {g o n : Nat} {w w1 w2 : World}
theorem refl (g o n : Nat) (w : World) : Stirs g o n w w := ⟨rfl, rfl, rfl, Nat.le_refl _, fun _ _ _ => rfl, fun C t h => ⟨C, h, rfl, fun _ _ => rfl⟩⟩
theorem below {B : Nat} {w0 : World} (h : Stirs g o n w w1) (hg : B ≤ g) (hb : Below B w0 w) (hs : B ≤ w.heap.size) : Below B w0 w1 :=
  hb.trans ⟨h.os, h.tape, h.output, h.size, fun k hk => h.block k (by omega) (by omega)⟩
theorem trans (h : Stirs g o n w w1) (k : Stirs g o n w1 w2) : Stirs g o n w w2 :=
  ⟨k.os.trans h.os, k.tape.trans h.tape, k.output.trans h.output, Nat.le_trans h.size k.size, fun j hj hg => (k.block j (by have := h.size; omega) hg).trans (h.block j hj hg), fun C t hC => by
    obtain ⟨C1, e1, e2, e3⟩ := h.part C t hC
    obtain ⟨C2, f1, f2, f3⟩ := k.part C1 t e1
    exact ⟨C2, f1, f2.trans e2, fun i hi => (f3 i hi).trans (e3 i hi)⟩⟩
theorem set (h : Stirs g o n w w1) (i : Nat) (v : Value) (hi : o ≤ i ∧ i < o + n) : Stirs g o n w (w1.setCell ⟨g, i, none⟩ v) :=
  ⟨h.os, h.tape, h.output, by simpa using h.size, fun j hj hg => (Below.heap_setCell _ _ _ _ hg).trans (h.block j hj hg), fun C t hC => by
    obtain ⟨C1, e1, e2, e3⟩ := h.part C t hC
    refine ⟨_, heap_setCell_same w1 g i C1 t v e1, by simpa using e2, fun j hj => ?_⟩
    rw [Array.getElem?_setIfInBounds_ne (by omega)]
    exact e3 j hj⟩
theorem drewN (h : Stirs g o n w w1) (k : Nat) : Stirs g o n w (w1.drewN k) := ⟨h.os, h.tape, h.output, h.size, h.block, h.part⟩
theorem drew (h : Stirs g o n w w1) : Stirs g o n w w1.drew := ⟨h.os, h.tape, h.output, h.size, h.block, h.part⟩
/-- What came behind it, of new blocks. -/
theorem andthen {B : Nat} (h : Stirs g o n w w1) (hb : Below B w1 w2) (hB : w.heap.size ≤ B) (hg : g < w.heap.size) : Stirs g o n w w2 :=
  ⟨hb.os.trans h.os, hb.tape.trans h.tape, hb.output.trans h.output, Nat.le_trans h.size hb.size, fun k hk hne => (hb.block k (by omega)).trans (h.block k hk hne), fun C t hC => by
    obtain ⟨C1, e1, e2, e3⟩ := h.part C t hC
    exact ⟨C1, (hb.block g (by omega)).trans e1, e2, e3⟩⟩
theorem alloc (h : Stirs g o n w w1) (x : Obj) (hg : g < w.heap.size) : Stirs g o n w (w1.alloc x) := h.andthen ((Below.refl _ _).alloc (Nat.le_refl _) x) h.size hg
/-- What lies beside it stays. -/
theorem other {p : Nat} {c : Array Value} (h : Stirs g o n w w1) (hp : Part w g p c) (hd : p + c.size ≤ o ∨ o + n ≤ p) : Part w1 g p c := by
  obtain ⟨C, t, h1, h2, h3⟩ := hp
  obtain ⟨C1, e1, e2, e3⟩ := h.part C t h1
  exact ⟨C1, t, e1, by omega, fun i hi => by rw [e3 (p + i) (by omega)]; exact h3 i hi⟩
theorem away {a p : Nat} {c : Array Value} (h : Stirs g o n w w1) (hp : Part w a p c) (ha : a ≠ g) : Part w1 a p c := hp.of_block (h.block a hp.lt ha)
/-- A wider part. -/
theorem wider {o' n' : Nat} (h : Stirs g o n w w1) (h1 : o' ≤ o) (h2 : o + n ≤ o' + n') : Stirs g o' n' w w1 :=
  ⟨h.os, h.tape, h.output, h.size, h.block, fun C t hC => by
    obtain ⟨C1, e1, e2, e3⟩ := h.part C t hC
    exact ⟨C1, e1, e2, fun i hi => e3 i (by omega)⟩⟩
end Stirs
theorem below_drew {B : Nat} {a w : World} (h : Below B a w) (n : Nat) : Below B a (w.drewN n) := ⟨h.os, h.tape, h.output, h.size, h.block⟩

/-- Cells stored one behind the other. -/
theorem setCells_at (a : Nat) : ∀ (vs : List Value) (o : Nat) (w : World) (C : Array Value) (t : TypeId), w.heap[a]? = some (.cells C t (0, 0)) → o + vs.length ≤ C.size →
    ∃ C', (w.setCells a o vs).heap[a]? = some (.cells C' t (0, 0)) ∧ C'.size = C.size ∧ (∀ i, i < vs.length → C'[o + i]? = vs[i]?) ∧ ∀ i, i < o ∨ o + vs.length ≤ i → C'[i]? = C[i]?
  | [], o, w, C, t, h, _ => ⟨C, h, rfl, fun i hi => by simp at hi, fun _ _ => rfl⟩
  | v :: vs, o, w, C, t, h, hl => by
    simp only [List.length_cons] at hl
    obtain ⟨C', h1, h2, h3, h4⟩ := setCells_at a vs (o + 1) (w.setCell ⟨a, o, none⟩ v) (C.setIfInBounds o v) t (heap_setCell_same w a o C t v h) (by simp; omega)
    refine ⟨C', h1, by simpa using h2, fun i hi => ?_, fun i hi => ?_⟩
    · cases i with
      | zero =>
        rw [Nat.add_zero, h4 o (by omega), Array.getElem?_setIfInBounds_self_of_lt (by omega)]
        rfl
      | succ i =>
        have := h3 i (by simpa using hi)
        rw [show o + (i + 1) = o + 1 + i by omega, this]
        rfl
    · simp only [List.length_cons] at hi
      rw [h4 i (by omega), Array.getElem?_setIfInBounds_ne (by omega)]
theorem setCells_rest (a : Nat) : ∀ (vs : List Value) (o : Nat) (w : World), (w.setCells a o vs).os = w.os ∧ (w.setCells a o vs).tape = w.tape ∧ (w.setCells a o vs).output = w.output ∧ (w.setCells a o vs).heap.size = w.heap.size ∧ ∀ k, k ≠ a → (w.setCells a o vs).heap[k]? = w.heap[k]?
  | [], _, _ => ⟨rfl, rfl, rfl, rfl, fun _ _ => rfl⟩
  | v :: vs, o, w => by
    obtain ⟨h1, h2, h3, h4, h5⟩ := setCells_rest a vs (o + 1) (w.setCell ⟨a, o, none⟩ v)
    exact ⟨h1, h2, h3, h4.trans (by simp), fun k hk => (h5 k hk).trans (Below.heap_setCell _ _ _ _ hk)⟩
theorem Part.cells {w : World} {a o : Nat} {c : Array Value} (h : Part w a o c) (d : Array Value) (hd : d.size = c.size) : Part (w.setCells a o d.toList) a o d := by
  obtain ⟨C, t, h1, h2, _⟩ := h
  obtain ⟨C', e1, e2, e3, _⟩ := setCells_at a d.toList o w C t h1 (by simp; omega)
  refine ⟨C', t, e1, by omega, fun i hi => ?_⟩
  rw [e3 i (by simpa using hi)]
  simp
theorem Stirs.cells {w : World} {a o : Nat} {c : Array Value} (h : Part w a o c) (d : Array Value) (hd : d.size = c.size) : Stirs a o c.size w (w.setCells a o d.toList) := by
  obtain ⟨h1, h2, h3, h4, h5⟩ := setCells_rest a d.toList o w
  refine ⟨h1, h2, h3, by omega, fun k _ hk => h5 k hk, fun C t hC => ?_⟩
  obtain ⟨C0, t0, e, hsz, _⟩ := h
  rw [hC] at e
  cases e
  obtain ⟨C', e1, e2, _, e4⟩ := setCells_at a d.toList o w C t hC (by simp; omega)
  exact ⟨C', e1, e2, fun i hi => e4 i (by simp; omega)⟩
end Go.Proofs.YtkenaccnmmmooaaDoor
