/- Layer 2: a log in memory, its entries; New, Len, made, isLabel. -/
import Derived.Test.YtjfonbkeamhnmaaLatB
import Derived.Test.YtjfonbkeamhnmaaLatG
import Derived.Deep.AppendLies
import Derived.Deep.MidRow
namespace Go.Proofs.Ytjfonbkeamhnmaa
open Go.RowKit Lat

/-- An entry. -/
structure Ent where
  b : Int
  f : Int
  t : Int
  s : ByteArray

def Ent.cells (e : Ent) : List Value := [.int .i64 e.b, .int .i64 e.f, .int .i64 e.t, .string e.s]
def Ent.val (e : Ent) : Value := .agg #[.int .i64 e.b, .int .i64 e.f, .int .i64 e.t, .string e.s]
def flat (l : List Ent) : List Value := l.flatMap Ent.cells

theorem flat_len (l : List Ent) : (flat l).length = l.length * 4 := by
  induction l with
  | nil => rfl
  | cons a l ih => simp only [flat, List.flatMap_cons, List.length_append, List.length_cons] at *; rw [ih]; simp [Ent.cells]; omega

theorem flat_get (l : List Ent) (k : Nat) (hk : k < l.length) (j : Nat) (hj : j < 4) : (flat l)[k * 4 + j]? = (l[k]).cells[j]? := by
  induction l generalizing k with
  | nil => simp at hk
  | cons a l ih =>
    have e : flat (a :: l) = a.cells ++ flat l := by simp [flat]
    rw [e]
    cases k with
    | zero => rw [List.getElem?_append_left (by simp [Ent.cells]; omega)]; simp
    | succ k =>
      rw [List.getElem?_append_right (by simp [Ent.cells]; omega)]
      have h2 : (k + 1) * 4 + j - a.cells.length = k * 4 + j := by simp [Ent.cells]; omega
      rw [h2, ih k (by simpa using hk)]
      simp

/-- A log's entries: a slice of its own. -/
def Ents (w : World) (base : Nat) (v : Value) (l : List Ent) : Prop := w.ownsRow base 30 4 v l.length (flat l)

/-- A log in memory: its struct, its lattice, its entries. -/
structure IsLog (w : World) (gb lb n : Nat) (T : Nat → Nat → Bool) (v : Value) (l : List Ent) : Prop where
  blk : w.heap[gb]? = some (.cells #[.pointer (some ⟨lb, 0, none⟩), v] 54 (0, 0))
  lat : IsLat w lb n T
  own : Ents w 0 v l

theorem IsLog.cells {w : World} {gb lb n : Nat} {T : Nat → Nat → Bool} {v : Value} {l : List Ent} (h : IsLog w gb lb n T v l) : w.cell? ⟨gb, 0, none⟩ = some (.pointer (some ⟨lb, 0, none⟩)) ∧ w.cell? ⟨gb, 1, none⟩ = some v := by
  refine ⟨?_, ?_⟩ <;> rw [cell_of h.blk] <;> rfl

theorem IsLat.pos {w : World} {lb n : Nat} {T : Nat → Nat → Bool} (h : IsLat w lb n T) : 1 ≤ n ∧ n ≤ 64 := by
  obtain ⟨ub, db, d, js, ms, h⟩ := h
  exact ⟨h.pos, h.le⟩

/-- What the slice looks like: its length, and where its entries lie. -/
theorem ents_shape {w : World} {base : Nat} {v : Value} {l : List Ent} (h : Ents w base v l) : ∃ A c, v = .slice A l.length c ∧ l.length ≤ 9223372036854775807 ∧ ∀ k (hk : k < l.length), ∃ g, A = some ⟨g, 0, none⟩ ∧ g < w.heap.size ∧ w.rangeAt g (k * 4) (l[k]).cells := by
  rcases h.2 with ⟨rfl, h0⟩ | ⟨g, cap, cur, rfl, _, hh, hle, hm, hsz, hcur⟩
  · exact ⟨none, 0, by rw [h0], by omega, fun k hk => by omega⟩
  · unfold maxLen at hm
    refine ⟨_, cap, rfl, by omega, fun k hk => ⟨g, rfl, lt_of hh, ?_⟩⟩
    intro j u hj
    have hj4 : j < 4 := by
      have := (List.getElem?_eq_some_iff.1 hj).1
      simpa [Ent.cells] using this
    have h1 := flat_get l k hk j hj4
    rw [hj, ← hcur, List.getElem?_take] at h1
    rw [cell_of hh]
    split at h1
    · simpa using h1
    · cases h1

end Go.Proofs.Ytjfonbkeamhnmaa
