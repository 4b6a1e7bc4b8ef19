/- Layer 11: the law's own row of a text. -/
import Derived.Test.YtomfeehebkknoaaRwI
import Derived.Lib.OthersKept
import Derived.WalkSmall
import Derived.WalkSpells
set_option linter.unusedVariables false
namespace Go.Proofs.Ytomfeehebkknoaa.Rw
open Go.RowKit

/-- A text's characters from a place on, as Go's loop reads them. -/
def Steps (s : ByteArray) : Nat → List Nat → Prop
  | pos, [] => s.size ≤ pos
  | pos, r :: rs => pos < s.size ∧ (Utf8.decode s pos).1 = r ∧ 1 ≤ (Utf8.decode s pos).2 ∧ Steps s (pos + (Utf8.decode s pos).2) rs
def ofR (r : Nat) : List Ce := if 255 < r then [⟨r, 1, zeroAa⟩, ⟨r, 2, zeroAa⟩] else [⟨r, 0, zeroAa⟩]
def ofV (rs : List Nat) : List Ce := rs.flatMap ofR
theorem ofV_snoc (rs : List Nat) (r : Nat) : ofV (rs ++ [r]) = ofV rs ++ ofR r := by simp [ofV]
theorem iterPos_of {w : World} {k : Nat} {s : ByteArray} {p : Nat} (h : w.heap[k]? = some (.stringIter s p)) : w.iterPos k = p := by simp [World.iterPos, h]
theorem ofR_len (r : Nat) : (ofR r).length ≤ 2 := by unfold ofR; split <;> simp
theorem ofV_len (rs : List Nat) : (ofV rs).length ≤ 2 * rs.length := by
  induction rs with
  | nil => simp [ofV]
  | cons r rs ih =>
    have e : ofV (r :: rs) = ofR r ++ ofV rs := rfl
    rw [e, List.length_append, List.length_cons]
    have := ofR_len r
    omega
/-- Two cells, made as a slice. -/
theorem two_lies (w : World) (r : Int) : Lies (w.alloc (.cells #[.int .i32 r, .int .u8 1, .int .u16 0, .int .u8 0, .int .u32 0, .int .u8 0, .int .u32 0, .int .i32 r, .int .u8 2, .int .u16 0, .int .u8 0, .int .u32 0, .int .u8 0, .int .u32 0] 40)) (.slice (some ⟨w.heap.size, 0, none⟩) 2 2) [⟨r, 1, zeroAa⟩, ⟨r, 2, zeroAa⟩] := by
  refine ⟨_, 2, rfl, fun e => (by cases e), ⟨Nat.le_refl 2, by decide⟩, fun _ => ⟨w.heap.size, 0, rfl, by simp, fun i hi j u hj => ?_⟩⟩
  rw [cell_of (heap_alloc_new w _)]
  have hi : i < 2 := hi
  have hj7 : j < 7 := by
    have := (List.getElem?_eq_some_iff.1 hj).1
    rwa [cells_len] at this
  have : i = 0 ∨ i = 1 := by omega
  have hj8 : j = 0 ∨ j = 1 ∨ j = 2 ∨ j = 3 ∨ j = 4 ∨ j = 5 ∨ j = 6 := by omega
  rcases this with rfl | rfl <;> rcases hj8 with rfl | rfl | rfl | rfl | rfl | rfl | rfl <;> exact hj

structure OfRel (w wr : World) (s : ByteArray) (rs : List Nat) (v : Value) (pos : Nat) (a b : List Nat) : Prop where
  cut : rs = a ++ b
  steps : Steps s pos b
  it : wr.heap[w.heap.size]? = some (.stringIter s pos)
  own : OwnC wr (w.heap.size + 1) v (ofV a)
  old : Below w.heap.size w wr
  sz : w.heap.size + 1 ≤ wr.heap.size
theorem OfRel.next {w W1 w2 : World} {s : ByteArray} {rs a b : List Nat} {u v : Value} {pos r : Nat} {x : Obj} (hc : rs = a ++ r :: b) (hs : Steps s pos b) (hit : W1.heap[w.heap.size]? = some (.stringIter s pos)) (hO : OwnC W1 (w.heap.size + 1) u (ofV a)) (hB : Below w.heap.size w W1) (hz : w.heap.size + 1 ≤ W1.heap.size)
    (ho : OwnC w2 (w.heap.size + 1) v (ofV a ++ ofR r)) (gr : (W1.alloc x).grownBy w2 u.ownBlock) : OfRel w w2 s rs v pos (a ++ [r]) b := by
  refine ⟨by rw [hc]; simp, hs, ?_, by rw [ofV_snoc]; exact ho, ?_, Nat.le_trans hz (Nat.le_trans (by simp) gr.size)⟩
  · rw [gr.block _ (by simp; omega) (fun e => by have := own_ge hO _ e.symm; omega), Below.heap_alloc _ _ _ (by omega)]
    exact hit
  · exact (hB.alloc (by omega) x).grown gr (by simp; omega) (fun g hg => by have := own_ge hO g hg; omega)

end Go.Proofs.Ytomfeehebkknoaa.Rw
