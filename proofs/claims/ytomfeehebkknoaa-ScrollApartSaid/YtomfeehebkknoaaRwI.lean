/- Layer 11: the document's Write. -/
import Derived.Test.YtomfeehebkknoaaRwH
set_option linter.unusedVariables false
namespace Go.Proofs.Ytomfeehebkknoaa.Rw
open Go.RowKit

/-- Write's answer: a row of the call's own, or nothing. -/
def WriPost (w : World) (l : List Ce) (ok : Bool) (e : Ending) (w' : World) : Prop := (if ok then ∃ v, e = .returned (.tuple #[v, .bool true]) ∧ OwnC w' w.heap.size v l else e = .returned (.tuple #[.slice none 0 0, .bool false])) ∧ Below w.heap.size w w'
def litC1 (w : World) (a : Aa) (r : Int) : World := (w.alloc (attrO a)).alloc (.cells #[.int .i32 r, .int .u8 0, .int .u16 (a.fl : Int), .int .u8 (a.fk : Int), .int .u32 (a.fn : Int), .int .u8 (a.bk : Int), .int .u32 (a.bn : Int)] 40)
abbrev pen2O (a : Aa) (r : Int) : Obj := .cells #[.int .i32 r, .int .u8 1, .int .u16 (a.fl : Int), .int .u8 (a.fk : Int), .int .u32 (a.fn : Int), .int .u8 (a.bk : Int), .int .u32 (a.bn : Int), .int .i32 r, .int .u8 2, .int .u16 (a.fl : Int), .int .u8 (a.fk : Int), .int .u32 (a.fn : Int), .int .u8 (a.bk : Int), .int .u32 (a.bn : Int)] 40 (0, 0)
def litC2 (w : World) (a : Aa) (r : Int) : World := (litC1 w a r).alloc (pen2O a r)
theorem lit1_at (w : World) (a : Aa) (r : Int) : Below w.heap.size w (litC1 w a r) ∧ Lies (litC1 w a r) (.slice (some ⟨w.heap.size + 1, 0, none⟩) 1 1) (penV r false a) := by
  have hs : (w.alloc (attrO a)).heap.size = w.heap.size + 1 := by simp
  refine ⟨((Below.refl _ _).alloc (Nat.le_refl _) _).alloc (by simp) _, ?_⟩
  have := one_lies (w.alloc (attrO a)) ⟨r, 0, a⟩
  rw [hs] at this
  exact this
theorem lit2_at (w : World) (a : Aa) (r : Int) : Below w.heap.size w (litC2 w a r) ∧ Lies (litC2 w a r) (.slice (some ⟨w.heap.size + 1 + 1, 0, none⟩) 2 2) (penV r true a) := by
  have hs : (litC1 w a r).heap.size = w.heap.size + 1 + 1 := by simp [litC1]
  have hB := (lit1_at w a r).1
  refine ⟨hB.alloc hB.size _, _, 2, rfl, fun e => (by cases e), ⟨Nat.le_refl 2, by decide⟩, fun _ => ⟨w.heap.size + 1 + 1, 0, rfl, by simp [litC2, hs], fun i hi j u hj => ?_⟩⟩
  have hb : (litC2 w a r).heap[w.heap.size + 1 + 1]? = some (pen2O a r) := by
    rw [← hs]
    exact heap_alloc_new (litC1 w a r) _
  rw [cell_of hb]
  have hi : i < 2 := hi
  have hj7 : j < 7 := by
    have := (List.getElem?_eq_some_iff.1 hj).1
    rwa [cells_len] at this
  have : i = 0 ∨ i = 1 := by omega
  have hj8 : j = 0 ∨ j = 1 ∨ j = 2 ∨ j = 3 ∨ j = 4 ∨ j = 5 ∨ j = 6 := by omega
  rcases this with rfl | rfl <;> rcases hj8 with rfl | rfl | rfl | rfl | rfl | rfl | rfl <;> exact hj

end Go.Proofs.Ytomfeehebkknoaa.Rw
