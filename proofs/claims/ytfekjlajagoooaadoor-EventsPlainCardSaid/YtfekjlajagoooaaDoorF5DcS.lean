/- Layer 5: the document's shapes in memory. -/
import Derived.Test.YtfekjlajagoooaaDoorF5DcA
import Derived.Test.YtfekjlajagoooaaDoorE5DcR
import Derived.Deep.Heap
namespace Go.Proofs.YtfekjlajagoooaaDoor.D5
open Go.RowKit Go.Lib Dec

theorem build_byte (x y : Int) (W : World) : (Instr.build 58 #[(0, .int .u8 x), (1, .int .u8 y)]).run Tryd.prog W = .ok (.agg #[.int .u8 x, .int .u8 y]) W := run_build W 58 #[(0, .int .u8 x), (1, .int .u8 y)] _ (by kernel_rfl)

/-- Row i's cells; the table's. -/
def rowC (i : Nat) : Array Value := ((tab.getD i []).flatMap fun p => [Value.int .u8 (p.1 : Nat), Value.int .u8 (p.2 : Nat)]).toArray
def outC (b : Nat) : Array Value := ((List.range 9).map fun i => Value.slice (some ⟨b + 1 + i, 0, none⟩) (lenI i) (lenI i)).toArray

/-- The document's table in memory, behind block b. -/
structure ShapesAt (w : World) (b : Nat) : Prop where
  rows : ∀ i, i < 9 → w.heap[b + 1 + i]? = some (.cells (rowC i) 58 (0, 0))
  outer : w.heap[b + 10]? = some (.cells (outC b) 126 (0, 0))

theorem push_at (w : World) (o : Obj) (k : Nat) (h : w.heap.size = k) : (w.alloc o).heap[k]? = some o := by
  subst h
  exact Deep.blk_alloc_new w o
theorem push_old (w : World) (o : Obj) (k : Nat) (x : Obj) (h : w.heap[k]? = some x) : (w.alloc o).heap[k]? = some x := by
  rw [Below.heap_alloc _ _ _ (Array.getElem?_eq_some_iff.1 h).1]
  exact h

set_option maxHeartbeats 1000000 in
theorem shapes_any (w : World) : Calls Tryd.prog 82 #[] w fun e w' => e = .returned (.slice (some ⟨w.heap.size + 10, 0, none⟩) 9 9) ∧ ShapesAt w' w.heap.size ∧ Below w.heap.size w w' := by
  have kb := build_byte
  go_enter Tryd.func82, Tryd.ntmps82
  go_wp2
  go_ret
  refine ⟨rfl, ⟨fun i hi => ?_, ?_⟩, ?_⟩
  · obtain rfl | rfl | rfl | rfl | rfl | rfl | rfl | rfl | rfl : i = 0 ∨ i = 1 ∨ i = 2 ∨ i = 3 ∨ i = 4 ∨ i = 5 ∨ i = 6 ∨ i = 7 ∨ i = 8 := by omega
    all_goals
      repeat (first | exact push_at _ _ _ (by simp) | apply push_old)
  · exact push_at _ _ _ (by simp)
  · repeat (first | exact Below.refl _ _ | refine Below.alloc ?_ (by simp; try omega) _)

theorem row_cell (i k : Nat) (hi : i < 9) (hk : k < lenI i) : (rowC i)[k * 2]? = some (.int .u8 (loI i k : Nat)) ∧ (rowC i)[k * 2 + 1]? = some (.int .u8 (hiI i k : Nat)) := by
  obtain rfl | rfl | rfl | rfl | rfl | rfl | rfl | rfl | rfl : i = 0 ∨ i = 1 ∨ i = 2 ∨ i = 3 ∨ i = 4 ∨ i = 5 ∨ i = 6 ∨ i = 7 ∨ i = 8 := by omega
  all_goals
    have hk' : k < 4 := Nat.lt_of_lt_of_le hk (by decide)
    obtain rfl | rfl | rfl | rfl : k = 0 ∨ k = 1 ∨ k = 2 ∨ k = 3 := by omega
    all_goals first | exact ⟨rfl, rfl⟩ | (exact absurd hk (by decide))

theorem ShapesAt.below {w w' : World} {b B : Nat} (h : ShapesAt w b) (hb : Below B w w') (hB : w.heap.size ≤ B) : ShapesAt w' b :=
  ⟨fun i hi => (hb.block _ (Nat.lt_of_lt_of_le (Array.getElem?_eq_some_iff.1 (h.rows i hi)).1 hB)).trans (h.rows i hi), (hb.block _ (Nat.lt_of_lt_of_le (Array.getElem?_eq_some_iff.1 h.outer).1 hB)).trans h.outer⟩
theorem ShapesAt.drewN {w : World} {b : Nat} (h : ShapesAt w b) (n : Nat) : ShapesAt (w.drewN n) b := ⟨h.rows, h.outer⟩

theorem ShapesAt.cells {w : World} {b : Nat} (h : ShapesAt w b) (i k : Nat) (hi : i < 9) (hk : k < lenI i) : w.cell? ⟨b + 1 + i, k * 2, none⟩ = some (.int .u8 (loI i k : Nat)) ∧ w.cell? ⟨b + 1 + i, k * 2 + 1, none⟩ = some (.int .u8 (hiI i k : Nat)) := by
  have hr := row_cell i k hi hk
  have hb := h.rows i hi
  exact ⟨by simp [World.cell?, hb, hr.1], by simp [World.cell?, hb, hr.2]⟩
theorem ShapesAt.slot {w : World} {b : Nat} (h : ShapesAt w b) (i : Nat) (hi : i < 9) : w.cell? ⟨b + 10, i, none⟩ = some (.slice (some ⟨b + 1 + i, 0, none⟩) (lenI i) (lenI i)) := by
  have hb := h.outer
  have ho : (outC b)[i]? = some (.slice (some ⟨b + 1 + i, 0, none⟩) (lenI i) (lenI i)) := by simp [outC, hi]
  simp [World.cell?, hb, ho]

end Go.Proofs.YtfekjlajagoooaaDoor.D5
