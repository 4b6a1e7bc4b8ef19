/- Layer 11: the program's Whole. -/
import Derived.Test.YtifolcfnknlmdaaRwPX
set_option linter.unusedVariables false
namespace Go.Proofs.Ytifolcfnknlmdaa.Rw
open Go.RowKit

abbrev zeroO : Obj := .cells #[.int .i32 0, .int .u8 0, .int .u16 0, .int .u8 0, .int .u32 0, .int .u8 0, .int .u32 0] 38 (0, 0)
/-- A cell's own block, made and written. -/
theorem zero_at (w : World) (c : Ce) {B : Nat} {w0 : World} (hb : Below B w0 w) : ∃ W q, w.alloc zeroO = W ∧ w.heap.size = q ∧
    (W.cell? ⟨q, 0, none⟩ = some (.int .i32 0) ∧ W.cell? ⟨q, 1, none⟩ = some (.int .u8 0) ∧ W.cell? ⟨q, 2, none⟩ = some (.int .u16 0) ∧ W.cell? ⟨q, 3, none⟩ = some (.int .u8 0) ∧ W.cell? ⟨q, 4, none⟩ = some (.int .u32 0) ∧ W.cell? ⟨q, 5, none⟩ = some (.int .u8 0) ∧ W.cell? ⟨q, 6, none⟩ = some (.int .u32 0)) ∧ (∀ i, W.frozen? ⟨q, i, none⟩ = false) ∧ (B ≤ w.heap.size → Below B w0 (setCe W q 0 c)) ∧ Below w.heap.size w (setCe W q 0 c) ∧
    (setCe W q 0 c).heap[q]? = some (.cells #[.int .i32 c.r, .int .u8 (c.w : Int), .int .u16 (c.a.fl : Int), .int .u8 (c.a.fk : Int), .int .u32 (c.a.fn : Int), .int .u8 (c.a.bk : Int), .int .u32 (c.a.bn : Int)] 38 (0, 0)) := by
  have hnew := heap_alloc_new w zeroO
  refine ⟨_, _, rfl, rfl, ⟨cell_of hnew 0, cell_of hnew 1, cell_of hnew 2, cell_of hnew 3, cell_of hnew 4, cell_of hnew 5, cell_of hnew 6⟩, free_of hnew, fun h => setCe_below (hb.alloc h _) h 0 c, setCe_below ((Below.refl _ _).alloc (Nat.le_refl _) _) (Nat.le_refl _) 0 c, heap_ce hnew c⟩

theorem wpList_alloc_ce {w : World} {ops : Array Oper} {rest : List Oper} {o : Oper} {a : Act} {Q : Exit → Act → World → Prop} (hgd : o.guard = none) (ho : o.op = .alloc 38)
    (h : wpList Try.prog ops Q rest (a.put o.dst (.pointer (some ⟨w.heap.size, 0, none⟩))) (w.alloc zeroO)) : wpList Try.prog ops Q (o :: rest) a w := by
  refine wpList_plain hgd fun K hK => ?_
  unfold Oper.wp
  rw [exec_alloc _ _ ho, Oper.upon_value]
  exact hK _ _ h

end Go.Proofs.Ytifolcfnknlmdaa.Rw
