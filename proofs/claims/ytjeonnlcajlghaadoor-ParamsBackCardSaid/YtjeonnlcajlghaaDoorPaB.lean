/- Layer 7: Clear, a nil list. -/
import Derived.Test.YtjeonnlcajlghaaDoorPaA
import Derived.Laws.Tables
namespace Go.Proofs.YtjeonnlcajlghaaDoor
open Go.RowKit Par

def modeB : Option PS → Bool
  | none => false
  | some p => p.m != 0
def memOf (o : Option PS) : PM := ⟨fun i j => ((listP o).getD i []).getD j 0, fun i => ((listP o).getD i []).length, (listP o).length, modeB o⟩

/-- A list in memory. -/
structure IsPars (w : World) (a : Nat) (o : Option PS) : Prop where
  blk : PB w a (memOf o)
  ok : OkO o

def zeroM : Array Value := cellsM (memOf none)
theorem build_list (W : World) : (Instr.build 39 #[]).run Tryd.prog W = .ok (.agg zeroM) W := run_build W 39 #[] _ (by kernel_rfl)
theorem zero_list (W : World) : (zeroValue 39).run Tryd.prog W = .ok (.agg zeroM) W := by kernel_rfl
theorem info_list : (Tryd.prog.info? 39).map (·.size) = some 146 := by kernel_rfl
theorem zero_size : zeroM.size = 146 := by simp [zeroM, cellsM]
theorem zero_one : zeroM.all (·.oneCell') = true := by kernel_rfl
theorem zero_agg : (Value.agg zeroM).cells = zeroM := by kernel_rfl
attribute [local irreducible] zeroM
theorem store_list (a : Nat) (m : PM) (w : World) (h : PB w a m) : (storeCells ⟨a, 0, none⟩ zeroM.toList).run Tryd.prog w = .ok () (w.setRow a zeroM) :=
  run_storeCells_from (P := Tryd.prog) a 39 zeroM.toList 0 (cellsM m) w h (by simp [zero_size, cellsM]) (fun v hv => (Array.all_eq_true_iff_forall_mem.1 zero_one) v (by simpa using hv))
theorem row_zero (a : Nat) (m : PM) (w : World) (h : PB w a m) : PB (w.setRow a zeroM) a (memOf none) := by
  have := setRow_heap w a _ zeroM _ _ h
  rw [show zeroM = cellsM (memOf none) by unfold zeroM; rfl] at this ⊢
  exact this
theorem row_stirs (a : Nat) (w : World) : Stirs a w (w.setRow a zeroM) := ⟨rfl, rfl, rfl, by simp, fun k hk hne => setRow_other w a k _ hne⟩

theorem clear_any (a : Nat) (o : Option PS) (w : World) (h : IsPars w a o) : Calls Tryd.prog 10 #[.pointer (some ⟨a, 0, none⟩)] w fun e w' => e = .returned (.tuple #[]) ∧ IsPars w' a none ∧ Stirs a w w' := by
  have hb := zero_list
  have hs := store_list a _ w h.blk
  have hz := zero_size
  have HP : Hid (IsPars (w.setRow a zeroM) a none ∧ Stirs a w (w.setRow a zeroM)) := Lib.hid ⟨⟨row_zero a _ w h.blk, ok_none⟩, row_stirs a w⟩
  clear h
  go_enter Tryd.func10, Tryd.ntmps10
  go_wp2
  go_end0
  exact ⟨rfl, HP.out⟩
end Go.Proofs.YtjeonnlcajlghaaDoor
