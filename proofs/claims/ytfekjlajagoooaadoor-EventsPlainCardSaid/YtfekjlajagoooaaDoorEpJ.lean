/- Layer 8: a new parser. -/
import Derived.Test.YtfekjlajagoooaaDoorEpI
import Derived.Laws.Tables
namespace Go.Proofs.YtfekjlajagoooaaDoor
open Go.RowKit Ev

def zl : List Value := [.int .u8 0, .int .u8 0, .int .u8 0, .int .u8 0, .int .i64 0, .int .i64 0] ++ (List.replicate 145 (.int .i64 0) ++ ([.bool false] ++ ([.int .u8 0, .int .u8 0, .int .i64 0, .int .u8 0] ++ (List.replicate 1024 (.int .u8 0) ++ [.int .i64 0, .pointer none, .pointer none]))))
def zeroP : Array Value := ⟨zl⟩
theorem build_par (W : World) : (Instr.build 66 #[]).run Tryd.prog W = .ok (.agg zeroP) W := run_build W 66 #[] _ (by kernel_rfl)
theorem zero_par (W : World) : (zeroValue 66).run Tryd.prog W = .ok (.agg zeroP) W := by kernel_rfl
theorem zeroP_size : zeroP.size = 1183 := by kernel_rfl
theorem zeroP_one : zl.all (·.oneCell') = true := by kernel_rfl
theorem zeroP_agg : (Value.agg zeroP).cells = zeroP := by kernel_rfl
theorem zeroM_list : P7.cellsM (P7.memOf none) = ⟨List.replicate 145 (.int .i64 0) ++ [.bool false]⟩ := by kernel_rfl

theorem zp (i : Nat) : zeroP[i]? = zl[i]? := by rw [show zeroP = zl.toArray from rfl, List.getElem?_toArray]
theorem z0 : zeroP[0]? = some (Value.int .u8 0) := by kernel_rfl
theorem z1 : zeroP[1]? = some (Value.int .u8 0) := by kernel_rfl
theorem z2 : zeroP[2]? = some (Value.int .u8 0) := by kernel_rfl
theorem z3 : zeroP[3]? = some (Value.int .u8 0) := by kernel_rfl
theorem z4 : zeroP[4]? = some (Value.int .i64 0) := by kernel_rfl
theorem z5 : zeroP[5]? = some (Value.int .i64 0) := by kernel_rfl
theorem z152 : zeroP[152]? = some (Value.int .u8 0) := by kernel_rfl
theorem z153 : zeroP[153]? = some (Value.int .u8 0) := by kernel_rfl
theorem z154 : zeroP[154]? = some (Value.int .i64 0) := by kernel_rfl
theorem z155 : zeroP[155]? = some (Value.int .u8 0) := by kernel_rfl
theorem z1180 : zeroP[1180]? = some (Value.int .i64 0) := by kernel_rfl
theorem z1181 : zeroP[1181]? = some (Value.pointer none) := by kernel_rfl
theorem z1182 : zeroP[1182]? = some (Value.pointer none) := by kernel_rfl
theorem zl_low : ∀ i, i < 6 → zeroP[i]? = #[Value.int .u8 0, .int .u8 0, .int .u8 0, .int .u8 0, .int .i64 0, .int .i64 0][i]? := fun i hi => by
  have : i = 0 ∨ i = 1 ∨ i = 2 ∨ i = 3 ∨ i = 4 ∨ i = 5 := by omega
  rcases this with rfl | rfl | rfl | rfl | rfl | rfl
  · exact z0
  · exact z1
  · exact z2
  · exact z3
  · exact z4
  · exact z5
theorem zl_par : ∀ i, i < 146 → zeroP[6 + i]? = (P7.cellsM (P7.memOf none))[i]? := fun i hi => by
  rw [zeroM_list, zp, show (⟨List.replicate 145 (.int .i64 0) ++ [.bool false]⟩ : Array Value) = (List.replicate 145 (Value.int .i64 0) ++ [Value.bool false]).toArray from rfl, List.getElem?_toArray]
  unfold zl
  rw [List.getElem?_append_right (by simp), ← List.append_assoc, List.getElem?_append_left (by simp; omega)]
  simp
theorem zl_mid : ∀ i, i < 4 → zeroP[152 + i]? = #[Value.int .u8 0, .int .u8 0, .int .i64 0, .int .u8 0][i]? := fun i hi => by
  have : i = 0 ∨ i = 1 ∨ i = 2 ∨ i = 3 := by omega
  rcases this with rfl | rfl | rfl | rfl
  · exact z152
  · exact z153
  · exact z154
  · exact z155
theorem zl_txt : ∀ i, i < 1024 → zeroP[156 + i]? = some (Value.int .u8 0) := fun i hi => by
  rw [zp]
  unfold zl
  have e6 : ([.int .u8 0, .int .u8 0, .int .u8 0, .int .u8 0, .int .i64 0, .int .i64 0] : List Value).length = 6 := rfl
  have e145 : (List.replicate 145 (Value.int .i64 0)).length = 145 := List.length_replicate
  have e1 : ([.bool false] : List Value).length = 1 := rfl
  have e4 : ([.int .u8 0, .int .u8 0, .int .i64 0, .int .u8 0] : List Value).length = 4 := rfl
  have e1024 : (List.replicate 1024 (Value.int .u8 0)).length = 1024 := List.length_replicate
  rw [List.getElem?_append_right (by rw [e6]; omega), e6, List.getElem?_append_right (by rw [e145]; omega), e145, List.getElem?_append_right (by rw [e1]; omega), e1, List.getElem?_append_right (by rw [e4]; omega), e4, List.getElem?_append_left (by rw [e1024]; omega), List.getElem?_replicate, if_pos (by omega)]
theorem zl_end : ∀ i, i < 3 → zeroP[1180 + i]? = #[Value.int .i64 0, .pointer none, .pointer none][i]? := fun i hi => by
  have : i = 0 ∨ i = 1 ∨ i = 2 := by omega
  rcases this with rfl | rfl | rfl
  · exact z1180
  · exact z1181
  · exact z1182
attribute [local irreducible] zeroP zl

/-- A new block of zeros is a new parser. -/
theorem new_isP {w : World} {a : Nat} (h : w.heap[a]? = some (.cells zeroP 66 (0, 0))) (hne : a ≠ 1 ∧ a ≠ 2) : IsP w a q0 [] := by
  have c := fun i => cell_at h i
  refine ⟨⟨zeroP, h, zeroP_size⟩, ⟨⟨zeroP, _, h, by rw [zeroP_size]; simp [D5.cellsK], fun i hi => ?_⟩, rfl, hne⟩, by rw [c, zl_low 5 (by omega)]; rfl, ⟨⟨zeroP, _, h, by rw [zeroP_size, P7.cells_size]; omega, fun i hi => ?_⟩, P7.Par.ok_none⟩, fun i hi => ⟨0, by omega, ?_, fun hl => absurd hl (by simp [q0])⟩, by rw [c, show (154 : Nat) = 152 + 2 from rfl, zl_mid 2 (by omega)]; rfl, by rw [c, show (155 : Nat) = 152 + 3 from rfl, zl_mid 3 (by omega)]; rfl, fun i hi => ⟨0, by omega, by rw [c, zl_txt i hi]; rfl, fun hl => absurd hl (by simp [q0])⟩, by rw [c, show (1180 : Nat) = 1180 + 0 from rfl, zl_end 0 (by omega)]; rfl, ⟨none, none, by rw [c, show (1181 : Nat) = 1180 + 1 from rfl, zl_end 1 (by omega)]; rfl, by rw [c, show (1182 : Nat) = 1180 + 2 from rfl, zl_end 2 (by omega)]; rfl, [], [], rfl, rfl, rfl⟩, by decide⟩
  · have hi : i < 5 := hi
    rw [Nat.zero_add, zl_low i (by omega)]
    have : i = 0 ∨ i = 1 ∨ i = 2 ∨ i = 3 ∨ i = 4 := by omega
    rcases this with rfl | rfl | rfl | rfl | rfl <;> rfl
  · rw [P7.cells_size] at hi
    exact zl_par i hi
  · rw [c, zl_mid i (by omega)]
    have : i = 0 ∨ i = 1 := by omega
    rcases this with rfl | rfl <;> rfl

theorem new_any (w : World) (hf : 1 < w.heap.size ∧ 2 < w.heap.size) : Calls Tryd.prog 11 #[] w fun e w' => e = .returned (.pointer (some ⟨w.heap.size, 0, none⟩)) ∧ IsP w' w.heap.size q0 [] ∧ Below w.heap.size w w' := by
  have h1 := build_par
  have h2 := zero_par
  have HP : Hid (IsP (w.alloc (.cells zeroP 66)) w.heap.size q0 [] ∧ Below w.heap.size w (w.alloc (.cells zeroP 66))) := Lib.hid ⟨new_isP (Deep.blk_alloc_new w _) ⟨by omega, by omega⟩, (Below.refl _ _).alloc (Nat.le_refl _) _⟩
  clear hf
  go_enter Tryd.func11, Tryd.ntmps11
  go_wp2
  go_ret
  exact ⟨rfl, HP.out⟩
end Go.Proofs.YtfekjlajagoooaaDoor
