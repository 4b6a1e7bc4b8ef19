/- Layer 14: slices.Delete of numbers, in a window of a row of the call's own. -/
import Derived.Test.YtpanhkhiomgclaaBaD
import Derived.Test.YtpanhkhiomgclaaBaShelf
set_option linter.unusedVariables false
namespace Go.Proofs.Ytpanhkhiomgclaa.Ba
open Go.RowKit

theorem zero_int (W : World) : (zeroValue 3).run Try.prog W = .ok (.int .i64 0) W := by kernel_rfl
/-- What a Delete may turn: block g alone, and no block is new. -/
structure TurnK (g : Option Nat) (w w' : World) : Prop where
  os : w'.os = w.os
  tape : w'.tape = w.tape
  output : w'.output = w.output
  size : w'.heap.size = w.heap.size
  block : ∀ k, g ≠ some k → w'.heap[k]? = w.heap[k]?
theorem put_turn (w : World) (q blk off : Nat) (d : Array Int) : TurnK (some blk) w (Sort.putRow (Value.int .i64) (Sort.ahead w q) blk off d) := by
  refine ⟨rfl, rfl, rfl, by simp, fun k hk => ?_⟩
  have hne : blk ≠ k := fun e => hk (by rw [e])
  simp [Sort.putRow, Sort.mapBlock, Array.getElem?_modify, hne]
theorem put_block {w : World} {blk : Nat} {cur : Array Value} {e : TypeId} (q off : Nat) (d : Array Int) (h : w.heap[blk]? = some (.cells cur e (0, 0))) : (Sort.putRow (Value.int .i64) (Sort.ahead w q) blk off d).heap[blk]? = some (.cells (Sort.putCells (Value.int .i64) off d cur) e (0, 0)) := by
  simp [Sort.putRow, Sort.mapBlock, Array.getElem?_modify, h, Sort.onCells]
theorem put_take {cur : Array Value} {o N : Nat} (d : Array Int) (l : List Int) (hN : l.length ≤ d.size) (hd : ∀ k, k < l.length → d[k]! = l.getD k 0) (ho : o + d.size ≤ cur.size) : ((Sort.putCells (Value.int .i64) o d cur).toList.drop o).take (intsC l).length = intsC l := by
  refine List.ext_getElem? fun k => ?_
  rw [List.getElem?_take, ints_len]
  by_cases hk : k < l.length
  · rw [if_pos hk, ints_get l k hk, List.getElem?_drop, Array.getElem?_toList]
    unfold Sort.putCells
    rw [Array.getElem?_mapIdx, Array.getElem?_eq_getElem (by omega), Option.map_some, if_pos (by omega), show o + k - o = k by omega, hd k hk]
  · rw [if_neg hk, List.getElem?_eq_none (by rw [ints_len]; omega)]
theorem del_list {l : List Int} {i j : Nat} (hij : i ≤ j) (hj : j ≤ l.length) : (l.take i ++ l.drop j).length = l.length - (j - i) := by
  rw [List.length_append, List.length_take, List.length_drop]
  omega
theorem delete_any {w : World} {base : Nat} {A : Option Addr} {n c : Nat} {l : List Int} (h : WinI w base (.slice A n c) l) (i j : Nat) (hij : i ≤ j) (hj : j ≤ n) (h0 : 0 < n) : Calls Try.prog 30 #[.slice A n c, .int .i64 (i : Int), .int .i64 (j : Int)] w fun e w' => e = .returned (.slice A (n - (j - i)) c) ∧ WinI w' base (.slice A (n - (j - i)) c) (l.take i ++ l.drop j) ∧ TurnK (Value.slice A n c).ownBlock w w' := by
  rcases h with ⟨e, h1⟩ | ⟨g, o, cap, cur, e, h1, h2, h3, h4, h5, h6⟩
  · injection e with e1 e2 e3
    omega
  · injection e with e1 e2 e3
    subst e1 e3
    rw [ints_len] at e2 h3 h6
    subst e2
    obtain ⟨i0, hi, hz0, hz1, hz2⟩ := info_parts info_int
    have hget : ∀ k, k < l.length → w.cell? ⟨g, o + k, none⟩ = some (.int .i64 (l.getD k 0)) := fun k hk => by
      rw [cell_of h2, ← ints_get l k hk, ← h6, List.getElem?_take, if_pos hk, List.getElem?_drop, Array.getElem?_toList]
    have hH : Sort.Holds (Value.int .i64) w g o l.toArray := by
      intro k hk
      have hk' : k < l.length := by simpa using hk
      refine ⟨?_, free_of h2 _⟩
      rw [hget k hk']
      simp [List.getD_eq_getElem?_getD, hk']
    have hc := Try.slices_Delete_f30 (Value.int .i64) (fun x => rfl) 0 zero_int i0 hi hz1 g o c i j l.toArray w hH (by simpa using h3) (Nat.le_trans h4 (by unfold maxLen; omega)) hij (by simpa using hj)
    rw [List.size_toArray] at hc
    refine hc.mono ?_
    rintro e w' ⟨rfl, q, rfl⟩
    have hl := del_list hij hj
    have hsz : (l.toArray.toList.take i ++ l.toArray.toList.drop j ++ List.replicate (j - i) (0 : Int)).length = l.length := by
      rw [List.length_append, hl, List.length_replicate]
      omega
    refine ⟨rfl, Or.inr ⟨g, o, c, _, by rw [ints_len, hl], h1, put_block q o _ h2, by rw [ints_len, hl]; omega, h4, by simpa [Sort.putCells] using h5, ?_⟩, put_turn w q g o _⟩
    refine put_take (N := 0) _ _ (by rw [List.size_toArray, hsz, hl]; omega) (fun k hk => ?_) (by rw [List.size_toArray, hsz]; omega)
    have hk2 : k < (l.toArray.toList.take i ++ l.toArray.toList.drop j ++ List.replicate (j - i) (0 : Int)).length := by rw [hsz]; omega
    rw [getElem!_pos _ k (by rw [List.size_toArray]; exact hk2), List.getElem_toArray, List.getElem_append_left (by simpa using hk)]
    rw [List.getD_eq_getElem?_getD, List.getElem?_eq_getElem hk]
    rfl
end Go.Proofs.Ytpanhkhiomgclaa.Ba
