/- Layer 12: the program's All: the function that it answers tells the stops, rising, whatever the loop keeps. -/
import Derived.Test.YtfkiihddcinckaaTbPh
import Derived.RangeFuncNested
import Derived.RangeFuncLeaves
set_option linter.unusedVariables false
namespace Go.Proofs.Ytfkiihddcinckaa.Tb
open Go.RowKit Go.Shelf
attribute [local go_sem] Oper.semAt_some

def onC (on : List Bool) : Array Value := (on.map Value.bool).toArray
theorem onC_size (on : List Bool) : (onC on).size = on.length := by simp [onC]
theorem onC_get (on : List Bool) (k : Nat) (h : k < on.length) : (onC on)[k]? = some (.bool (on.getD k false)) := by
  simp [onC, List.getD_eq_getElem?_getD, List.getElem?_eq_getElem h]
def zeroA : Array Value := onC (List.replicate 400 false)
theorem zero_arr (W : World) : (zeroValue 56).run Try.prog W = .ok (.agg zeroA) W := by kernel_rfl
theorem zeroA_agg : (Value.agg zeroA).cells = zeroA := by kernel_rfl
theorem info_arr : (Try.prog.info? 56).map (·.size) = some 400 := by kernel_rfl
theorem load_arr (w : World) (g : Nat) (n : Int) (on : List Bool) (h : StAt w g n on) : (Instr.loadAt 56 (.pointer (some ⟨g, 1, none⟩))).run Try.prog w = .ok (.agg (onC on)) w := by
  have hl : (loadCells ⟨g, 1, none⟩ 400).run Try.prog w = .ok (onC on) w := by
    have := run_loadCells_list (P := Try.prog) w ⟨g, 1, none⟩ (on.map Value.bool) (fun j v hv => by
      have hj : j < 400 := by
        have := (List.getElem?_eq_some_iff.1 hv).1
        rw [List.length_map, h.len] at this
        exact this
      have hadd : (⟨g, 1, none⟩ : Addr).add j = ⟨g, j + 1, none⟩ := by
        unfold Addr.add
        split
        · rename_i h; subst h; rfl
        · simp [Nat.add_comm]
      rw [hadd, h.cellk hj]
      have e := onC_get on j (by rw [h.len]; exact hj)
      unfold onC at e
      rw [List.getElem?_toArray] at e
      rw [← hv, e])
    rw [List.length_map, h.len] at this
    exact this
  have hagg : (isAgg 56).run Try.prog w = .ok true w := by kernel_rfl
  simp [Instr.loadAt, Instr.sureAddr, Sem.run_bind, Result.andThen_ok, loadVar, hagg, hl]
theorem index_arr (on : List Bool) (k : Nat) (hk : k < 400) (hl : on.length = 400) (W : World) : (Instr.index 56 (.agg (onC on)) (.int .i64 (k : Int))).run Try.prog W = .ok (.bool (on.getD k false)) W := by
  have h : Try.prog.underlying 56 = some (.array 400 4) := by kernel_rfl
  have hs : ∀ W : World, (sizeOf 4).run Try.prog W = .ok 1 W := fun W => by kernel_rfl
  have hn : (0 ≤ (k : Int) ∧ (k : Int) < 400) := by omega
  have e := onC_get on k (by omega)
  simp [Instr.index, run_underlying h, asIntOf, hn, hs, go_sem]
  rw [if_pos hk, e]
  simp

def stopL (on : List Bool) (k : Nat) : List Nat := (List.range k).filter fun j => on.getD j false
theorem stop_step (on : List Bool) (k : Nat) : stopL on (k + 1) = stopL on k ++ if on.getD k false then [k] else [] := by
  unfold stopL
  rw [filter_step]
theorem stop_st {bs : List Bool} (h : bs.length ≤ 400) : stopL (onL bs) 400 = stL bs := by
  unfold stopL stL
  have e : (fun j => (onL bs).getD j false) = fun j => atB bs j := funext fun j => onL_get bs j
  rw [e, show 400 = bs.length + (400 - bs.length) by omega, List.range_add, List.filter_append]
  have : ((List.range (400 - bs.length)).map (bs.length + ·)).filter (fun j => atB bs j) = [] := by
    refine List.filter_eq_nil_iff.2 fun a ha => ?_
    obtain ⟨i, _, rfl⟩ := List.mem_map.1 ha
    rw [at_ge (by omega)]
    simp
  rw [this, List.append_nil]

theorem stop_prefix (on : List Bool) {k m : Nat} (h : k ≤ m) : stopL on k <+: stopL on m := by
  obtain ⟨d, rfl⟩ : ∃ d, m = k + d := ⟨m - k, by omega⟩
  unfold stopL
  rw [List.range_add, List.filter_append]
  exact ⟨_, rfl⟩
/-- One operation of a fenced walk, by its run. -/
theorem wpIn_ran {n : Nat} {o : Oper} {a : Act} {w w' : World} {K : Act → World → Prop} {Q : Exit → Act → World → Prop} (v : Value) (hd : ∀ c, o.op ≠ .defer c) (hr : (execOp a.eval o).run Try.prog w = .ok (.value v) w') (h : K (a.put o.dst v) w') : o.wpIn Fence.wide n Try.prog a w K Q := by
  refine ⟨fun _ _ => trivial, ?_⟩
  rw [Oper.semAt_plain Fence.wide _ o hd, hr]
  exact h
theorem wpIn_skip {n : Nat} {o : Oper} {a : Act} {w w' : World} {K : Act → World → Prop} {Q : Exit → Act → World → Prop} (hd : ∀ c, o.op ≠ .defer c) (hr : (execOp a.eval o).run Try.prog w = .ok .skip w') (h : K (a.put o.dst undef) w') : o.wpIn Fence.wide n Try.prog a w K Q := by
  refine ⟨fun _ _ => trivial, ?_⟩
  rw [Oper.semAt_plain Fence.wide _ o hd, hr]
  exact h
theorem exec_load (ρ : Operand → Value) (o : Oper) (t : TypeId) (x : Operand) (p v : Value) (w : World) (ho : o.op = .load t x) (hx : ρ x = p) (h : (Instr.loadAt t p).run Try.prog w = .ok v w) : (execOp ρ o).run Try.prog w = .ok (.value v) w := by
  unfold execOp
  simp only [ho, hx, Sem.run_bind, h, Result.andThen_ok, Sem.run_pure]
theorem exec_store (ρ : Operand → Value) (o : Oper) (t : TypeId) (x y : Operand) (p v : Value) (w w' : World) (ho : o.op = .store t x y) (hx : ρ x = p) (hy : ρ y = v) (h : (Instr.storeAt t p v).run Try.prog w = .ok () w') : (execOp ρ o).run Try.prog w = .ok .skip w' := by
  unfold execOp
  simp only [ho, hx, hy, Sem.run_bind, h, Result.andThen_ok, Sem.run_pure]
theorem exec_arr (ρ : Operand → Value) (o : Oper) (ho : o.op = .alloc 56) (W : World) : (execOp ρ o).run Try.prog W = .ok (.value (.pointer (some ⟨W.heap.size, 0, none⟩))) (W.alloc (.cells zeroA 56 (0, 0))) := by
  obtain ⟨dst, op, type, pos, after, guard⟩ := o
  cases ho
  kernel_rfl
theorem onC_one (on : List Bool) : (onC on).all (·.oneCell') = true := by
  rw [Array.all_eq_true_iff_forall_mem]
  intro v hv
  obtain ⟨b, _, rfl⟩ := List.mem_map.1 (by simpa [onC] using hv : v ∈ on.map Value.bool)
  rfl
theorem load_new (w : World) (on : List Bool) (h : on.length = 400) : (Instr.loadAt 56 (.pointer (some ⟨w.heap.size, 0, none⟩))).run Try.prog (w.alloc (.cells (onC on) 56 (0, 0))) = .ok (.agg (onC on)) (w.alloc (.cells (onC on) 56 (0, 0))) :=
  run_loadAt_new w 56 (onC on) 400 4 (by kernel_rfl) (by rw [onC_size, h]; exact info_arr)

set_option maxRecDepth 100000 in
set_option maxHeartbeats 1000000 in
theorem all1_in (l Bs g : Nat) (n : Int) (on : List Bool) (Kp : World → World → Prop) (J Jx : List Nat → World → Prop)
    (hY : ∀ pre x W, J pre W → pre.length < (stopL on 400).length → YieldAt Fence.wide 1 Try.prog l #[.int .i64 ((x : Nat) : Int)] W fun e W' =>
      (e = .returned (.bool true) ∧ J (pre ++ [x]) W' ∧ Kp W W') ∨ (e = .returned (.bool false) ∧ Jx (pre ++ [x]) W'))
    (W : World) (hJ : AbidesFrom W.heap.size J) (hBs : W.cell? ⟨Bs, 0, none⟩ = some (.pointer (some ⟨g, 0, none⟩))) (hs : StAt W g n on) (h0 : J [] W) :
    CallsIn Fence.wide 2 Try.prog 45 #[.func (.yield l) #[] #[], .pointer (some ⟨Bs, 0, none⟩)] W fun e W' => (∃ v, e = .returned v) ∧
      ((∃ ys, ys = stopL on 400 ∧ J ys W') ∨ (∃ pre, pre <+: stopL on 400 ∧ Jx pre W')) := by
  have hl := hs.len
  have l1 := Lib.hid (load_arr W g n on hs)
  have s1 : (onC on).size = 400 := by rw [onC_size, hl]
  have s2 := run_storeCells_new (P := Try.prog) W 56 zeroA (onC on) (by rw [onC_size, hl]; exact info_arr) (by unfold zeroA; rw [onC_size, onC_size, hl, List.length_replicate]) (onC_one on)
  have l3 := Lib.hid (load_new W on hl)
  have HJ0 : Hid (J [] (W.alloc (.cells (onC on) 56 (0, 0)))) := Lib.hid (hJ [] W _ none h0 (World.grownBy_alloc W _ none) (fun r e => by cases e))
  have HI := Lib.hid fun k hk => index_arr on k hk hl
  have HS := Lib.hid fun k => stop_step on k
  have HL := Lib.hid hl
  have z1 := zero_arr
  clear hs h0 hl
  refine callsIn_of_wp Try.func45 rfl trivial ?_ rfl
  simp only [Try.ntmps45, List.size_toArray, List.length_cons, List.length_nil, Nat.reduceAdd, Nat.reduceSub, Array.replicate_succ, Array.replicate_zero, List.push_toArray, List.append_toArray, List.nil_append, List.cons_append]
  gi_wp2
  rename_i K2 hK2 K1 hK1
  refine wpIn_ran (.agg (onC on)) (by intro c e; cases e) (exec_load _ _ _ _ _ _ _ rfl rfl l1.out) (hK1 _ _ ?_)
  clear hK1 K1
  simp only [Act.put, List.setIfInBounds_toArray, List.set_cons_zero, List.set_cons_succ]
  gi_wp2
  rename_i K3 hK3 K4 hK4
  refine wpIn_ran (.agg (onC on)) (by intro c e; cases e) (exec_load _ _ _ _ _ _ _ rfl rfl l3.out) (hK4 _ _ ?_)
  clear hK4 K4 s1 s2 z1 l1 hBs
  simp only [Act.put, List.setIfInBounds_toArray, List.set_cons_zero, List.set_cons_succ]
  generalize W.alloc (.cells (onC on) 56 (0, 0)) = V at *
  gi_wp2
  gi_loopw [13] (fun i wr => ∃ k : Nat, k ≤ 400 ∧ i = .int .i64 k ∧ Hid (J (stopL on k) wr)) (fun i _ => 400 - (RowKit.intOf i).toNat)
  case atStart => exact ⟨0, Nat.zero_le _, rfl, HJ0⟩
  case round =>
    obtain ⟨k, hk, rfl, HJk⟩ := hrel
    by_cases hlt : k < 400
    · have glt : decide ((k : Int) < 400) = true := by simp; omega
      have i1 := HI.out k hlt
      by_cases hb : on.getD k false = true
      · rw [hb] at i1
        have HSt : Hid (stopL on (k + 1) = stopL on k ++ [k]) := Lib.hid (by rw [HS.out, if_pos hb])
        obtain ⟨fn, tmps, assign, body, hy, hR⟩ := hY (stopL on k) k wr HJk.out (by
          have h1 := (stop_prefix on (show k + 1 ≤ 400 by omega)).length_le
          rw [HSt.out, List.length_append, List.length_singleton] at h1
          omega)
        clear hb hY
        gi_wp2
        refine hR.mono ?_
        rintro e W3 (⟨rfl, hJ3, hk3⟩ | ⟨rfl, hJx3⟩)
        · have HJ3 := Lib.hid hJ3
          clear hJ3 hk3 hR hy
          gi_wp2
          go_roundw
          case rel => exact ⟨k + 1, by omega, by go_num, Lib.hid (by rw [HSt.out]; exact HJ3.out)⟩
          case measure => simp [RowKit.intOf]; omega
        · have HJ3 := Lib.hid hJx3
          clear hJx3 hR hy
          gi_wp2
          refine bodyPost_ret (results_none rfl _ _ _) rfl ?_
          exact ⟨⟨_, rfl⟩, .inr ⟨stopL on k ++ [k], by rw [← HSt.out]; exact stop_prefix on (by omega), HJ3.out⟩⟩
      · have hb' : on.getD k false = false := by simpa using hb
        rw [hb'] at i1
        have HSt : Hid (stopL on (k + 1) = stopL on k) := Lib.hid (by rw [HS.out, if_neg hb, List.append_nil])
        clear hb hb' hY
        gi_wp2
        refine ⟨fun _ h => (by cases h), ?_⟩
        gi_wp2
        go_roundw
        case rel => exact ⟨k + 1, by omega, by go_num, Lib.hid (by rw [HSt.out]; exact HJk.out)⟩
        case measure => simp [RowKit.intOf]; omega
    · have hk4 : k = 400 := by omega
      subst hk4
      clear hY hlt
      gi_wp2
      go_end0
      exact ⟨⟨_, rfl⟩, .inl ⟨stopL on 400, rfl, HJk.out⟩⟩

set_option maxRecDepth 100000 in
set_option maxHeartbeats 1000000 in
theorem all1_nil (l Bs : Nat) (J Jx : List Nat → World → Prop) (W : World) (hBs : W.cell? ⟨Bs, 0, none⟩ = some (.pointer none)) (h0 : J [] W) :
    CallsIn Fence.wide 2 Try.prog 45 #[.func (.yield l) #[] #[], .pointer (some ⟨Bs, 0, none⟩)] W fun e W' => (∃ v, e = .returned v) ∧
      ((∃ ys, ys = ([] : List Nat) ∧ J ys W') ∨ (∃ pre, pre <+: ([] : List Nat) ∧ Jx pre W')) := by
  refine callsIn_of_wp Try.func45 rfl trivial ?_ rfl
  simp only [Try.ntmps45, List.size_toArray, List.length_cons, List.length_nil, Nat.reduceAdd, Nat.reduceSub, Array.replicate_succ, Array.replicate_zero, List.push_toArray, List.append_toArray, List.nil_append, List.cons_append]
  gi_wp2
  refine bodyPost_ret (results_none rfl _ _ _) rfl ?_
  exact ⟨⟨_, rfl⟩, .inl ⟨[], rfl, h0⟩⟩

/-- What All answers: a function that hands these columns to whatever loop. -/
def AllTells (L : List Nat) (V : World) (e : Ending) (w' : World) : Prop := ∃ lb, e = .returned (.func (.func 45) #[] lb) ∧ Below V.heap.size V w' ∧
  ∀ Kp : World → World → Prop, SeqStopsK Fence.wide 2 Try.prog 45 lb (fun x : Nat => #[Value.int .i64 (x : Int)]) Kp (fun ys => ys = L) (fun pre => pre <+: L) L.length w'
theorem AllTells.res {L : List Nat} {V w' : World} {e : Ending} (b0 : Nat) (h : AllTells L V e w') : AllRes b0 L V e w' := by
  obtain ⟨lb, he, hb, hs⟩ := h
  exact ⟨lb, he, hb, fun B _ _ => hs _⟩
theorem All_run (s : Option Addr) (V : World) : Calls Try.prog 42 #[.pointer s] V fun e w' => e = .returned (.func (.func 45) #[] #[.pointer (some ⟨V.heap.size, 0, none⟩)]) ∧ w' = V.alloc (.cells #[.pointer s] 24) := by
  go_enter Try.func42, Try.ntmps42
  go_wp2
  go_ret
  exact ⟨rfl, rfl⟩
theorem every_tells {F : Nat → Prop} {w : World} {s : Value} {bs : List Bool} (h : IsSt F w s bs) : ∀ V, Below w.heap.size w V → Calls Try.prog 42 #[s] V (AllTells (stL bs) V) := by
  intro V hV
  have h := st_keep h fun k hk => hV.block k (st_lt h k hk)
  obtain ⟨g, rfl, hg, hF, hs, h1, h4⟩ := h
  refine (All_run _ V).mono ?_
  rintro e w' ⟨rfl, rfl⟩
  have hb := (Below.refl V.heap.size V).alloc (Nat.le_refl _) (.cells #[.pointer (some ⟨g, 0, none⟩)] 24)
  refine ⟨_, rfl, hb, fun Kp l J Jx W hW hJ _ hY h0 => ?_⟩
  have hBs : W.cell? ⟨V.heap.size, 0, none⟩ = some (.pointer (some ⟨g, 0, none⟩)) := by
    rw [cell_of ((hW.block V.heap.size (by simp)).trans (heap_new V _)) 0]
    rfl
  have hs2 : StAt W g _ (onL bs) := hs.keep ((hW.block g (Nat.lt_of_lt_of_le hs.lt hb.size)).trans (hb.block g hs.lt))
  have := all1_in l V.heap.size g _ (onL bs) Kp J Jx (by rw [stop_st h4]; exact hY) W hJ hBs hs2 h0
  rw [stop_st h4] at this
  exact this
theorem every_any {F : Nat → Prop} {w : World} {s : Value} {bs : List Bool} (h : IsSt F w s bs) : ∀ V, Below w.heap.size w V → Calls Try.prog 42 #[s] V (AllRes w.heap.size (stL bs) V) :=
  fun V hV => (every_tells h V hV).mono fun _ _ q => q.res _
theorem nil_tells (V : World) : Calls Try.prog 42 #[.pointer none] V (AllTells [] V) := by
  refine (All_run _ V).mono ?_
  rintro e w' ⟨rfl, rfl⟩
  have hb := (Below.refl V.heap.size V).alloc (Nat.le_refl _) (.cells #[.pointer none] 24)
  refine ⟨_, rfl, hb, fun Kp l J Jx W hW hJ _ hY h0 => ?_⟩
  exact all1_nil l V.heap.size J Jx W (by rw [cell_of ((hW.block V.heap.size (by simp)).trans (heap_new V _)) 0]; rfl) h0
theorem every_nil (w : World) : ∀ V, Below w.heap.size w V → Calls Try.prog 42 #[.pointer none] V (AllRes w.heap.size [] V) :=
  fun V _ => (nil_tells V).mono fun _ _ q => q.res _
end Go.Proofs.Ytfkiihddcinckaa.Tb
