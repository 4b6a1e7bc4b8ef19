/- Layer 13: slices.Grow, slices.Concat at lines. -/
import Derived.Test.YtomfeehebkknoaaScPb
import Derived.Lib.AppendZeros
set_option linter.unusedVariables false
namespace Go.Proofs.Ytomfeehebkknoaa.Rw
open Go.RowKit

theorem tab_head (g n c : Nat) (W : World) : (Instr.slice 22 (.slice (some ⟨g, 0, none⟩) n c) none (some (.int .i64 0)) none).run Try.prog W = .ok (.slice (some ⟨g, 0, none⟩) 0 c) W := by
  have hu : Try.prog.underlying 22 = some (.slice (Try.prog.elem 22)) := by kernel_rfl
  have hs : ∀ W, (sizeOf (Try.prog.elem 22)).run Try.prog W = .ok 1 W := fun W => by kernel_rfl
  rw [run_slice_h W 22 (some ⟨g, 0, none⟩) n c hu .i64 0 (by omega) (by omega), hs]
  simp only [Result.andThen, sliced, Option.map_some, add_zz]
  split <;> simp

set_option maxRecDepth 100000 in
set_option maxHeartbeats 2000000 in
theorem grow_any (n : Nat) (w : World) (hn : n ≤ 1000000) : Calls Try.prog 25 #[.slice none 0 0, .int .i64 (n : Int)] w fun e w' => ∃ v, e = .returned v ∧ w'.ownsRow w.heap.size 38 1 v 0 [] ∧ Below w.heap.size w w' := by
  have g1 : decide ((n : Int) < 0) = false := by simp
  have z1 : IntKind.i64.wrap ((n : Int) - 0) = (n : Int) := by rw [IntWalk.i64_in _ (by omega)]; omega
  by_cases h : n = 0
  · subst h
    go_enter Try.func25, Try.ntmps25
    go_wp2
    go_ret
    exact ⟨_, rfl, World.ownsRow_nil _ _ _ _, Below.refl _ _⟩
  · have g2 : decide ((n : Int) > 0) = true := by simp; omega
    obtain ⟨i0, hi, hz0, hz1, hz2⟩ := info_parts info_line
    have hr := fun ty => Lib.run_append_nil_zeros (P := Try.prog) w 22 3 ty 38 i0 _ .i64 .i64 under_tab (by kernel_rfl) hi hz0 n (by omega) (by rw [hz1]; decide) (by omega) (by rw [hz2]; omega)
    have hcap := grownCap_le_maxLen w n 0 38 (by unfold maxLen; omega)
    have hge := grownCap_ge w n 0 38
    generalize grownCap w n 0 38 = cp at hr hcap hge
    obtain ⟨W, hW⟩ : ∃ W, W = w.drew.alloc (.cells (Builtin.zeroCells (Value.slice none 0 0).cells n ++ Builtin.zeroCells (Value.slice none 0 0).cells (cp - n)) 38) := ⟨_, rfl⟩
    have hbl : Below w.heap.size w W := by rw [hW]; exact ((Below.refl _ _).drew).alloc (Nat.le_refl _) _
    have hown : W.ownsRow w.heap.size 38 1 (.slice (some ⟨w.heap.size, 0, none⟩) 0 cp) 0 [] := by
      refine ⟨rfl, Or.inr ⟨w.heap.size, cp, _, rfl, Nat.le_refl _, by rw [hW]; exact heap_alloc_new w.drew _, Nat.zero_le _, hcap, ?_, by simp⟩⟩
      simp [Builtin.zeroCells, Value.cells]
      omega
    rw [← hW] at hr
    have HO := Lib.hid hown
    have HB := Lib.hid hbl
    have HR := Lib.hid hr
    obtain ⟨B, hBq⟩ : ∃ B, B = w.heap.size := ⟨_, rfl⟩
    rw [← hBq] at HR HO HB
    rw [← hBq]
    have kn : ∀ W, (Instr.slice 22 (.slice none 0 0) none (some (.int .i64 0)) none).run Try.prog W = .ok (.slice none 0 0) W := fun W => by kernel_rfl
    have k2 := tab_head B n cp
    clear hW hbl hown hr hcap hge hi hz0 hz1 hz2 hBq
    go_enter Try.func25, Try.ntmps25
    go_wp2_with (at_builtin; refine Lib.wpList_append_run _ rfl (.tmp 20) (.tmp 21) 22 3 rfl _ _ rfl rfl _ _ (HR.out _) ?_)
    go_ret
    exact ⟨_, rfl, HO.out, HB.out⟩

/-! ### slices of values that fill one cell, anywhere -/
def SlT (w : World) (v : Value) (us : List Value) : Prop := ∃ A c, v = .slice A us.length c ∧ (A = none → c = 0) ∧ (us.length ≤ c ∧ c ≤ 9223372036854775807) ∧ (0 < us.length → ∃ b o, A = some ⟨b, o, none⟩ ∧ b < w.heap.size ∧ ∀ k, k < us.length → w.cell? ⟨b, o + k, none⟩ = us[k]?) ∧ ∀ u ∈ us, u.oneCell' = true
theorem SlT.below {w w' : World} {v : Value} {us : List Value} (h : SlT w v us) (hb : Below w.heap.size w w') : SlT w' v us := by
  obtain ⟨A, c, e, h0, h1, h2, h3⟩ := h
  refine ⟨A, c, e, h0, h1, fun hl => ?_, h3⟩
  obtain ⟨b, o, e2, hlt, hc⟩ := h2 hl
  exact ⟨b, o, e2, Nat.lt_of_lt_of_le hlt hb.size, fun k hk => (hb.cell hlt).trans (hc k hk)⟩
theorem OwnT.sl {w : World} {base : Nat} {v : Value} {us : List Value} {ls : Ls} (h : OwnT w base v us ls) : SlT w v us := by
  rcases one_shape h.1 with ⟨rfl, h0, rfl⟩ | ⟨g, c, cur, rfl, hb, hl, hh, hc, hm, hs, hul, hx⟩
  · exact ⟨none, 0, rfl, fun _ => rfl, by decide, fun h => absurd h (by simp), fun u hu => by cases hu⟩
  · refine ⟨_, c, by rw [hul], fun e => (by cases e), ⟨by omega, Nat.le_trans hm (by unfold maxLen; omega)⟩, fun _ => ⟨g, 0, rfl, hl, fun k hk => ?_⟩, h.2.cells1⟩
    rw [Nat.zero_add, cell_of hh, hx k (by omega)]
/-- append of lines to lines of the call's own. -/
theorem append_tab {ops : Array Oper} {rest : List Oper} {o : Oper} {a : Act} {Q : Exit → Act → World → Prop} (w : World) (hgd : o.guard = none) (s x : Operand)
    (ho : o.op = .call { callee := .builtin .append, args := #[s, x], argTypes := #[22, 22] }) (base : Nat) (v u : Value) (xs ys : List Value) (hs : a.eval s = v) (hown : w.ownsRow base 38 1 v xs.length xs)
    (hx : a.eval x = u) (hr : SlT w u ys) (hlen : xs.length + ys.length ≤ 1000000) (hbase : base ≤ w.heap.size)
    (h : ∀ v' w', w'.ownsRow base 38 1 v' (xs ++ ys).length (xs ++ ys) → w.grownBy w' v.ownBlock → wpList Try.prog ops Q rest (a.put o.dst v') w') : wpList Try.prog ops Q (o :: rest) a w := by
  obtain ⟨i0, hi, hz0, hz1, hz2⟩ := info_parts info_line
  obtain ⟨A, c, rfl, h0, _, hc, h1⟩ := hr
  cases A with
  | none =>
    have he : ys = [] := by
      cases ys with
      | nil => rfl
      | cons y l => obtain ⟨g, _, hg, _⟩ := hc (by simp); cases hg
    subst he
    obtain rfl := h0 rfl
    refine wpList_append_own_none hgd s x 22 ho base 38 i0 1 under_tab hi v xs.length xs hs hown hx (h v w ?_ ⟨rfl, rfl, rfl, Nat.le_refl _, fun _ _ _ => rfl⟩)
    rw [List.append_nil]
    exact hown
  | some ad =>
    refine wpList_append_own w hgd s x 22 ho base 38 i0 (.slice none 0 0) 1 24 under_tab hi hz0 hz1 hz2 rfl (by decide) v xs.length xs hs hown ad ys.length c ys hx (by omega) ?_ h1 (by unfold maxLen; omega) (by omega) hbase ?_
    · intro j y hy
      have hj : j < ys.length := (List.getElem?_eq_some_iff.1 hy).1
      obtain ⟨b, o', e, _, hcell⟩ := hc (by omega)
      cases e
      rw [add_oo, hcell j hj]
      exact hy
    · intro v' w' h2 h3 _
      refine h v' w' ?_ h3
      rw [List.length_append]
      exact h2
theorem idx_cat (g m k : Nat) (hk : k < m) (W : World) : (Instr.indexAt 42 (.slice (some ⟨g, 0, none⟩) m m) (.int .i64 (k : Int))).run Try.prog W = .ok (.pointer (some ⟨g, k, none⟩)) W := by
  have hs : ∀ W : World, (sizeOf (Try.prog.elem 42)).run Try.prog W = .ok 1 W := fun W => by kernel_rfl
  rw [run_indexAt_slice (P := Try.prog) W 42 ⟨g, 0, none⟩ m m .i64 k (by kernel_rfl), if_pos (by omega), hs]
  simp only [Result.andThen, Int.toNat_natCast, add_oo, Nat.mul_one, Nat.zero_add]
theorem flat_step (uss : List (List Value)) (k : Nat) (h : k < uss.length) : (uss.take (k + 1)).flatten = (uss.take k).flatten ++ uss.getD k [] := by
  rw [List.take_add_one, List.getElem?_eq_getElem h, List.flatten_append, List.getD_eq_getElem?_getD, List.getElem?_eq_getElem h]
  simp
theorem flat_le (uss : List (List Value)) (k : Nat) : (uss.take k).flatten.length ≤ uss.flatten.length := by
  have := congrArg (fun l => l.flatten.length) (List.take_append_drop k uss)
  simp only [List.flatten_append, List.length_append] at this
  omega

set_option maxRecDepth 100000 in
set_option maxHeartbeats 2000000 in
theorem concat_any (g m : Nat) (uss : List (List Value)) (w : World) (hm : uss.length = m) (hg : g < w.heap.size) (hc : ∀ k, k < m → ∃ v, w.cell? ⟨g, k, none⟩ = some v ∧ SlT w v (uss.getD k [])) (ht : uss.flatten.length ≤ 1000000) (hm2 : m ≤ 1000) :
    Calls Try.prog 18 #[.slice (some ⟨g, 0, none⟩) m m] w fun e w' => ∃ v, e = .returned v ∧ w'.ownsRow w.heap.size 38 1 v uss.flatten.length uss.flatten ∧ Below w.heap.size w w' := by
  have HC := Lib.hid hc
  have HT := Lib.hid ht
  have HM := Lib.hid hm
  have HG := Lib.hid hg
  have HM2 := Lib.hid hm2
  have H0 : Hid (Below w.heap.size w w) := Lib.hid (Below.refl _ _)
  obtain ⟨B, hB⟩ : ∃ B, B = w.heap.size := ⟨_, rfl⟩
  rw [← hB] at H0 HG
  rw [← hB]
  have HB := Lib.hid hB
  clear hc ht hm hg hm2 hB
  go_enter Try.func18, Try.ntmps18
  go_wp2
  go_loopw [3, 11] (fun sz i wr => ∃ (k N : Nat), k ≤ m ∧ sz = .int .i64 (N : Int) ∧ i = .int .i64 k ∧ Hid (N = (uss.take k).flatten.length) ∧ Hid (Below B w wr)) (fun _ i _ => m - (RowKit.intOf i).toNat)
  case atStart => exact ⟨0, 0, Nat.zero_le _, rfl, rfl, Lib.hid (by simp), H0⟩
  case round =>
    obtain ⟨k, N, hk, rfl, rfl, HN, HW⟩ := hrel
    by_cases hlt : k < m
    · have glt : decide ((k : Int) < (m : Int)) = true := by simp; omega
      obtain ⟨v, hv, hs⟩ := HC.out k hlt
      obtain ⟨A, c, rfl, -, -, -⟩ := hs
      have c1 := (HW.out.cell (p := ⟨g, k, none⟩) HG.out).trans hv
      have i1 := idx_cat g m k hlt
      have hst := flat_step uss k (by rw [HM.out]; exact hlt)
      have hle := flat_le uss (k + 1)
      have HN2 : Hid (N + (uss.getD k []).length = (uss.take (k + 1)).flatten.length) := Lib.hid (by rw [hst, List.length_append, HN.out])
      have hN2 : N + (uss.getD k []).length ≤ 1000000 := by rw [HN2.out]; exact Nat.le_trans hle HT.out
      have hm2 := HM2.out
      generalize (uss.getD k []).length = q at *
      have z1 : IntKind.i64.wrap ((N : Int) + (q : Int)) = ((N + q : Nat) : Int) := by rw [IntWalk.i64_in _ (by omega)]; omega
      have g2 : decide (((N + q : Nat) : Int) < 0) = false := by simp; omega
      clear hst hle hv
      go_wp2
      go_roundw
      case rel => exact ⟨k + 1, N + q, by omega, rfl, by go_num, HN2, HW⟩
      case measure => simp [RowKit.intOf]; omega
    · have hkn : k = m := by omega
      subst hkn
      have glt : decide ((k : Int) < (k : Int)) = false := by simp
      rw [List.take_of_length_le (by rw [HM.out]; exact Nat.le_refl _)] at HN
      have hN := HT.out
      rw [← HN.out] at hN
      have K1 := Lib.hid (grow_any N wr hN)
      clear hN hlt
      go_wp2_with fail
      refine (show Calls _ _ _ _ _ from K1.out).mono ?_
      rintro e w1 ⟨v0, rfl, ho, hb⟩
      have hBs : B ≤ wr.heap.size := by rw [HB.out]; exact HW.out.size
      have HO := Lib.hid (one_less ho hBs)
      have HW1 : Hid (Below B w w1) := Lib.hid (HW.out.trans (hb.mono hBs))
      clear ho hb K1 hBs
      go_wp2
      go_loopw [6, 27] (fun v i wu => ∃ (j : Nat), j ≤ k ∧ i = .int .i64 j ∧ Hid (wu.ownsRow B 38 1 v (uss.take j).flatten.length (uss.take j).flatten) ∧ Hid (Below B w wu)) (fun _ i _ => k - (RowKit.intOf i).toNat)
      case atStart => exact ⟨0, Nat.zero_le _, rfl, HO, HW1⟩
      case round =>
        obtain ⟨j, hj, rfl, HP, HV⟩ := hrel
        rename_i wu
        by_cases hlt : j < k
        · have glt : decide ((j : Int) < (k : Int)) = true := by simp; omega
          obtain ⟨v, hv, hs⟩ := HC.out j hlt
          have HS := Lib.hid (hs.below (by rw [← HB.out]; exact HV.out))
          obtain ⟨A, c, rfl, -, -, -⟩ := hs
          have c1 := (HV.out.cell (p := ⟨g, j, none⟩) HG.out).trans hv
          have i1 := idx_cat g k j hlt
          have hst := flat_step uss j (by rw [HM.out]; exact hlt)
          have hle := flat_le uss (j + 1)
          have HL : Hid ((uss.take j).flatten.length + (uss.getD j []).length ≤ 1000000) := Lib.hid (by
            rw [hst, List.length_append] at hle
            exact Nat.le_trans hle HT.out)
          have HSt := Lib.hid hst
          have hm2 := HM2.out
          clear hst hle hv
          generalize (uss.take j).flatten = X at *
          generalize uss.getD j [] = Y at *
          go_wp2_with (at_builtin; refine append_tab _ rfl (.tmp 31) (.tmp 32) rfl B _ _ X Y rfl HP.out rfl HS.out HL.out (by have := HV.out.size; rw [HB.out]; exact this) ?_)
          intro v' w2 ho hgr
          have HO2 : Hid (w2.ownsRow B 38 1 v' (uss.take (j + 1)).flatten.length (uss.take (j + 1)).flatten) := Lib.hid (by rw [HSt.out, List.length_append]; exact ho)
          have HV2 : Hid (Below B w w2) := Lib.hid (HV.out.grown hgr (by have := HV.out.size; rw [HB.out]; exact this) fun q hq => (one_lt HP.out q hq).1)
          clear ho hgr c1
          go_wp2
          go_roundw
          case rel => exact ⟨j + 1, by omega, by go_num, HO2, HV2⟩
          case measure => simp [RowKit.intOf]; omega
        · have hjk : j = k := by omega
          subst hjk
          have glt : decide ((j : Int) < (j : Int)) = false := by simp
          rw [List.take_of_length_le (by rw [HM.out]; exact Nat.le_refl _)] at HP
          go_wp2
          go_ret
          exact ⟨_, rfl, HP.out, HV.out⟩
end Go.Proofs.Ytomfeehebkknoaa.Rw
