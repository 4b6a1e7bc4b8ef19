/- Layer 15: append of cells within a region that draws; x[:n] of cells; a cell compared; the document's plain. -/
import Derived.Test.YtifolcfnknlmdaaReR
import Derived.Test.YtifolcfnknlmdaaReC
import Derived.Test.YtifolcfnknlmdaaRwE
set_option linter.unusedVariables false
namespace Go.Proofs.Ytifolcfnknlmdaa.Re
open Go.RowKit Go.Proofs.Ytifolcfnknlmdaa.Rw

theorem step_append_cells {w : World} {ops : Array Oper} {o : Oper} {a : Act} {K : Act → World → Prop} {Q : Exit → Act → World → Prop} {E : Prop} (hgd : o.guard = none) (s x : Operand)
    (ho : o.op = .call { callee := .builtin .append, args := #[s, x], argTypes := #[28, 28] }) (base : Nat) (v u : Value) (xs ys : List Ce) (hs : a.eval s = v) (hown : OwnC w base v xs)
    (hx : a.eval x = u) (hr : Lies w u ys) (hlen : xs.length + ys.length ≤ 1000000) (hbase : base ≤ w.heap.size)
    (h : ∀ A n c w', n = (xs ++ ys).length → OwnC w' base (.slice A n c) (xs ++ ys) → w.grownBy w' v.ownBlock → K (a.put o.dst (.slice A n c)) w') :
    if Region.wanted o (yielded ops a.tmps) = true then Oper.wp Try.prog o a w K Q else E := by
  have hw : Region.wanted o (yielded ops a.tmps) = true := by simp [Region.wanted, hgd]
  rw [if_pos hw]
  obtain ⟨i0, hi, hz0, hz1, hz2⟩ := info_parts info_cell
  have hsl : ∀ (v' : Value) (w' : World) (l : List Ce), OwnC w' base v' l → ∃ A c, v' = .slice A l.length c := fun v' w' l ho' => by
    obtain ⟨A, c, e, _⟩ := own_lies ho'
    exact ⟨A, c, e⟩
  obtain ⟨A, c, rfl, h0, _, hc⟩ := hr
  cases A with
  | none =>
    have he : ys = [] := by
      cases ys with
      | nil => rfl
      | cons y l => obtain ⟨g, _, hg, _⟩ := hc (by simp); cases hg
    subst he
    obtain rfl := h0 rfl
    have hrun := run_append_owned_none (P := Try.prog) (w := w) base 28 o.type 38 i0 7 Try.underlying28 hi v xs.length (flatC xs) hown
    unfold Oper.wp
    simp [execOp, ho, resolve, invoke, builtin, hs, hx, hrun, Result.andThen]
    rw [List.append_nil] at h
    obtain ⟨A', c', rfl⟩ := hsl v w xs hown
    exact h A' _ c' w rfl hown ⟨rfl, rfl, rfl, Nat.le_refl _, fun _ _ _ => rfl⟩
  | some ad =>
    refine wp_append_own w s x 28 ho base 38 i0 (ceV zeroCe) 7 28 Try.underlying28 hi hz0 hz1 hz2 rfl (by decide) v xs.length (flatC xs) hs hown ad ys.length c (flatC ys) hx (flat_len ys) ?_ (flat_one ys) (by unfold maxLen; omega) (by omega) hbase ?_
    · intro j y hy
      have hj : j < ys.length * 7 := by
        have := (List.getElem?_eq_some_iff.1 hy).1
        rwa [flat_len] at this
      obtain ⟨b, o', e, _, hcell⟩ := hc (by omega)
      cases e
      have hd : j = j / 7 * 7 + j % 7 := by omega
      rw [add_oo, hd]
      refine hcell (j / 7) (by omega) (j % 7) y ?_
      rw [← flat_get ys (j / 7) (by omega) (j % 7) (by omega), ← hd]
      exact hy
    · intro v' w' h2 h3 _
      have h2 : OwnC w' base v' (xs ++ ys) := by
        unfold OwnC
        rw [List.length_append, flat_append]
        exact h2
      obtain ⟨A', c', rfl⟩ := hsl v' w' _ h2
      exact h A' _ c' w' rfl h2 h3
theorem cell_under : Try.prog.underlying 28 = some (.slice (Try.prog.elem 28)) := by kernel_rfl
theorem cell_size (W : World) : (sizeOf (Try.prog.elem 28)).run Try.prog W = .ok 7 W := by kernel_rfl
/-- Cut at its end. -/
theorem upto_cells {w : World} {A : Option Addr} {n c : Nat} {l : List Ce} (h : Lies w (.slice A n c) l) (y : Nat) (hy : y ≤ n) : (∀ W, (Instr.slice 28 (.slice A n c) none (some (.int .i64 (y : Int))) none).run Try.prog W = .ok (.slice A y c) W) ∧ Lies w (.slice A y c) (l.take y) := by
  obtain ⟨hn, h0, hc, hr⟩ := h.row
  have hll : (l.take y).length = y := by rw [List.length_take, ← hn]; omega
  refine ⟨fun W => ?_, ⟨A, c, by rw [hll], h0, by rw [hll]; omega, hr.take y⟩⟩
  cases A with
  | none =>
    have hc0 := h0 rfl
    have hy0 : y = 0 := by omega
    have hn0 : n = 0 := by omega
    subst hc0 hy0 hn0
    rfl
  | some ad =>
    rw [run_slice_h W 28 (some ad) n c cell_under .i64 (y : Int) (by omega) (by omega), cell_size]
    simp [Result.andThen, sliced]
    intro _
    unfold Addr.add
    obtain ⟨b, o, q⟩ := ad
    cases q <;> rfl
theorem eq_cell (x y : Ce) (w : World) : (binOp .eql 38 (ceV x) (ceV y)).run Try.prog w = .ok (.bool (decide (x = y))) w := by
  obtain ⟨r, v, f, a, b, c, d⟩ := x
  obtain ⟨r', v', f', a', b', c', d'⟩ := y
  go_simp
  by_cases h1 : r = r'
  · by_cases h2 : v = v'
    · by_cases h3 : f = f'
      · by_cases h4 : a = a'
        · by_cases h5 : b = b'
          · by_cases h6 : c = c'
            · by_cases h7 : d = d'
              · simp [h1, h2, h3, h4, h5, h6, h7]
              · have g : ¬ (d : Int) = d' := by omega
                simp [h1, h2, h3, h4, h5, h6, h7, g]
            · have g : ¬ (c : Int) = c' := by omega
              simp [h1, h2, h3, h4, h5, h6, g]
          · have g : ¬ (b : Int) = b' := by omega
            simp [h1, h2, h3, h4, h5, g]
        · have g : ¬ (a : Int) = a' := by omega
          simp [h1, h2, h3, h4, g]
      · have g : ¬ (f : Int) = f' := by omega
        simp [h1, h2, h3, g]
    · have g : ¬ (v : Int) = v' := by omega
      simp [h1, h2, g]
  · simp [h1]
set_option maxRecDepth 100000 in
set_option maxHeartbeats 1000000 in
theorem plain_any (c : Ce) (w : World) : Calls Try.prog 37 #[ceV c] w fun e w' => e = .returned (.bool (decide (c = blC))) ∧ Below w.heap.size w w' := by
  have E : ∀ V, (binOp .eql 38 (ceV c) (.agg #[.int .i32 32, .int .u8 0, .int .u16 0, .int .u8 0, .int .u32 0, .int .u8 0, .int .u32 0])).run Try.prog V = .ok (.bool (decide (c = blC))) V := fun V => eq_cell c blC V
  obtain ⟨d, hd⟩ : ∃ d, d = decide (c = blC) := ⟨_, rfl⟩
  rw [← hd] at E ⊢
  have HB : Hid (Below w.heap.size w (w.alloc (.cells (cellsC c).toArray 38))) := Lib.hid ((Below.refl _ _).alloc (Nat.le_refl _) _)
  clear hd
  go_enter Try.func37, Try.ntmps37
  go_wp2
  go_ret
  exact ⟨rfl, HB.out⟩
end Go.Proofs.Ytifolcfnknlmdaa.Re
