/- Layer 5: same; awake answers true. -/
import Derived.Test.YtfekjlajagoooaaDoorF5DcD
namespace Go.Proofs.YtfekjlajagoooaaDoor.D5
open Go.RowKit Go.Lib Dec

/-- A slice that reads as these characters. -/
def Runes (w : World) (v : Value) (l : List Nat) : Prop := ∃ A c, v = .slice A l.length c ∧ (A = none → c = 0) ∧ ∀ k, k < l.length → ∃ g, A = some ⟨g, 0, none⟩ ∧ g < w.heap.size ∧ w.cell? ⟨g, k, none⟩ = some (.int .i32 (l.getD k 0 : Nat))

theorem own_runes {w : World} {base : Nat} {v : Value} {l : List Nat} (h : OwnRunes w base v l) : Runes w v l := by
  obtain ⟨A, c, h1, h0, h2⟩ := own_shape h
  exact ⟨A, c, h1, h0, h2⟩
theorem Runes.below {w w' : World} {B : Nat} {v : Value} {l : List Nat} (h : Runes w v l) (hb : Below B w w') (hB : w.heap.size ≤ B) : Runes w' v l := by
  obtain ⟨A, c, h1, h0, h2⟩ := h
  refine ⟨A, c, h1, h0, fun k hk => ?_⟩
  obtain ⟨g, hg, hl, hc⟩ := h2 k hk
  exact ⟨g, hg, Nat.lt_of_lt_of_le hl hb.size, (hb.cell (p := ⟨g, k, none⟩) (Nat.lt_of_lt_of_le hl hB)).trans hc⟩
theorem Runes.drewN {w : World} {v : Value} {l : List Nat} (h : Runes w v l) (n : Nat) : Runes (w.drewN n) v l := h

/-- append of characters that stand anywhere to a slice of the call's own. -/
theorem append_runes {ops : Array Oper} {rest : List Oper} {o : Oper} {a : Act} {Q : Exit → Act → World → Prop} (w : World) (hw : Region.wanted o (yielded ops a.tmps) = true) (s x : Operand)
    (ho : o.op = .call { callee := .builtin .append, args := #[s, x], argTypes := #[86, 86] }) (base : Nat) (v u : Value) (xs ys : List Nat) (hs : a.eval s = v) (hown : OwnRunes w base v xs)
    (hx : a.eval x = u) (hr : Runes w u ys) (hlen : xs.length + ys.length ≤ 1000000) (hbase : base ≤ w.heap.size)
    (h : ∀ v' w', OwnRunes w' base v' (xs ++ ys) → w.grownBy w' v.ownBlock → wpList Tryd.prog ops Q rest (a.put o.dst v') w') : wpList Tryd.prog ops Q (o :: rest) a w := by
  obtain ⟨i0, hi, hz0, hz1, hz2⟩ := info_parts info_rune
  obtain ⟨A, c, rfl, h0, hc⟩ := hr
  cases A with
  | none =>
    have he : ys = [] := by
      cases ys with
      | nil => rfl
      | cons y l => obtain ⟨g, hg, _⟩ := hc 0 (by simp); cases hg
    subst he
    obtain rfl := h0 rfl
    refine BigFrame.wpList_want hw fun K hK => ?_
    have hrun := run_append_owned_none (P := Tryd.prog) (w := w) base 86 o.type 21 i0 1 Tryd.underlying86 hi v xs.length (runeV xs) hown
    unfold Oper.wp
    simp [execOp, ho, resolve, invoke, builtin, hs, hx, hrun, Result.andThen]
    refine hK _ _ (h v w ?_ ⟨rfl, rfl, rfl, Nat.le_refl _, fun _ _ _ => rfl⟩)
    rw [List.append_nil]
    exact hown
  | some ad =>
    refine BigFrame.wpList_want hw fun K hK => ?_
    refine wp_append_own w s x 86 ho base 21 i0 (.int .i32 0) 1 4 Tryd.underlying86 hi hz0 hz1 hz2 rfl (by decide) v xs.length (runeV xs) hs hown ad ys.length c (runeV ys) hx (by simp [runeV]) ?_ ?_ (by unfold maxLen; omega) (by omega) hbase ?_
    · intro j y hy
      have hj : j < ys.length := by
        have := (List.getElem?_eq_some_iff.1 hy).1
        simpa [runeV] using this
      obtain ⟨g, hg, _, hcell⟩ := hc j hj
      cases hg
      rw [add_zero, hcell, ← hy]
      simp [runeV, hj]
    · intro y hy
      simp only [runeV, List.mem_map] at hy
      obtain ⟨r, _, rfl⟩ := hy
      rfl
    · intro v' w' h2 h3 _
      refine hK _ _ (h v' w' ?_ h3)
      unfold OwnRunes
      rw [List.length_append, show runeV (xs ++ ys) = runeV xs ++ runeV ys by simp [runeV]]
      exact h2












/-- A slice of literals. -/
theorem lit_runes (w : World) (l : List Nat) : Runes (w.alloc (.cells (runeV l).toArray 21)) (.slice (some ⟨w.heap.size, 0, none⟩) l.length l.length) l := by
  refine ⟨_, _, rfl, (fun h => by cases h), fun k hk => ⟨_, rfl, by simp, ?_⟩⟩
  rw [cell_of (Deep.blk_alloc_new _ _)]
  simp [runeV, hk]

theorem c1 : comes [] 195 = ([], [195]) := by decide +kernel
theorem c2 : comes [195] 169 = ([233], []) := by decide +kernel
theorem c3 : comes [] 226 = ([], [226]) := by decide +kernel
theorem a1 : allD [226, 130, 195, 169] = [65533, 233] := by decide +kernel

theorem eq_pair (W : World) : (binOp .eql 118 (.agg #[.int .i32 233, .int .i32 0]) (.agg #[.int .i32 233, .int .i32 0])).run Tryd.prog W = .ok (.bool true) W := by kernel_rfl
theorem eq_guard (W : World) : (eqGuard .eql 118 (.tmp 41) (.tmp 42) (.agg #[.int .i32 233, .int .i32 0]) (.agg #[.int .i32 233, .int .i32 0])).run Tryd.prog W = .ok () W := by kernel_rfl

end Go.Proofs.YtfekjlajagoooaaDoor.D5
