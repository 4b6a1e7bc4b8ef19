/- Layer 15: the program's broken: lines of the call's own, each with cells of its own. -/
import Derived.Test.YtifolcfnknlmdaaRePPX
import Derived.Test.YtifolcfnknlmdaaReH
import Derived.Test.YtifolcfnknlmdaaRwPf
import Derived.Test.YtifolcfnknlmdaaRwY
set_option linter.unusedVariables false
namespace Go.Proofs.Ytifolcfnknlmdaa.Re
open Go.RowKit Go.Proofs.Ytifolcfnknlmdaa.Rw

abbrev pLine : TypeId := 30
theorem pline_ne_cell : pLine ≠ 38 := by decide
/-- Lines of the call's own, each one's cells of the call's own, too. -/
structure LState (B : Nat) (V : World) (v : Value) (rs : List Raw) (ls : List LnC) : Prop where
  out : OwnL pLine V B v rs
  len : rs.length = ls.length
  ok : RawOk rs
  rows : ∀ k, k < ls.length → (rs.getD k noRaw).j = (ls.getD k noLn).joined ∧ (rs.getD k noRaw).s = (ls.getD k noLn).short ∧ OwnC V B (rs.getD k noRaw).u (ls.getD k noLn).cells
namespace LState
variable {B : Nat} {V V' : World} {v v' : Value} {rs qs : List Raw} {ls ms : List LnC}
theorem none (V : World) (B : Nat) : LState B V (.slice Option.none 0 0) [] [] := ⟨ownL_none _ _, rfl, fun r hr => (by cases hr), fun k hk => by simp at hk⟩
theorem keep (h : LState B V v rs ls) (hk : ∀ g, g < V.heap.size → V'.heap[g]? = V.heap[g]?) : LState B V' v rs ls :=
  ⟨ownL_keep h.out fun g e => hk g (ownL_ge h.out g e).2, h.len, h.ok, fun k hk' => ⟨(h.rows k hk').1, (h.rows k hk').2.1, own_keep (h.rows k hk').2.2 fun g e => hk g (own_lt (h.rows k hk').2.2 g e)⟩⟩
theorem below (h : LState B V v rs ls) (hb : Below V.heap.size V V') : LState B V' v rs ls := h.keep fun g hg => hb.block g hg
theorem less {C : Nat} (h : LState B V v rs ls) (hC : C ≤ B) : LState C V v rs ls := ⟨ownL_less h.out hC, h.len, h.ok, fun k hk' => ⟨(h.rows k hk').1, (h.rows k hk').2.1, own_less (h.rows k hk').2.2 hC⟩⟩
/-- More lines: the table grows by rows that stand by. -/
theorem more (h : LState B V v rs ls) (hl : qs.length = ms.length) (hok : RawOk qs) (hq : ∀ k, k < ms.length → (qs.getD k noRaw).j = (ms.getD k noLn).joined ∧ (qs.getD k noRaw).s = (ms.getD k noLn).short ∧ OwnC V B (qs.getD k noRaw).u (ms.getD k noLn).cells)
    (ho : OwnL pLine V' B v' (rs ++ qs)) (hg : V.grownBy V' v.ownBlock) : LState B V' v' (rs ++ qs) (ls ++ ms) := by
  have hrow : ∀ (u : Value) (p : List Ce), OwnC V B u p → OwnC V' B u p := fun u p hu => own_keep hu fun g e => by
    obtain ⟨_, hlt, cur, hc⟩ := ownC_typed hu g e
    refine hg.block g hlt fun e2 => ?_
    obtain ⟨_, _, cur2, hc2⟩ := ownL_typed h.out g e2.symm
    exact typed_ne hc hc2 (fun e => pline_ne_cell e.symm) rfl
  refine ⟨ho, by rw [List.length_append, List.length_append, h.len, hl], fun r hr => ?_, fun k hk' => ?_⟩
  · rcases List.mem_append.1 hr with h1 | h1
    · exact h.ok r h1
    · exact hok r h1
  · by_cases hlt : k < ls.length
    · have e1 : (rs ++ qs).getD k noRaw = rs.getD k noRaw := by rw [List.getD_eq_getElem?_getD, List.getD_eq_getElem?_getD, List.getElem?_append_left (by rw [h.len]; exact hlt)]
      have e2 : (ls ++ ms).getD k noLn = ls.getD k noLn := by rw [List.getD_eq_getElem?_getD, List.getD_eq_getElem?_getD, List.getElem?_append_left hlt]
      rw [e1, e2]
      exact ⟨(h.rows k hlt).1, (h.rows k hlt).2.1, hrow _ _ (h.rows k hlt).2.2⟩
    · have hk2 : k - ls.length < ms.length := by rw [List.length_append] at hk'; omega
      have e1 : (rs ++ qs).getD k noRaw = qs.getD (k - ls.length) noRaw := by rw [List.getD_eq_getElem?_getD, List.getD_eq_getElem?_getD, List.getElem?_append_right (by rw [h.len]; omega), h.len]
      have e2 : (ls ++ ms).getD k noLn = ms.getD (k - ls.length) noLn := by rw [List.getD_eq_getElem?_getD, List.getD_eq_getElem?_getD, List.getElem?_append_right (by omega)]
      rw [e1, e2]
      have := hq _ hk2
      exact ⟨this.1, this.2.1, hrow _ _ this.2.2⟩
theorem one (h : LState B V v rs ls) {r : Raw} {a : LnC} (hj : r.j = a.joined) (hs : r.s = a.short) (hc : OwnC V B r.u a.cells) (ho : OwnL pLine V' B v' (rs ++ [r])) (hg : V.grownBy V' v.ownBlock) : LState B V' v' (rs ++ [r]) (ls ++ [a]) := by
  refine h.more (qs := [r]) (ms := [a]) rfl (fun q hq => ?_) (fun k hk => ?_) ho hg
  · rw [List.mem_singleton] at hq
    subst hq
    obtain ⟨A, c, e, _⟩ := own_lies hc
    rw [e]
    rfl
  · have : k = 0 := by simpa using hk
    subst this
    exact ⟨hj, hs, hc⟩
theorem lines (h : LState B V v rs ls) : LinesAt (fun b => B ≤ b) V v ls := by
  have := ownL_lines (F := fun b => B ≤ b) h.out h.len fun k hk => ⟨(h.rows k hk).1, (h.rows k hk).2.1, own_lies (h.rows k hk).2.2, fun b e _ => own_ge (h.rows k hk).2.2 b e⟩
  exact this.more fun b hb => hb.elim id id
end LState

/-! ### plain -/
/-- A paragraph's first line at a width. -/
def lineV (W : Nat) (l : List Ce) : LnC := ⟨copyV (blanks W zeroAa) 0 (l.take (fitV W l)), decide (fitV W l < l.length), decide (fitV W l < l.length) && decide (fitV W l < W)⟩
theorem copy_blanks (W : Nat) (ys : List Ce) (h : ys.length ≤ W) : copyV (blanks W zeroAa) 0 ys = ys ++ List.replicate (W - ys.length) blC := by
  have hb : (blanks W zeroAa).length = W := by simp [blanks]
  unfold copyV
  rw [hb, List.take_zero, List.nil_append, Nat.sub_zero, List.take_of_length_le h, Nat.zero_add, Nat.min_eq_left h]
  unfold blanks
  rw [List.drop_replicate]
  rfl
theorem lay_fit (W : Nat) (h2 : 2 ≤ W) (l : List Ce) : lay blC wdC W l = lineV W l :: (if fitV W l < l.length then lay blC wdC W (l.drop (fitV W l)) else []) := by
  unfold lineV
  rw [copy_blanks W _ (by rw [List.length_take]; have := (fit_le W l).2; omega), lay]
  unfold fitV
  by_cases h1 : l.length < W
  · rw [dif_neg (by omega), dif_neg (by omega), if_pos h1, List.take_length, if_neg (by omega), decide_eq_false (by omega : ¬ l.length < l.length)]
    rfl
  · rw [if_neg h1]
    by_cases h3 : wdC (l.getD (W - 1) blC) = true
    · have e1 : W - min (W - 1) l.length = 1 := by omega
      rw [dif_pos ⟨h2, by omega, h3⟩, if_pos h3, if_pos (by omega), decide_eq_true (by omega : W - 1 < l.length), decide_eq_true (by omega : W - 1 < W), List.length_take, e1]
      rfl
    · rw [dif_neg (fun h => h3 h.2.2), if_neg h3]
      have e1 : W - min W l.length = 0 := by omega
      by_cases h4 : W < l.length
      · rw [dif_pos ⟨h2, h4⟩, if_pos h4, decide_eq_true h4, decide_eq_false (by omega : ¬ W < W), List.length_take, e1]
        simp
      · have e2 : l.length = W := by omega
        have e3 : l.take W = l := List.take_of_length_le (by omega)
        rw [dif_neg (fun h => h4 h.2), if_neg h4, decide_eq_false h4, List.length_take, e1, e3, e2, Nat.sub_self]
        rfl
theorem fit_pos (W : Nat) (h2 : 2 ≤ W) (l : List Ce) (h : fitV W l < l.length) : 0 < fitV W l := by
  have h1 : ¬ l.length < W := fun e => by unfold fitV at h; rw [if_pos e] at h; omega
  unfold fitV
  rw [if_neg h1]
  split <;> omega

/-- copy into a row of the call's own: the run; nothing but its block turns. -/
theorem run_copy_turn {w : World} {base g n c : Nat} {l ys : List Ce} (ty : TypeId) (hown : OwnC w base (.slice (some ⟨g, 0, none⟩) n c) l) (hn : n = l.length) {i : Nat} (hi : i ≤ n) {dp sp : Option Addr} {dn dc sn sc : Nat} (hdn : dn = n - i) (hdp : dp = some ⟨g, i * 7, none⟩ ∨ n - i = 0) (hy : Lies w (.slice sp sn sc) ys) :
    ∃ w', (Builtin.copy_ #[28, 28] ty #[.slice dp dn dc, .slice sp sn sc]).run Try.prog w = .ok (goInt (Nat.min sn dn)) w' ∧ OwnC w' base (.slice (some ⟨g, 0, none⟩) n c) (copyV l i ys) ∧ Turns g w w' := by
  obtain ⟨hsn, _, _, hR⟩ := hy.row
  have hs : (Try.prog.info? 38).map (·.size) = some 7 := by
    have := info_cell
    cases hq : Try.prog.info? 38 with
    | none => rw [hq] at this; cases this
    | some x => rw [hq] at this; simp only [Option.map_some, Option.some.injEq, Prod.mk.injEq] at this ⊢; exact this.2.1
  by_cases h0 : Nat.min sn dn = 0
  · refine ⟨w, ?_, ?_, Turns.refl _ _⟩
    · rw [h0]; exact run_copy_no w _ _ ty _ 7 dp sp dn dc sn sc Try.underlying28 hs h0
    · rw [copyV_nil l i ys (by omega) (by rw [← hsn, ← hn, ← hdn]; exact h0)]
      exact hown
  · have hmin : Nat.min sn dn = min sn dn := rfl
    have hdp := hdp.resolve_right (by omega)
    subst hdp
    obtain ⟨sb, so, rfl, _, hr⟩ := hR (by omega)
    rcases own_shape hown with ⟨e, _⟩ | ⟨g', c', cur, e, hb, hl, hh, hc, hm, hsz, hx⟩
    · cases e
    · cases e
      have hlen : (flatC (ys.take dn)).length = Nat.min sn dn * 7 := by rw [flat_len, List.length_take, ← hsn, Nat.min_comm]
      have hfit : i * 7 + (flatC (ys.take dn)).length ≤ cur.size := by rw [hlen, hsz, hmin]; omega
      refine ⟨w.setRow g (cur.toList.take (i * 7) ++ flatC (ys.take dn) ++ cur.toList.drop (i * 7 + (flatC (ys.take dn)).length)).toArray, run_copy_rows w _ _ ty _ 7 g (i * 7) dn dc ⟨sb, so, none⟩ sn sc cur _ (flatC (ys.take dn)) Try.underlying28 hs hh hlen (fun j v hj => ?_) hfit (flat_one _), ?_, ⟨rfl, rfl, rfl, by simp, fun k _ hk => setRow_other w g k _ hk⟩⟩
      · have hj2 : j < (ys.take dn).length * 7 := by
          have := (List.getElem?_eq_some_iff.1 hj).1
          rwa [flat_len] at this
        have hd : j = j / 7 * 7 + j % 7 := by omega
        have hq : j / 7 < (ys.take dn).length := by omega
        have h7 := flat_get (ys.take dn) (j / 7) hq (j % 7) (by omega)
        rw [← hd, hj, cell_take, if_pos (by rw [List.length_take] at hq; omega)] at h7
        rw [List.length_take] at hq
        have := hr (j / 7) (by omega) (j % 7) v h7.symm
        rw [add_oo, hd]
        exact this
      · have hcl : (copyV l i ys).length = l.length := copyV_len l i ys (by omega)
        refine ⟨by rw [flat_len], Or.inr ⟨g, c, _, by rw [hcl], hb, setRow_heap w g cur _ _ _ hh, by rw [hcl]; exact hc, hm, ?_, ?_⟩⟩
        · simp only [List.size_toArray, List.length_append, List.length_take, List.length_drop, Array.length_toList]
          omega
        · rw [hcl]
          unfold copyV
          rw [flat_append, flat_append, flat_take' l, flat_drop, flat_len, hdn]
          have el : (ys.take (l.length - i)).length = min ys.length (l.length - i) := by rw [List.length_take]; omega
          have e7 := mid_take cur.toList (flatC (ys.take (l.length - i))) (i * 7) (min ys.length (l.length - i) * 7) (l.length * 7) (by rw [Array.length_toList]; omega) (by rw [flat_len, el]) (by have := Nat.min_le_right ys.length (l.length - i); omega)
          rw [el, List.toList_toArray, e7, hx, Nat.add_mul]

theorem step_copy_turn {w : World} {ops : Array Oper} {o : Oper} {a : Act} {K : Act → World → Prop} {Q : Exit → Act → World → Prop} {E : Prop} (hgd : o.guard = none) (d s : Operand)
    (ho : o.op = .call { callee := .builtin .copy, args := #[d, s], argTypes := #[28, 28] }) {base g n c : Nat} {l ys : List Ce} (hown : OwnC w base (.slice (some ⟨g, 0, none⟩) n c) l) (hn : n = l.length) {i : Nat} (hi : i ≤ n)
    {dp sp : Option Addr} {dn dc sn sc : Nat} (hd : a.eval d = .slice dp dn dc) (hs : a.eval s = .slice sp sn sc) (hdn : dn = n - i) (hdp : dp = some ⟨g, i * 7, none⟩ ∨ n - i = 0) (hy : Lies w (.slice sp sn sc) ys)
    (h : ∀ w', OwnC w' base (.slice (some ⟨g, 0, none⟩) n c) (copyV l i ys) → Turns g w w' → K (a.put o.dst (goInt (Nat.min sn dn))) w') :
    if Region.wanted o (yielded ops a.tmps) = true then Oper.wp Try.prog o a w K Q else E := by
  obtain ⟨w', hrun, hown', hB⟩ := run_copy_turn o.type hown hn hi hdn hdp hy
  exact step_copy_ran hgd d s _ _ ho hd hs hrun (h w' hown' hB)
end Go.Proofs.Ytifolcfnknlmdaa.Re
