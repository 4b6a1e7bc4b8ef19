/- Layer 11: copy, for elements of any size: into a row that the call itself made. -/
import Derived.Test.YtifolcfnknlmdaaRwA
import Derived.Laws.CopyOwn
set_option linter.unusedVariables false
namespace Go.Proofs.Ytifolcfnknlmdaa.Rw
open Go.RowKit

theorem run_copy_rows {P : Program} (w : World) (dT sT ty elem : TypeId) (k g o dLen dCap : Nat) (a : Addr) (sLen sCap : Nat) (cur : Array Value) (t : TypeId) (cs : List Value)
    (hu : P.underlying dT = some (.slice elem)) (hs : (P.info? elem).map (·.size) = some k)
    (hg : w.heap[g]? = some (.cells cur t (0, 0))) (hn : cs.length = Nat.min sLen dLen * k)
    (hsrc : ∀ j v, cs[j]? = some v → w.cell? (a.add j) = some v) (hfit : o + cs.length ≤ cur.size) (h1 : ∀ v ∈ cs, v.oneCell' = true) :
    (Builtin.copy_ #[dT, sT] ty #[.slice (some ⟨g, o, none⟩) dLen dCap, .slice (some a) sLen sCap]).run P w =
      .ok (goInt (Nat.min sLen dLen)) (w.setRow g (cur.toList.take o ++ cs ++ cur.toList.drop (o + cs.length)).toArray) := by
  have hl := run_loadCells_list (P := P) w a cs hsrc
  have hst := run_storeCells_at P g o t cs 0 cur w hg (by simpa using hfit) h1
  cases hq : P.info? elem with
  | none => simp [hq] at hs
  | some i =>
    have hi : i.size = k := by simpa [hq] using hs
    rw [hn] at hl
    simp [Builtin.copy_, run_underlying hu, Builtin.lenOf, Builtin.firstCells, sizeOf, typeInfo, hq, hi, hl, hst]
theorem run_copy_no {P : Program} (w : World) (dT sT ty elem : TypeId) (k : Nat) (d a : Option Addr) (dLen dCap sLen sCap : Nat) (hu : P.underlying dT = some (.slice elem)) (hs : (P.info? elem).map (·.size) = some k) (hn : Nat.min sLen dLen = 0) :
    (Builtin.copy_ #[dT, sT] ty #[.slice d dLen dCap, .slice a sLen sCap]).run P w = .ok (goInt 0) w := by
  cases hq : P.info? elem with
  | none => simp [hq] at hs
  | some i =>
    have hl : ∀ (x : Addr), (loadCells x 0).run P w = .ok #[] w := fun x => by simpa using run_loadCells_list (P := P) w x [] (by simp)
    cases d <;> cases a <;> simp [Builtin.copy_, run_underlying hu, Builtin.lenOf, Builtin.firstCells, sizeOf, typeInfo, hq, hn, storeCells, hl]

/-- What a row reads behind a copy to its place i. -/
def copyV (l : List Ce) (i : Nat) (ys : List Ce) : List Ce := l.take i ++ ys.take (l.length - i) ++ l.drop (i + min ys.length (l.length - i))
theorem copyV_len (l : List Ce) (i : Nat) (ys : List Ce) (hi : i ≤ l.length) : (copyV l i ys).length = l.length := by
  unfold copyV
  simp only [List.length_append, List.length_take, List.length_drop]
  omega
theorem copyV_nil (l : List Ce) (i : Nat) (ys : List Ce) (hi : i ≤ l.length) (h : min ys.length (l.length - i) = 0) : copyV l i ys = l := by
  have e : ys.take (l.length - i) = [] := List.eq_nil_of_length_eq_zero (by rw [List.length_take]; omega)
  unfold copyV
  rw [e, h, Nat.add_zero, List.append_nil, List.take_append_drop]
theorem flat_drop (l : List Ce) (k : Nat) : flatC (l.drop k) = (flatC l).drop (k * 7) := by
  induction l generalizing k with
  | nil => simp [flatC]
  | cons a l ih =>
    cases k with
    | zero => simp [flatC]
    | succ k =>
      have e2 : flatC (a :: l) = cellsC a ++ flatC l := rfl
      have e3 : (cellsC a).drop ((k + 1) * 7) = [] := List.drop_eq_nil_of_le (by rw [cells_len]; omega)
      rw [List.drop_succ_cons, ih, e2, List.drop_append, cells_len, e3, List.nil_append, show (k + 1) * 7 - 7 = k * 7 by omega]
theorem flat_take' (l : List Ce) (k : Nat) : flatC (l.take k) = (flatC l).take (k * 7) := by
  induction l generalizing k with
  | nil => simp [flatC]
  | cons a l ih =>
    cases k with
    | zero => simp [flatC]
    | succ k =>
      have e1 : flatC ((a :: l).take (k + 1)) = cellsC a ++ flatC (l.take k) := rfl
      have e2 : flatC (a :: l) = cellsC a ++ flatC l := rfl
      have e3 : (cellsC a).take ((k + 1) * 7) = cellsC a := List.take_of_length_le (by rw [cells_len]; omega)
      rw [e1, e2, ih, List.take_append, cells_len, e3, show (k + 1) * 7 - 7 = k * 7 by omega]
theorem mid_take {α : Type} (X F : List α) (p m N : Nat) (hp : p ≤ X.length) (hF : F.length = m) (h : p + m ≤ N) : (X.take p ++ F ++ X.drop (p + m)).take N = (X.take N).take p ++ F ++ (X.take N).drop (p + m) := by
  have e1 : (X.take p).length = p := by rw [List.length_take]; omega
  have e2 : (X.take p).take N = X.take p := List.take_of_length_le (by omega)
  have e3 : (X.take N).take p = X.take p := by rw [List.take_take, Nat.min_eq_left (by omega)]
  have e4 : F.take (N - p) = F := List.take_of_length_le (by omega)
  have e5 : (X.drop (p + m)).take (N - p - m) = (X.take N).drop (p + m) := by rw [List.drop_take, Nat.sub_sub]
  rw [List.append_assoc, List.append_assoc, List.take_append, List.take_append, e1, e2, e3, e4, hF, e5]
/-- copy(out[i:], src), out a row of the call's own, src whatever row (the same one, too): the run. -/
theorem run_copy_own {w : World} {base g n c : Nat} {l ys : List Ce} (ty : TypeId) (hown : OwnC w base (.slice (some ⟨g, 0, none⟩) n c) l) (hn : n = l.length) {i : Nat} (hi : i ≤ n) {dp sp : Option Addr} {dn dc sn sc : Nat} (hdn : dn = n - i) (hdp : dp = some ⟨g, i * 7, none⟩ ∨ n - i = 0) (hy : Lies w (.slice sp sn sc) ys) :
    ∃ w', (Builtin.copy_ #[28, 28] ty #[.slice dp dn dc, .slice sp sn sc]).run Try.prog w = .ok (goInt (Nat.min sn dn)) w' ∧ OwnC w' base (.slice (some ⟨g, 0, none⟩) n c) (copyV l i ys) ∧ ∀ B w0, Below B w0 w → B ≤ g → Below B w0 w' := by
  obtain ⟨hsn, _, _, hR⟩ := hy.row
  have hs : (Try.prog.info? 38).map (·.size) = some 7 := by
    have := info_cell
    cases hq : Try.prog.info? 38 with
    | none => rw [hq] at this; cases this
    | some x => rw [hq] at this; simp only [Option.map_some, Option.some.injEq, Prod.mk.injEq] at this ⊢; exact this.2.1
  by_cases h0 : Nat.min sn dn = 0
  · refine ⟨w, ?_, ?_, fun _ _ hb _ => hb⟩
    · rw [h0]; exact run_copy_no w _ _ ty _ 7 dp sp dn dc sn sc Try.underlying28 hs h0
    · rw [copyV_nil l i ys (by omega) (by rw [← hsn, ← hn, ← hdn]; exact h0)]
      exact hown
  · have hmin : Nat.min sn dn = min sn dn := rfl
    have hdp := hdp.resolve_right (by omega)
    subst hdp
    obtain ⟨sb, so, rfl, _, hr⟩ := hR (by omega)
    rcases own_shape hown with ⟨e, _⟩ | ⟨g', c', cur, e, hb, hl, hh, hc, hm, hsz, hx⟩
    · cases e
    · cases e
      have hlen : (flatC (ys.take dn)).length = Nat.min sn dn * 7 := by rw [flat_len, List.length_take, ← hsn, Nat.min_comm]
      have hfit : i * 7 + (flatC (ys.take dn)).length ≤ cur.size := by rw [hlen, hsz, hmin]; omega
      refine ⟨w.setRow g (cur.toList.take (i * 7) ++ flatC (ys.take dn) ++ cur.toList.drop (i * 7 + (flatC (ys.take dn)).length)).toArray, run_copy_rows w _ _ ty _ 7 g (i * 7) dn dc ⟨sb, so, none⟩ sn sc cur _ (flatC (ys.take dn)) Try.underlying28 hs hh hlen (fun j v hj => ?_) hfit (flat_one _), ?_, fun B w0 hbw hB => below_setRow hbw hB _⟩
      · have hj2 : j < (ys.take dn).length * 7 := by
          have := (List.getElem?_eq_some_iff.1 hj).1
          rwa [flat_len] at this
        have hd : j = j / 7 * 7 + j % 7 := by omega
        have hq : j / 7 < (ys.take dn).length := by omega
        have h7 := flat_get (ys.take dn) (j / 7) hq (j % 7) (by omega)
        rw [← hd, hj, cell_take, if_pos (by rw [List.length_take] at hq; omega)] at h7
        rw [List.length_take] at hq
        have := hr (j / 7) (by omega) (j % 7) v h7.symm
        rw [add_oo, hd]
        exact this
      · have hcl : (copyV l i ys).length = l.length := copyV_len l i ys (by omega)
        refine ⟨by rw [flat_len], Or.inr ⟨g, c, _, by rw [hcl], hb, setRow_heap w g cur _ _ _ hh, by rw [hcl]; exact hc, hm, ?_, ?_⟩⟩
        · simp only [List.size_toArray, List.length_append, List.length_take, List.length_drop, Array.length_toList]
          omega
        · rw [hcl]
          unfold copyV
          rw [flat_append, flat_append, flat_take' l, flat_drop, flat_len, hdn]
          have el : (ys.take (l.length - i)).length = min ys.length (l.length - i) := by rw [List.length_take]; omega
          have e7 := mid_take cur.toList (flatC (ys.take (l.length - i))) (i * 7) (min ys.length (l.length - i) * 7) (l.length * 7) (by rw [Array.length_toList]; omega) (by rw [flat_len, el]) (by have := Nat.min_le_right ys.length (l.length - i); omega)
          rw [el, List.toList_toArray, e7, hx, Nat.add_mul]

theorem wpList_copy_ran {P : Program} {w : World} {ops : Array Oper} {rest : List Oper} {o : Oper} {a : Act} {Q : Exit → Act → World → Prop} (hgd : o.guard = none) (d s : Operand) (dT sT : TypeId)
    (ho : o.op = .call { callee := .builtin .copy, args := #[d, s], argTypes := #[dT, sT] }) {x y v : Value} {w' : World} (hd : a.eval d = x) (hs : a.eval s = y) (hrun : (Builtin.copy_ #[dT, sT] o.type #[x, y]).run P w = .ok v w')
    (h : wpList P ops Q rest (a.put o.dst v) w') : wpList P ops Q (o :: rest) a w := by
  refine wpList_plain hgd fun K hK => ?_
  unfold Oper.wp
  simp [execOp, ho, resolve, invoke, builtin, hd, hs, hrun, Result.andThen]
  exact hK _ _ h
theorem step_copy_ran {P : Program} {w : World} {ops : Array Oper} {o : Oper} {a : Act} {K : Act → World → Prop} {Q : Exit → Act → World → Prop} {E : Prop} (hgd : o.guard = none) (d s : Operand) (dT sT : TypeId)
    (ho : o.op = .call { callee := .builtin .copy, args := #[d, s], argTypes := #[dT, sT] }) {x y v : Value} {w' : World} (hd : a.eval d = x) (hs : a.eval s = y) (hrun : (Builtin.copy_ #[dT, sT] o.type #[x, y]).run P w = .ok v w')
    (h : K (a.put o.dst v) w') : if Region.wanted o (yielded ops a.tmps) = true then Oper.wp P o a w K Q else E := by
  have hw : Region.wanted o (yielded ops a.tmps) = true := by simp [Region.wanted, hgd]
  rw [if_pos hw]
  unfold Oper.wp
  simp [execOp, ho, resolve, invoke, builtin, hd, hs, hrun, Result.andThen]
  exact h
theorem wpList_copy_rows {w : World} {ops : Array Oper} {rest : List Oper} {o : Oper} {a : Act} {Q : Exit → Act → World → Prop} (hgd : o.guard = none) (d s : Operand)
    (ho : o.op = .call { callee := .builtin .copy, args := #[d, s], argTypes := #[28, 28] }) {base g n c : Nat} {l ys : List Ce} (hown : OwnC w base (.slice (some ⟨g, 0, none⟩) n c) l) (hn : n = l.length) {i : Nat} (hi : i ≤ n)
    {dp sp : Option Addr} {dn dc sn sc : Nat} (hd : a.eval d = .slice dp dn dc) (hs : a.eval s = .slice sp sn sc) (hdn : dn = n - i) (hdp : dp = some ⟨g, i * 7, none⟩ ∨ n - i = 0) (hy : Lies w (.slice sp sn sc) ys) (B : Nat) (w0 : World) (hb : Below B w0 w) (hBg : B ≤ g)
    (h : ∀ w', Hid (OwnC w' base (.slice (some ⟨g, 0, none⟩) n c) (copyV l i ys)) → Below B w0 w' → wpList Try.prog ops Q rest (a.put o.dst (goInt (Nat.min sn dn))) w') : wpList Try.prog ops Q (o :: rest) a w := by
  obtain ⟨w', hrun, hown', hB⟩ := run_copy_own o.type hown hn hi hdn hdp hy
  exact wpList_copy_ran hgd d s _ _ ho hd hs hrun (h w' (Lib.hid hown') (hB B w0 hb hBg))
theorem step_copy_rows {w : World} {ops : Array Oper} {o : Oper} {a : Act} {K : Act → World → Prop} {Q : Exit → Act → World → Prop} {E : Prop} (hgd : o.guard = none) (d s : Operand)
    (ho : o.op = .call { callee := .builtin .copy, args := #[d, s], argTypes := #[28, 28] }) {base g n c : Nat} {l ys : List Ce} (hown : OwnC w base (.slice (some ⟨g, 0, none⟩) n c) l) (hn : n = l.length) {i : Nat} (hi : i ≤ n)
    {dp sp : Option Addr} {dn dc sn sc : Nat} (hd : a.eval d = .slice dp dn dc) (hs : a.eval s = .slice sp sn sc) (hdn : dn = n - i) (hdp : dp = some ⟨g, i * 7, none⟩ ∨ n - i = 0) (hy : Lies w (.slice sp sn sc) ys) (B : Nat) (w0 : World) (hb : Below B w0 w) (hBg : B ≤ g)
    (h : ∀ w', Hid (OwnC w' base (.slice (some ⟨g, 0, none⟩) n c) (copyV l i ys)) → Below B w0 w' → K (a.put o.dst (goInt (Nat.min sn dn))) w') :
    if Region.wanted o (yielded ops a.tmps) = true then Oper.wp Try.prog o a w K Q else E := by
  obtain ⟨w', hrun, hown', hB⟩ := run_copy_own o.type hown hn hi hdn hdp hy
  exact step_copy_ran hgd d s _ _ ho hd hs hrun (h w' (Lib.hid hown') (hB B w0 hb hBg))
end Go.Proofs.Ytifolcfnknlmdaa.Rw
