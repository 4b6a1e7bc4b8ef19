/- Layer 15: the program's Lines, Paragraphs, Text. -/
import Derived.Test.YtifolcfnknlmdaaRePg
import Derived.Test.YtifolcfnknlmdaaRePs
import Derived.Test.YtifolcfnknlmdaaRwPj
set_option linter.unusedVariables false
namespace Go.Proofs.Ytifolcfnknlmdaa.Re
open Go.RowKit Go.Proofs.Ytifolcfnknlmdaa.Rw

/-- Cell by cell, as append copies them. -/
theorem ownL_cells {T : TypeId} {w : World} {base g m c : Nat} {ys : List Raw} (h : OwnL T w base (.slice (some ⟨g, 0, none⟩) m c) ys) : ∀ j y, (rawsC ys)[j]? = some y → w.cell? ((⟨g, 0, none⟩ : Addr).add j) = some y := fun j y hj => by
  have hlt : j < ys.length * 3 := by
    have := (List.getElem?_eq_some_iff.1 hj).1
    rwa [raws_len] at this
  rcases h.2 with ⟨e, _⟩ | ⟨g', cap, cur, e, h1, h2, h3, h4, h5, h6⟩
  · cases e
  · injection e with e1 e2 e3
    injection e1 with e1
    injection e1 with e1 _
    subst e1
    rw [add_oo, Nat.zero_add, cell_of h2]
    rw [← h6, List.getElem?_take, if_pos hlt, Array.getElem?_toList] at hj
    exact hj
/-- append of lines to lines of the call's own. -/
theorem append_lines {S T : TypeId} (hT : LineT S T) {ops : Array Oper} {rest : List Oper} {o : Oper} {a : Act} {Q : Exit → Act → World → Prop} (w : World) (hgd : o.guard = none) (s x : Operand)
    (ho : o.op = .call { callee := .builtin .append, args := #[s, x], argTypes := #[S, S] }) (base : Nat) (v : Value) (xs ys : List Raw) (g0 m c0 : Nat) (hs : a.eval s = v) (hown : OwnL T w base v xs)
    (hx : a.eval x = .slice (some ⟨g0, 0, none⟩) m c0) {B2 : Nat} (hy : OwnL T w B2 (.slice (some ⟨g0, 0, none⟩) m c0) ys) (hu : RawOk ys) (hlen : xs.length + ys.length ≤ 1000000) (hbase : base ≤ w.heap.size) (hpos : 0 < xs.length + ys.length)
    (h : ∀ g c w', OwnL T w' base (.slice (some ⟨g, 0, none⟩) (xs.length + ys.length) c) (xs ++ ys) → w.grownBy w' v.ownBlock → wpList Try.prog ops Q rest (a.put o.dst (.slice (some ⟨g, 0, none⟩) (xs.length + ys.length) c)) w') : wpList Try.prog ops Q (o :: rest) a w := by
  obtain ⟨i0, hi, hz0, hz1, hz2⟩ := info_parts hT.info
  obtain ⟨A', c', e⟩ := ownL_slice hy
  injection e with _ e2 _
  subst e2
  refine wpList_append_own w hgd s x S ho base T i0 _ 3 32 hT.und hi hz0 hz1 hz2 rfl (by decide) v xs.length (rawsC xs) hs hown ⟨g0, 0, none⟩ ys.length c0 (rawsC ys) hx (raws_len ys) (ownL_cells hy) (raws_one hu) (by unfold maxLen; omega) (by omega) hbase ?_
  intro v' w' h2 h3 _
  have h2 : w'.ownsRow base T 3 v' (xs ++ ys).length (rawsC (xs ++ ys)) := by
    rw [List.length_append, raws_append]
    exact h2
  rcases h2.2 with ⟨_, h0⟩ | ⟨g, cap, cur, rfl, _⟩
  · rw [List.length_append] at h0; omega
  · rw [List.length_append] at h2 ⊢
    refine h g cap w' ?_ h3
    unfold OwnL
    rw [List.length_append]
    exact h2
theorem idx_group (b o n c k : Nat) (hk : k < n) (W : World) : (Instr.indexAt 57 (.slice (some ⟨b, o, none⟩) n c) (.int .i64 (k : Int))).run Try.prog W = .ok (.pointer (some ⟨b, o + k, none⟩)) W := by
  have hs : ∀ W : World, (sizeOf (Try.prog.elem 57)).run Try.prog W = .ok 1 W := fun W => by kernel_rfl
  rw [run_indexAt_slice (P := Try.prog) W 57 ⟨b, o, none⟩ n c .i64 k (by kernel_rfl), if_pos (by omega), hs]
  simp only [Result.andThen, Int.toNat_natCast, add_oo, Nat.mul_one]
/-- The table of the paragraphs' lines: its rows read so as long as what came in stands. -/
structure GTab (F : Nat → Prop) (w w1 : World) (l : List LnC) (A : Option Addr) (n c : Nat) (us : List Value) : Prop where
  out : OwnG 22 1 w1 w.heap.size (.slice A n c) (rowsOf us)
  len : us.length = (groups l).length
  rows : ∀ j, j < (groups l).length → LinesAt F w (us.getD j nilS) ((groups l).getD j [])
  n : n = (groups l).length
  bel : Below w.heap.size w w1
theorem GPost.tab {F : Nat → Prop} {w : World} {l : List LnC} {e : Ending} {w' : World} (h : GPost F w l e w') : ∃ A n c us, e = .returned (.slice A n c) ∧ GTab F w w' l A n c us := by
  obtain ⟨v, us, rfl, h1, h2, h3, h4⟩ := h
  obtain ⟨A, c, rfl⟩ := ownG_slice h1
  exact ⟨A, _, c, us, rfl, h1, h2, h3, by rw [rowsOf, List.length_map, h2], h4⟩
theorem GTab.at_ {F : Nat → Prop} {w w1 : World} {l : List LnC} {A : Option Addr} {n c : Nat} {us : List Value} (h : GTab F w w1 l A n c us) {k : Nat} (hk : k < n) : ∃ g A2 n2 c2, A = some ⟨g, 0, none⟩ ∧ g < w1.heap.size ∧ w1.cell? ⟨g, k, none⟩ = some (.slice A2 n2 c2) ∧ LinesAt F w (.slice A2 n2 c2) ((groups l).getD k []) := by
  have hn := h.n
  have hku : k < us.length := by rw [h.len]; omega
  obtain ⟨g, e, _, h2, h3⟩ := ownG_at h.out (k := k) (by rw [rowsOf, List.length_map]; exact hku)
  have h4 := h3 0 (by decide)
  have h5 : (rowsOf us).getD k [] = [us.getD k nilS] := by simp [rowsOf, List.getD_eq_getElem?_getD, hku]
  have h6 := h.rows k (by omega)
  obtain ⟨A2, c2, e2, _⟩ := id h6
  rw [h5, e2] at h4
  rw [e2] at h6
  exact ⟨g, A2, _, c2, e, h2, by simpa using h4, h6⟩
theorem group_small (l : List LnC) (k : Nat) (hk : k < (groups l).length) : sumV ((groups l).getD k []) ≤ sumV l ∧ ((groups l).getD k []).length ≤ l.length ∧ (groups l).getD k [] ≠ [] := by
  have hm : (groups l).getD k [] ∈ groups l := by
    rw [List.getD_eq_getElem?_getD, List.getElem?_eq_getElem hk]
    exact List.getElem_mem hk
  have := groups_sum l [] _ hm
  have e0 : sumV [] = 0 := rfl
  rw [e0, List.length_nil] at this
  exact ⟨by omega, by omega, this.2.2⟩
theorem groups_count (l : List LnC) : (groups l).length ≤ l.length := by
  have := paras_count l []
  have h := congrArg List.length (paras_of l)
  rw [List.length_map] at h
  unfold paras at h
  omega
theorem take_flat {β : Type} (f : List LnC → List β) (gs : List (List LnC)) (k : Nat) (hk : k < gs.length) : (gs.take (k + 1)).flatMap f = (gs.take k).flatMap f ++ f (gs.getD k []) := by
  rw [List.take_add_one, List.flatMap_append, List.getD_eq_getElem?_getD, List.getElem?_eq_getElem hk]
  simp
def layG (W : Nat) (g : List LnC) : List LnC := lay blC wdC W (trim blC (allC g))
theorem lines_groups (W : Nat) (l : List LnC) : linesV blC wdC W l = (groups l).flatMap (layG W) := by
  unfold linesV
  rw [paras_of, List.flatMap_map]
  rfl
theorem lines_count (W : Nat) (h2 : 2 ≤ W) (l : List LnC) : (linesV blC wdC W l).length ≤ sumV l + l.length := by
  have h1 := (flat_sum W h2 (paras blC l)).2
  have h3 := paras_sum l []
  have h4 := paras_count l []
  rw [List.length_nil, Nat.zero_add] at h3
  unfold paras at h1
  unfold linesV paras
  omega
theorem flat_take_le {β : Type} (f : List LnC → List β) (gs : List (List LnC)) (k : Nat) : ((gs.take k).flatMap f).length ≤ (gs.flatMap f).length := by
  have := congrArg (fun x => (List.flatMap f x).length) (List.take_append_drop k gs)
  simp only [List.flatMap_append, List.length_append] at this
  omega
set_option maxRecDepth 100000 in
set_option maxHeartbeats 8000000 in
theorem lines_yes {F : Nat → Prop} {v : Value} {l : List LnC} {w : World} (h : LinesAt F w v l) (hl : l.length ≤ 100000) (hs : sumV l ≤ 100000) (W : Nat) (h2 : 2 ≤ W) (h4 : W ≤ 400) : Calls Try.prog 10 #[v, .int .i64 (W : Int)] w fun e w' => ∃ u, e = .returned u ∧ LinesAt (fun b => w.heap.size ≤ b) w' u (linesV blC wdC W l) ∧ Below w.heap.size w w' := by
  have KW := Lib.hid (pwidth_any (W : Int) w)
  rw [decide_eq_true (by omega : 2 ≤ (W : Int) ∧ (W : Int) ≤ 400)] at KW
  have HH := Lib.hid (And.intro hl hs)
  have HL := Lib.hid h
  clear h hl hs
  go_enter Try.func10, Try.ntmps10
  go_wp2_with fail
  refine (show Calls _ _ _ _ _ from KW.out).mono ?_
  rintro e w0 ⟨rfl, b0⟩
  have HB0 := Lib.hid b0
  have KG := Lib.hid (groups_any (HL.out.below b0) HH.out.1)
  clear b0 KW
  go_wp2_with fail
  refine (show Calls _ _ _ _ _ from KG.out).mono ?_
  rintro e w1 hg0
  obtain ⟨A, n, c, us, rfl, hg⟩ := GPost.tab hg0
  have HG := Lib.hid hg
  have hn5 : n ≤ 100000 := by rw [hg.n]; exact Nat.le_trans (groups_count l) HH.out.1
  have H0 : Hid (LState w1.heap.size w1 (.slice none 0 0) [] (((groups l).take 0).flatMap (layG W)) ∧ Below w1.heap.size w1 w1) := Lib.hid ⟨LState.none _ _, Below.refl _ _⟩
  clear hg hg0 KG
  go_wp2
  go_loopw [5, 14] (fun vl iv wr => ∃ (k : Nat) (rs : List Raw) (wz : World) (vlz : Value), wz = wr ∧ vlz = vl ∧ k ≤ n ∧ iv = .int .i64 (k : Int) ∧ Hid (LState w1.heap.size wz vlz rs (((groups l).take k).flatMap (layG W)) ∧ Below w1.heap.size w1 wz)) (fun _ iv _ => n - (RowKit.intOf iv).toNat)
  case atStart => exact ⟨0, [], _, _, rfl, rfl, Nat.zero_le _, rfl, H0⟩
  case round =>
    obtain ⟨k, rs, wr, vl, rfl, rfl, hk, rfl, H⟩ := hrel
    by_cases hlt : k < n
    · have glt : decide ((k : Int) < (n : Int)) = true := by simp; omega
      have glt' : decide (k < n) = true := by simp; omega
      obtain ⟨g, A2, n2, c2, rfl, hgl, q0, lg⟩ := HG.out.at_ hlt
      have i1 := idx_group g 0 n c k hlt
      rw [Nat.zero_add] at i1
      have d0 := (H.out.2.cell (p := ⟨g, k, none⟩) hgl).trans q0
      have hsm := group_small l k (by rw [← HG.out.n]; exact hlt)
      have hw1 : Below w.heap.size w w1 := HB0.out.trans (HG.out.bel.mono HB0.out.size)
      have KC := Lib.hid (cells_any ((lg.below HG.out.bel).below H.out.2) (by have := hsm.2.1; have := HH.out.1; omega) (by have := hsm.1; have := HH.out.2; omega))
      obtain ⟨P, hP⟩ : ∃ P, P = trim blC (allC ((groups l).getD k [])) := ⟨_, rfl⟩
      have HPl : Hid (P.length ≤ 100000) := Lib.hid (by rw [hP]; have h1 := trim_len (allC ((groups l).getD k [])); have h2 := sumV_le ((groups l).getD k []); have := hsm.1; have := HH.out.2; omega)
      have HLg : Hid (((groups l).take (k + 1)).flatMap (layG W) = ((groups l).take k).flatMap (layG W) ++ lay blC wdC W P) := Lib.hid (by rw [hP]; exact take_flat (layG W) (groups l) k (by rw [← HG.out.n]; exact hlt))
      have HCt : Hid ((((groups l).take (k + 1)).flatMap (layG W)).length ≤ 200000) := Lib.hid (by
        have h1 := flat_take_le (layG W) (groups l) (k + 1)
        rw [← lines_groups W l] at h1
        have h3 := lines_count W h2 l
        have := HH.out.1
        have := HH.out.2
        omega)
      rw [← hP] at KC
      clear hgl q0 lg hsm hw1 hP
      go_wp2_with fail
      refine (show Calls _ _ _ _ _ from KC.out).mono ?_
      rintro e w2 ⟨u2, rfl, ho2, b2⟩
      have H2 : Hid (LState w1.heap.size w2 vl rs (((groups l).take k).flatMap (layG W)) ∧ Below w1.heap.size w1 w2) := Lib.hid ⟨H.out.1.below b2, H.out.2.trans (b2.mono H.out.2.size)⟩
      have KB := Lib.hid (broken_any W h2 h4 (own_lies ho2) HPl.out)
      clear ho2 b2 KC
      go_wp2_with fail
      refine (show Calls _ _ _ _ _ from KB.out).mono ?_
      rintro e w3 ⟨v3, qs, rfl, ls3, b3⟩
      have hqn : qs.length ≠ 0 := by rw [ls3.len]; exact fun e => lay_ne blC wdC W P (List.eq_nil_of_length_eq_zero e)
      obtain ⟨g3, c3, rfl⟩ : ∃ g c, v3 = .slice (some ⟨g, 0, none⟩) qs.length c := by
        rcases ls3.out.2 with ⟨_, h0⟩ | ⟨g, cap, cur, e, _⟩
        · exact absurd h0 hqn
        · exact ⟨g, cap, e⟩
      have hlen : rs.length + qs.length ≤ 1000000 := by
        have h1 := congrArg List.length HLg.out
        rw [List.length_append] at h1
        have h3 := HCt.out
        rw [H.out.1.len, ls3.len]
        omega
      have H3 : Hid (LState w1.heap.size w3 vl rs (((groups l).take k).flatMap (layG W)) ∧ Below w1.heap.size w1 w3) := Lib.hid ⟨H2.out.1.below b3, H2.out.2.trans (b3.mono H2.out.2.size)⟩
      have HQ := Lib.hid (ls3.less H2.out.2.size)
      have hpos : 0 < rs.length + qs.length := by omega
      clear ls3 b3 KB H2 hqn
      go_wp2_with (at_builtin; refine append_lines linePro _ rfl (.tmp 18) (.tmp 22) rfl w1.heap.size _ rs qs g3 _ c3 rfl H3.out.1.out rfl HQ.out.out HQ.out.ok hlen H3.out.2.size hpos ?_)
      intro g4 c4 w4 o4 gr4
      have H4 : Hid (LState w1.heap.size w4 (.slice (some ⟨g4, 0, none⟩) (rs.length + qs.length) c4) (rs ++ qs) (((groups l).take (k + 1)).flatMap (layG W)) ∧ Below w1.heap.size w1 w4) := Lib.hid ⟨by
        rw [HLg.out]
        exact H3.out.1.more HQ.out.len HQ.out.ok HQ.out.rows o4 gr4, grownL H3.out.2 gr4 H3.out.1.out H3.out.2.size⟩
      clear o4 gr4 H3 HQ H hlen hpos
      go_wp2
      go_roundw
      case rel => exact ⟨k + 1, _, _, _, rfl, rfl, hlt, by go_num, H4⟩
      case measure => simp [RowKit.intOf]; omega
    · have hkn : k = n := by omega
      have glt : decide ((k : Int) < (n : Int)) = false := by simp; omega
      have glt' : decide (k < n) = false := by simp; omega
      have HF : Hid (LinesAt (fun b => w.heap.size ≤ b) wr vl (linesV blC wdC W l) ∧ Below w.heap.size w wr) := Lib.hid (by
        have h1 := H.out.1.lines
        rw [hkn, HG.out.n, List.take_length, ← lines_groups] at h1
        have hw1 : Below w.heap.size w w1 := HB0.out.trans (HG.out.bel.mono HB0.out.size)
        exact ⟨h1.more fun b hb => Nat.le_trans hw1.size hb, hw1.trans (H.out.2.mono hw1.size)⟩)
      clear hkn H
      go_wp2
      go_ret
      exact ⟨_, rfl, HF.out.1, HF.out.2⟩
set_option maxRecDepth 100000 in
set_option maxHeartbeats 1000000 in
theorem lines_no {v : Value} (w : World) (W : Int) (h : ¬ (2 ≤ W ∧ W ≤ 400)) : Calls Try.prog 10 #[v, .int .i64 W] w fun e w' => e = .returned (.slice none 0 0) ∧ Below w.heap.size w w' := by
  have KW := Lib.hid (pwidth_any W w)
  rw [decide_eq_false h] at KW
  clear h
  go_enter Try.func10, Try.ntmps10
  go_wp2_with fail
  refine (show Calls _ _ _ _ _ from KW.out).mono ?_
  rintro e w0 ⟨rfl, b0⟩
  have HB0 := Lib.hid b0
  clear b0 KW
  go_wp2
  go_ret
  exact ⟨rfl, HB0.out⟩
end Go.Proofs.Ytifolcfnknlmdaa.Re
