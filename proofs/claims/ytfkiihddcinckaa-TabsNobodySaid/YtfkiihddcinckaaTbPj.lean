/- Layer 12: the program's Next: a range over whatever iterator that tells these columns. -/
import Derived.Test.YtfkiihddcinckaaTbPi
set_option linter.unusedVariables false
namespace Go.Proofs.Ytfkiihddcinckaa.Tb
open Go.RowKit Go.Shelf
attribute [local go_sem] Oper.semAt_some

def overL (x : Int) (l : List Nat) : List Nat := l.filter fun k : Nat => decide (x < (k : Int))
theorem over_yes {x : Int} (l : List Nat) {k : Nat} (h : x < (k : Int)) : overL x (l ++ [k]) = overL x l ++ [k] := by
  unfold overL
  rw [List.filter_append]
  congr 1
  simp [h]
theorem over_no {x : Int} (l : List Nat) {k : Nat} (h : ¬ x < (k : Int)) : overL x (l ++ [k]) = overL x l := by
  unfold overL
  rw [List.filter_append]
  simp [h]
/-- Between two rounds: fewer than nn stops beyond x have come. -/
def NextI (w : World) (x nn : Int) (B : Nat) (pre : List Nat) (W : World) : Prop := (((∃ lv : Int, Boxed W (B + 1 + 1) 3 (.int .i64 lv) ∧ 1 ≤ lv ∧ lv = nn - ((overL x pre).length : Nat)) ∧ Boxed W (B + 1) 3 (.int .i64 0)) ∧ Boxed W B 3 (.int .i64 x)) ∧ Below B w W
/-- A round has found it. -/
def NextX (w : World) (x nn : Int) (B : Nat) (c : Code) (pre : List Nat) (W : World) : Prop := (∃ (q : List Nat) (k : Nat), c = .ret ∧ pre = q ++ [k] ∧ x < (k : Int) ∧ ((overL x q).length : Int) = nn - 1 ∧ Boxed W (B + 1) 3 (.int .i64 (k : Int))) ∧ Below B w W
theorem nextI_own (w : World) (x nn : Int) (B S : Nat) (hw : B ≤ w.heap.size) (hS : B ≤ S) : OwnFrom S (NextI w x nn B) := by
  intro pre A A' row hs hg hr
  obtain ⟨⟨⟨⟨lv, h1, h2, h3⟩, h4⟩, h5⟩, h6⟩ := hs
  have hne : ∀ {b : Nat} {v : Value}, Boxed A b 3 v → Boxed A' b 3 v := fun {b v} hb => hb.kept hg (fun e => by
    obtain ⟨_, o, ho, hc⟩ := hr b e.symm
    rw [show A.heap[b]? = _ from hb] at ho
    cases ho
    simp [Obj.isCells] at hc)
  exact ⟨⟨⟨⟨lv, hne h1, h2, h3⟩, hne h4⟩, hne h5⟩, ownFrom_below (β := List Nat) hw hS pre A A' row h6 hg hr⟩
theorem nextX_own (w : World) (x nn : Int) (B S : Nat) (hw : B ≤ w.heap.size) (hS : B ≤ S) (c : Code) : OwnFrom S (NextX w x nn B c) := by
  intro pre A A' row hs hg hr
  obtain ⟨⟨q, k, h1, h2, h3, h4, h5⟩, h6⟩ := hs
  refine ⟨⟨q, k, h1, h2, h3, h4, h5.kept hg (fun e => ?_)⟩, ownFrom_below (β := List Nat) hw hS pre A A' row h6 hg hr⟩
  obtain ⟨_, o, ho, hc⟩ := hr _ e.symm
  rw [show A.heap[B + 1]? = _ from h5] at ho
  cases ho
  simp [Obj.isCells] at hc

theorem results_num {fn : Func} {p : Tmp} (h : fn.results = #[.cell p 3]) (tmps : Array Value) (w : World) (g : Nat) (v : Int) (hp : tmps.getD p undef = .pointer (some ⟨g, 0, none⟩)) (hg : Boxed w g 3 (.int .i64 v)) : (results fn tmps).run Try.prog w = .ok (.int .i64 v) w := by
  have hc := hg.cell
  have hp' : tmps[p]?.getD undef = .pointer (some ⟨g, 0, none⟩) := by simpa using hp
  have ha : (isAgg 3).run Try.prog w = .ok false w := by kernel_rfl
  simp [results, h, hp', asAddr, loadVar, ha, hc, go_sem]

set_option maxRecDepth 100000 in
set_option maxHeartbeats 4000000 in
theorem next_tells (s : Value) (L : List Nat) (m : Nat) (x n : Int) (w : World) (hm : 1 ≤ m ∧ m ≤ 400) (hx : IntIn x) (hn : IntIn n)
    (hall : ∀ V, Below w.heap.size w V → Calls Try.prog 42 #[s] V (AllTells L V))
    (hwid : ∀ V, Below w.heap.size w V → Calls Try.prog 41 #[s] V fun e w' => e = .returned (.int .i64 (m : Int)) ∧ V = w') :
    Calls Try.prog 21 #[s, .int .i64 x, .int .i64 n] w fun e w' => e = .returned (.int .i64 ((overL x L).getD (nthV n) (m - 1) : Nat)) ∧ Below w.heap.size w w' := by
  obtain ⟨nn, enn, hn1, kn⟩ := some_is n
  have EN := Lib.hid enn
  have KN := Lib.hid kn
  have HA := Lib.hid hall
  have HWd := Lib.hid hwid
  clear enn kn hall hwid
  refine (callsIn_wide (n := 3)).1 ?_
  refine callsIn_of_wp_marks Try.func21 rfl trivial ?_ rfl
  simp only [Try.ntmps21, List.size_toArray, List.length_cons, List.length_nil, Nat.reduceAdd, Nat.reduceSub, Array.replicate_succ, Array.replicate_zero, List.push_toArray, List.append_toArray, List.nil_append, List.cons_append]
  gi_wp2
  refine ⟨trivial, ?_⟩
  refine (callsIn_wide.2 (KN.out _)).mono ?_
  rintro e w1 ⟨rfl, rfl⟩
  have HX := (((Boxed.new w 3 (.int .i64 x)).alloc (.cells #[.int .i64 0] 3)).alloc (.cells #[.int .i64 nn] 3))
  have HR := ((Boxed.new (w.alloc (.cells #[.int .i64 x] 3)) 3 (.int .i64 0)).alloc (.cells #[.int .i64 nn] 3))
  have HLf := (Boxed.new ((w.alloc (.cells #[.int .i64 x] 3)).alloc (.cells #[.int .i64 0] 3)) 3 (.int .i64 nn))
  have HB0 : Below w.heap.size w (((w.alloc (.cells #[.int .i64 x] 3)).alloc (.cells #[.int .i64 0] 3)).alloc (.cells #[.int .i64 nn] 3)) := (((Below.refl _ w).alloc (Nat.le_refl _) _).alloc (by simp) _).alloc (by simp; omega) _
  have hz : (((w.alloc (.cells #[.int .i64 x] 3)).alloc (.cells #[.int .i64 0] 3)).alloc (.cells #[.int .i64 nn] 3)).heap.size = w.heap.size + 3 := by simp
  simp only [World.size_alloc] at HR HLf
  have HZ := Lib.hid hz
  have HB := Lib.hid HB0
  clear hz HB0
  gi_wp2
  generalize ((w.alloc (.cells #[.int .i64 x] 3)).alloc (.cells #[.int .i64 0] 3)).alloc (.cells #[.int .i64 nn] 3) = V0 at HX HR HLf HZ HB ⊢
  refine ⟨trivial, ?_⟩
  refine (callsIn_wide.2 (HA.out V0 HB.out)).mono ?_
  rintro e w2 ⟨lb, rfl, hb2, hseq⟩
  have HB2 := Lib.hid (HB.out.trans (hb2.mono HB.out.size))
  have HX2 : Boxed w2 w.heap.size 3 (.int .i64 x) := (hb2.block _ (by have := HZ.out; omega)).trans HX
  have HR2 : Boxed w2 (w.heap.size + 1) 3 (.int .i64 0) := (hb2.block _ (by have := HZ.out; omega)).trans HR
  have HL2 : Boxed w2 (w.heap.size + 1 + 1) 3 (.int .i64 nn) := (hb2.block _ (by have := HZ.out; omega)).trans HLf
  have HZ2 : Hid (w.heap.size ≤ w2.heap.size) := Lib.hid HB2.out.size
  clear hb2 HX HR HLf HB HZ
  have hs2 := hseq (fun _ _ => True)
  clear hseq
  gi_wp2
  obtain ⟨B, hB⟩ : ∃ B, w.heap.size = B := ⟨_, rfl⟩
  rw [hB] at HX2 HR2 HL2 HZ2 ⊢
  have hBB : Below B w w2 := by rw [← hB]; exact HB2.out
  have HWd2 : Hid (∀ V, Below B w2 V → Calls Try.prog 41 #[s] V fun e w' => e = .returned (.int .i64 (m : Int)) ∧ V = w') := Lib.hid fun V hV => HWd.out V (by rw [hB]; exact hBB.trans hV)
  refine wpIn_rangeFunc_ownG rfl (by decide) (gf := 45) (lb := lb) rfl trivial (enters_of Try.func45 (by kernel_rfl) rfl)
    hs2 (fun _ _ => trivial) (fun _ _ _ _ _ _ _ _ => trivial) (Below.refl _ _) (fun _ => rfl)
    (NextI w2 x nn B) (NextX w2 x nn B) (nextI_own w2 x nn B _ HZ2.out HZ2.out) (nextX_own w2 x nn B _ HZ2.out HZ2.out)
    ⟨⟨⟨⟨nn, HL2, hn1, by simp [overL]⟩, HR2⟩, HX2⟩, Below.refl _ _⟩
    (fun k => { tmps := #[s, .int .i64 x, .int .i64 n, undef, .pointer (some ⟨B, 0, none⟩), undef, .pointer (some ⟨B + 1, 0, none⟩), .pointer (some ⟨B + 1 + 1, 0, none⟩), .int .i64 (k : Int), .int .i64 n, .int .i64 nn, s, .func (.func 45) #[] lb, .int .i64 (k : Int), undef, undef, undef, undef, undef, undef, undef, undef, undef, undef, undef], defers := [] }) ?assign ?body ?done ?stop
  case assign =>
    intro l k W K hK
    have hz : (#[(13 : Nat)].zip #[Value.int .i64 (k : Int)]) = #[((13 : Nat), Value.int .i64 (k : Int))] := by simp
    simp only [hz, List.foldl_toArray', List.foldl_cons, List.foldl_nil, List.setIfInBounds_toArray, List.set_cons_zero, List.set_cons_succ]
    gi_wp2
    exact hK
  case body =>
    rintro l pre k W ⟨⟨⟨⟨lv, hlf, hl1, hlv⟩, hrs⟩, hxb⟩, hB2⟩ hlt
    have cl := hlf.cell
    have fl := hlf.frozen
    have cr := hrs.cell
    have fr := hrs.frozen
    have cx := hxb.cell
    have HLV := Lib.hid hlv
    have HBx := Lib.hid (And.intro hlf (And.intro hrs (And.intro hxb hB2)))
    have zl : IntKind.i64.wrap (lv - 1) = lv - 1 := IntWalk.i64_in _ (by have := hn.2; have := EN.out; omega)
    clear hlt hlf hrs hxb hB2 hs2 hB hBB HB2 HWd2 HX2 HR2 HL2 hlv
    by_cases hk : x < (k : Int)
    · have g1 : decide ((k : Int) ≤ x) = false := by simp; omega
      have HO : Hid (overL x (pre ++ [k]) = overL x pre ++ [k]) := Lib.hid (over_yes pre hk)
      have hne : B + 1 + 1 ≠ B + 1 := by omega
      have hne2 : B + 1 ≠ B + 1 + 1 := by omega
      by_cases h0 : lv = 1
      · have g2 : ((lv - 1 : Int) == 0) = true := by simp; omega
        have HK := Lib.hid hk
        have H0 := Lib.hid h0
        clear hk h0
        gi_wp2
        refine ⟨((KeepsOthers.setCell _ _ _).trans (KeepsOthers.setCell _ _ _)).from _, ⟨pre, k, rfl, rfl, HK.out, by have := HLV.out; have := H0.out; omega, ?_⟩, ?_⟩
        · exact Boxed.set _ (Boxed.other HBx.out.2.1 hne2 _)
        · exact (HBx.out.2.2.2.setCell (p := ⟨B + 1 + 1, 0, none⟩) (by show B ≤ B + 1 + 1; omega) _).setCell (p := ⟨B + 1, 0, none⟩) (by show B ≤ B + 1; omega) _
      · have g2 : ((lv - 1 : Int) == 0) = false := by simp; omega
        have HK := Lib.hid hk
        have H0 := Lib.hid h0
        clear hk h0
        gi_wp2
        refine ⟨(KeepsOthers.setCell _ _ _).from _, trivial, ⟨⟨⟨lv - 1, Boxed.set _ HBx.out.1, by have := H0.out; omega, ?_⟩, Boxed.other HBx.out.2.1 hne2 _⟩, Boxed.other HBx.out.2.2.1 (by omega) _⟩, HBx.out.2.2.2.setCell (p := ⟨B + 1 + 1, 0, none⟩) (by show B ≤ B + 1 + 1; omega) _⟩
        rw [HO.out, List.length_append, List.length_singleton]
        have := HLV.out
        omega
    · have g1 : decide ((k : Int) ≤ x) = true := by simp; omega
      have HO : Hid (overL x (pre ++ [k]) = overL x pre) := Lib.hid (over_no pre hk)
      have HK := Lib.hid hk
      clear hk
      gi_wp2
      exact ⟨(KeepsOthers.refl _).from _, trivial, ⟨⟨⟨lv, HBx.out.1, hl1, by rw [HO.out]; exact HLV.out⟩, HBx.out.2.1⟩, HBx.out.2.2.1⟩, HBx.out.2.2.2⟩
  case done =>
    rintro D ys W hD rfl ⟨⟨⟨⟨lv, hlf, hl1, hlv⟩, hrs⟩, hxb⟩, hB2⟩ hK
    have cr := hrs.cell
    have fr := hrs.frozen
    have HK := Lib.hid hK
    have HE : Hid ((overL x ys).getD (nthV n) (m - 1) = m - 1) := Lib.hid (by
      rw [List.getD_eq_getElem?_getD, List.getElem?_eq_none (by unfold nthV; have := EN.out; omega)]
      rfl)
    have K1 := Lib.hid (HWd2.out W hB2)
    have HBx := Lib.hid (And.intro hrs hB2)
    clear hlf hrs hxb hB2 hlv hs2 HB2 HWd2 HX2 HR2 HL2 hK
    gi_wp2
    refine ⟨trivial, ?_⟩
    refine (callsIn_wide.2 K1.out).mono ?_
    rintro e w3 ⟨rfl, rfl⟩
    gi_wp2
    have HK2 : (W.setCell ⟨B + 1, 0, none⟩ (.int .i64 ((m : Int) - 1))).heap[D]? = some (.deferred (some [])) := (KeepsOthers.setCell _ _ _).same D _ HK.out rfl
    have hbx : Boxed ((W.setCell ⟨B + 1, 0, none⟩ (.int .i64 ((m : Int) - 1))).putObj D (.deferred none)) (B + 1) 3 (.int .i64 ((m : Int) - 1)) := (Boxed.set _ HBx.out.1).kept (grownBy_putObj' _ D (.deferred none)) (fun e => by
      cases e
      rw [show W.heap[B + 1]? = _ from HBx.out.1] at HK
      exact absurd HK.out (by simp))
    refine ⟨by simp, .inl ⟨_, _, rfl, run_takeDeferred HK2, ?_⟩⟩
    refine ⟨_, results_num rfl _ _ (B + 1) _ rfl hbx, ret_num (by rw [HE.out]; omega), ?_⟩
    rw [hB]
    have hb3 := (hBB.trans HBx.out.2).setCell (p := ⟨B + 1, 0, none⟩) (by show B ≤ B + 1; omega) (.int .i64 ((m : Int) - 1))
    exact hb3.trans (belowK_b (w := w2) HZ2.out _ D _ _ hD HK2 rfl rfl)
  case stop =>
    rintro D c pre W hD hp ⟨⟨q, k, rfl, rfl, hk, hq, hrs⟩, hB2⟩ hK
    have cr := hrs.cell
    have fr := hrs.frozen
    have HK := Lib.hid hK
    have HE : Hid ((overL x L).getD (nthV n) (m - 1) = k) := Lib.hid (by
      obtain ⟨t, rfl⟩ := hp
      have e : overL x (q ++ [k] ++ t) = overL x q ++ ([k] ++ overL x t) := by
        unfold overL
        rw [List.append_assoc, List.filter_append, List.filter_append]
        congr 2
        simp [hk]
      have en : nthV n = (overL x q).length := by unfold nthV; have := EN.out; omega
      rw [e, List.getD_eq_getElem?_getD, List.getElem?_append_right (by omega), en, Nat.sub_self]
      rfl)
    have HBx := Lib.hid (And.intro hrs hB2)
    clear hrs hB2 hs2 HB2 HWd2 HX2 HR2 HL2 hK hp hq
    gi_wp2
    have hbx : Boxed (W.putObj D (.deferred none)) (B + 1) 3 (.int .i64 (k : Int)) := HBx.out.1.kept (grownBy_putObj' _ D (.deferred none)) (fun e => by
      cases e
      rw [show W.heap[B + 1]? = _ from HBx.out.1] at HK
      exact absurd HK.out (by simp))
    refine ⟨by simp, .inl ⟨_, _, rfl, run_takeDeferred HK.out, ?_⟩⟩
    refine ⟨_, results_num rfl _ _ (B + 1) _ rfl hbx, ret_num (by rw [HE.out]), ?_⟩
    rw [hB]
    exact (hBB.trans HBx.out.2).trans (belowK_b (w := w2) HZ2.out _ D _ _ hD HK.out rfl rfl)
end Go.Proofs.Ytfkiihddcinckaa.Tb
