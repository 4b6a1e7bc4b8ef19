/- Layer 14: the law's all: a range over whatever iterator that tells these things with their numbers. -/
import Derived.Test.YtpanhkhiomgclaaBaC
import Derived.Test.YtpanhkhiomgclaaBaRa
import Derived.OwnWalkIn
import Derived.TacticsInMore
import Derived.LoopNIn
import Derived.LoopIn
import Derived.Maps.AppendAt
set_option linter.unusedVariables false
namespace Go.Proofs.Ytpanhkhiomgclaa.Ba
open Go.RowKit Go.Shelf
attribute [local go_sem] Oper.semAt_some

def OutI (w : World) (B S0 : Nat) (most : Int) (pre : List (Nat × Int)) (W : World) : Prop := (∃ v, Boxed W B 22 v ∧ W.ownsRow S0 3 1 v pre.length (intsC (valV pre)) ∧ ((pre.length : Int) < most ∧ numB pre)) ∧ Below B w W
theorem out_own (w : World) (B S0 : Nat) (most : Int) (hB : B ≤ S0) (hw : B ≤ w.heap.size) : OwnFrom S0 (OutI w B S0 most) :=
  OwnFrom.and (Own.from (holdsRow_own S0 B 22 3 1 (fun pre => pre.length) (fun pre => intsC (valV pre)) (fun pre v => (pre.length : Int) < most ∧ numB pre)) _) (ownFrom_below hw hB)
def OutX (w : World) (B S0 : Nat) (most : Int) (c : Code) (pre : List (Nat × Int)) (W : World) : Prop := (c = .exit 0 ∧ (pre.length : Int) = most ∧ (∃ v, Boxed W B 22 v ∧ W.ownsRow S0 3 1 v pre.length (intsC (valV pre)) ∧ True) ∧ Below B w W) ∨ (c = .ret ∧ ¬ numB pre)
theorem outX_own (w : World) (B S0 : Nat) (most : Int) (hB : B ≤ S0) (hw : B ≤ w.heap.size) (c : Code) : OwnFrom S0 (OutX w B S0 most c) := by
  intro s A B' row hs hg hr
  rcases hs with ⟨h1, h2, h3⟩ | h
  · refine Or.inl ⟨h1, h2, ?_⟩
    exact OwnFrom.and (Own.from (holdsRow_own S0 B 22 3 1 (fun pre => pre.length) (fun pre => intsC (valV pre)) (fun pre v => True)) S0) (ownFrom_below hw hB) s A B' row h3 hg hr
  · exact Or.inr h

set_option maxRecDepth 100000 in
set_option maxHeartbeats 4000000 in
theorem all_any (u : Value) (L : List Int) (most : Nat) (w : World) (hL : L.length ≤ 100000) (hm : 1 ≤ most) (hm2 : most ≤ 100000)
    (HAll : ∀ V, Below w.heap.size w V → Calls Try.prog 22 #[u] V (AllTells L V)) :
    Calls Try.prog 20 #[u, .int .i64 (most : Int)] w fun e w' => ∃ v, e = .returned v ∧ OwnI w' w.heap.size v (L.take most) ∧ Below w.heap.size w w' := by
  obtain ⟨i0, hi, hz0, hz1, hz2⟩ := info_parts info_int
  refine (callsIn_wide (n := 3)).1 ?_
  refine callsIn_of_wp_marks Try.func20 rfl trivial ?_ rfl
  simp only [Try.ntmps20, List.size_toArray, List.length_cons, List.length_nil, Nat.reduceAdd, Nat.reduceSub, Array.replicate_succ, Array.replicate_zero, List.push_toArray, List.append_toArray, List.nil_append, List.cons_append]
  have g1 : decide ((most : Int) < 1) = false := by simp; omega
  have hq : ∀ (lb : Array Value) (W : World), (binOp .eql 46 (.func (.func 31) #[] lb) .nilFunc).run Try.prog W = .ok (.bool false) W := fun lb W => by rfl
  obtain ⟨V0, hV0⟩ : ∃ V0, ((w.alloc (.cells #[.int .i64 (most : Int)] 3)).alloc (.cells #[.slice none 0 0] 22)).alloc (.cells #[.slice none 0 0] 22) = V0 := ⟨_, rfl⟩
  have HV0 : Hid (Below w.heap.size w V0) := Lib.hid (by rw [← hV0]; exact (((Below.refl _ _).alloc (Nat.le_refl _) _).alloc (by simp) _).alloc (by simp; omega) _)
  have hsz : V0.heap.size = w.heap.size + 3 := by rw [← hV0]; simp
  have HM : Boxed V0 w.heap.size 3 (.int .i64 (most : Int)) := by rw [← hV0]; exact ((Boxed.new w _ _).alloc _).alloc _
  have HR : Boxed V0 (w.heap.size + 1) 22 (.slice none 0 0) := by
    rw [← hV0]
    have := Boxed.new (w.alloc (.cells #[.int .i64 (most : Int)] 3)) 22 (.slice none 0 0)
    rw [World.size_alloc] at this
    exact this.alloc _
  have HO : Boxed V0 (w.heap.size + 2) 22 (.slice none 0 0) := by
    rw [← hV0]
    have := Boxed.new ((w.alloc (.cells #[.int .i64 (most : Int)] 3)).alloc (.cells #[.slice none 0 0] 22)) 22 (.slice none 0 0)
    rw [World.size_alloc, World.size_alloc] at this
    exact this
  have HZ := Lib.hid hsz
  have HE := Lib.hid hV0
  clear hV0 hsz
  gi_wp2
  rw [HE.out]
  clear HE
  refine ⟨trivial, ?_⟩
  refine (callsIn_wide.2 (HAll V0 HV0.out)).mono ?_
  rintro e w1 ⟨lb1, rfl, hb1, -⟩
  have HB1 := Lib.hid (HV0.out.trans (hb1.mono HV0.out.size))
  have hk1 : ∀ k, k < w.heap.size + 3 → w1.heap[k]? = V0.heap[k]? := fun k hk => hb1.block k (by rw [HZ.out]; exact hk)
  have HM1 : Boxed w1 w.heap.size 3 (.int .i64 (most : Int)) := (hk1 _ (by omega)).trans HM
  have HR1 : Boxed w1 (w.heap.size + 1) 22 (.slice none 0 0) := (hk1 _ (by omega)).trans HR
  have HO1 : Boxed w1 (w.heap.size + 2) 22 (.slice none 0 0) := (hk1 _ (by omega)).trans HO
  have hz1 : w.heap.size + 3 ≤ w1.heap.size := by have := HZ.out; have := hb1.size; omega
  clear hb1 hk1 HM HR HO HZ HV0
  gi_wp2
  refine ⟨trivial, ?_⟩
  refine (callsIn_wide.2 (HAll w1 HB1.out)).mono ?_
  rintro e w2 ⟨lb, rfl, hb2, hseq⟩
  have HB2 := Lib.hid (HB1.out.trans (hb2.mono HB1.out.size))
  have HM2 : Boxed w2 w.heap.size 3 (.int .i64 (most : Int)) := (hb2.block _ (by omega)).trans HM1
  have HR2 : Boxed w2 (w.heap.size + 1) 22 (.slice none 0 0) := (hb2.block _ (by omega)).trans HR1
  have HO2 : Boxed w2 (w.heap.size + 2) 22 (.slice none 0 0) := (hb2.block _ (by omega)).trans HO1
  have hz2' : w.heap.size + 3 ≤ w2.heap.size := by have := hb2.size; omega
  have hs2 := hseq (MineA (w.heap.size + 2)) (mineA_ok (by omega)) (by
    rintro W hW k ⟨v, hv, hk⟩
    have hb : W.heap[w.heap.size + 2]? = w2.heap[w.heap.size + 2]? := hW.block _ (by omega)
    have e : v = .slice none 0 0 := by
      have := (show _ = _ from hv).symm.trans (hb.trans HO2)
      simpa using this
    subst e
    rcases hk with hk | hk
    · omega
    · simp [Value.ownBlock] at hk)
  clear hb2 HM1 HR1 HO1 HB1 hseq hz1
  gi_wp2
  obtain ⟨S0, hS0⟩ : ∃ S0, S0 = w2.heap.size := ⟨_, rfl⟩
  obtain ⟨B, hB⟩ : ∃ B, B = w.heap.size + 2 := ⟨_, rfl⟩
  obtain ⟨R, hR⟩ : ∃ R, R = w.heap.size + 1 := ⟨_, rfl⟩
  have hBe : w.heap.size + 2 = B := hB.symm
  have hBe2 : w.heap.size + 1 + 1 = B := hB.symm
  have hRe : w.heap.size + 1 = R := hR.symm
  rw [hBe] at HO2 hs2
  rw [hRe] at HR2
  try rw [hBe2]
  try rw [hRe]
  have hBS : B < S0 := by omega
  have hMB : w.heap.size < B := by omega
  have hRB : R < B := by omega
  have hI := out_own w2 B S0 (most : Int) (Nat.le_of_lt hBS) (by omega)
  have hX := outX_own w2 B S0 (most : Int) (Nat.le_of_lt hBS) (by omega)
  rw [hS0] at hI hX
  refine wpIn_rangeFunc_ownG rfl (by decide) (gf := 31) (lb := lb) rfl trivial (enters_of Try.func31 (by kernel_rfl) rfl)
    hs2 KpM.trans (fun W l o o' hl h hc _ => KpM.put (mineA_ok (S := w2.heap.size) (by omega)) W l o o' hl h hc) (Below.refl _ _) (fun _ => rfl)
    (OutI w2 B S0 (most : Int)) (OutX w2 B S0 (most : Int)) (by rw [hS0]; exact hI) (fun c => by rw [hS0]; exact hX c)
    ⟨⟨_, HO2, World.ownsRow_nil _ _ _ _, by simp; omega, rfl⟩, Below.refl _ _⟩
    (fun x => { tmps := #[u, .int .i64 (most : Int), undef, .pointer (some ⟨w.heap.size, 0, none⟩), .pointer (some ⟨R, 0, none⟩), .pointer (some ⟨B, 0, none⟩), .int .i64 (x.1 : Int), .int .i64 x.2, .int .i64 (most : Int), .bool false, u, .func (.func 31) #[] lb1, .bool false, u, .func (.func 31) #[] lb, .int .i64 (x.1 : Int), .int .i64 x.2, undef, undef, undef, undef, undef, undef, undef, undef, undef, undef, undef, undef, undef], defers := [] }) ?assign ?body ?done ?stop
  case assign =>
    intro l x W K hK
    have hz : (#[(15 : Nat), 16].zip #[Value.int .i64 (x.1 : Int), .int .i64 x.2]) = #[((15 : Nat), Value.int .i64 (x.1 : Int)), (16, .int .i64 x.2)] := by simp
    simp only [hz, List.foldl_toArray', List.foldl_cons, List.foldl_nil, List.setIfInBounds_toArray, List.set_cons_zero, List.set_cons_succ]
    gi_wp2
    exact hK
  case body =>
    rintro l pre x W ⟨⟨v, hv, hrow, hlm, hnum⟩, hB2⟩ hlt
    have hc := hv.cell
    have hf := hv.frozen
    have hmc : W.cell? ⟨w.heap.size, 0, none⟩ = some (.int .i64 (most : Int)) := (hB2.cell hMB).trans HM2.cell
    have hrc : W.cell? ⟨R, 0, none⟩ = some (.slice none 0 0) := (hB2.cell hRB).trans HR2.cell
    have hrf : W.frozen? ⟨R, 0, none⟩ = false := (hB2.frozen hRB).trans HR2.frozen
    have HWs : Hid (S0 ≤ W.heap.size) := Lib.hid (by rw [hS0]; exact hB2.size)
    have HMB := Lib.hid hMB
    have HBS := Lib.hid hBS
    have HB2' := Lib.hid hB2
    have HNum := Lib.hid hnum
    have hOI : OwnI W S0 v (valV pre) := by unfold OwnI; rw [val_len]; exact hrow
    have Hlm := Lib.hid hlm
    have hMne : w.heap.size ≠ B := Nat.ne_of_lt HMB.out
    have hMne2 : B ≠ w.heap.size := Nat.ne_of_gt HMB.out
    obtain ⟨A, c, rfl⟩ := ownI_slice hOI
    rw [val_len] at *
    obtain ⟨i, y⟩ := x
    clear hB hBe hBe2 hR hRe hS0 hI hX hz2' hMB hBS hs2 hB2
    dsimp only
    have hRx : W.heap[R]? = some (.cells #[.slice none 0 0] 22 (0, 0)) := (HB2'.out.block _ hRB).trans HR2
    have HRx := Lib.hid hRx
    clear hRx hRB
    by_cases hix : i = pre.length
    · subst hix
      have gn : ((pre.length : Int) != (pre.length : Int)) = false := by simp
      have HNx : Hid (numB (pre ++ [(pre.length, y)])) := Lib.hid ((num_step HNum.out _).2 rfl)
      by_cases hm3 : pre.length + 1 = most
      · have gx : (((pre.length + 1 : Nat) : Int) == (most : Int)) = true := by rw [hm3]; simp
        have Hm3 := Lib.hid hm3
        clear hm3 hlm
        gi_wp2_with (gi_at_builtin; refine wpListIn_append_at _ rfl _ _ 22 rfl S0 3 i0 (.int .i64 0) 1 8 Try.underlying22 hi hz0 hz1 hz2 rfl (by decide) _ _ _ rfl (hrow.alloc _) ⟨W.heap.size, 0, none⟩ 1 1 [.int .i64 y] rfl rfl (cell_one_new _ _ _) (by simp [Value.oneCell']) (by unfold maxLen; omega) (by omega) (by have := HWs.out; simp; omega) ?_; intro v' w3 hown' hgrow hat; obtain ⟨g', cap', rfl⟩ := ownsRow_succ hown'; obtain ⟨hv1, hv2, hr2, hk2, hb2, hb3, hkp⟩ := box_append hv hOI HBS.out HWs.out hown' hgrow hat; have hc1 := hv1.cell; have hf1 := hv1.frozen; have hmc1 := (hb3.cell (p := ⟨w.heap.size, 0, none⟩) HMB.out).trans hmc; have HRs := Lib.hid (And.intro hv2 (And.intro hr2 (And.intro hk2 (And.intro hb2 hkp)))); clear hv1 hv2 hr2 hk2 hb2 hb3 hkp hown' hgrow hat)
        have hc2 := HRs.out
        refine ⟨hc2.2.2.1.from _, Or.inl ⟨rfl, by rw [List.length_append, List.length_singleton]; have := Hm3.out; omega, ⟨_, hc2.1, ?_, trivial⟩, HB2'.out.trans hc2.2.2.2.1⟩⟩
        rw [val_step, List.length_append, List.length_singleton, ints_append]
        exact hc2.2.1
      · have gx : (((pre.length + 1 : Nat) : Int) == (most : Int)) = false := by simp; omega
        have Hm3 := Lib.hid hm3
        clear hm3 hlm
        gi_wp2_with (gi_at_builtin; refine wpListIn_append_at _ rfl _ _ 22 rfl S0 3 i0 (.int .i64 0) 1 8 Try.underlying22 hi hz0 hz1 hz2 rfl (by decide) _ _ _ rfl (hrow.alloc _) ⟨W.heap.size, 0, none⟩ 1 1 [.int .i64 y] rfl rfl (cell_one_new _ _ _) (by simp [Value.oneCell']) (by unfold maxLen; omega) (by omega) (by have := HWs.out; simp; omega) ?_; intro v' w3 hown' hgrow hat; obtain ⟨g', cap', rfl⟩ := ownsRow_succ hown'; obtain ⟨hv1, hv2, hr2, hk2, hb2, hb3, hkp⟩ := box_append hv hOI HBS.out HWs.out hown' hgrow hat; have hc1 := hv1.cell; have hf1 := hv1.frozen; have hmc1 := (hb3.cell (p := ⟨w.heap.size, 0, none⟩) HMB.out).trans hmc; have HRs := Lib.hid (And.intro hv2 (And.intro hr2 (And.intro hk2 (And.intro hb2 hkp)))); clear hv1 hv2 hr2 hk2 hb2 hb3 hkp hown' hgrow hat)
        have hc2 := HRs.out
        refine ⟨hc2.2.2.1.from _, hc2.2.2.2.2, ⟨_, hc2.1, ?_, ?_, HNx.out⟩, HB2'.out.trans hc2.2.2.2.1⟩
        · rw [val_step, List.length_append, List.length_singleton, ints_append]
          exact hc2.2.1
        · rw [List.length_append, List.length_singleton]
          have := Hm3.out
          have := Hlm.out
          omega
    · have gn : ((i : Int) != (pre.length : Int)) = true := by simp; omega
      have HX : Hid (¬ numB (pre ++ [(i, y)])) := Lib.hid fun h => hix ((num_step HNum.out _).1 h)
      clear hix hlm
      gi_wp2
      exact ⟨(keeps_set HRx.out _).from _, Or.inr ⟨rfl, HX.out⟩⟩
  case done =>
    rintro D ys W hD rfl ⟨⟨v, hv, hrow, hlm, hnum⟩, hB2⟩ hK
    have hc := hv.cell
    have hrc : W.cell? ⟨R, 0, none⟩ = some (.slice none 0 0) := (hB2.cell hRB).trans HR2.cell
    have hrf : W.frozen? ⟨R, 0, none⟩ = false := (hB2.frozen hRB).trans HR2.frozen
    rw [pairs_val] at hrow
    rw [pairs_len] at hrow hlm
    have HF : Hid (OwnI W S0 v (L.take most)) := Lib.hid (by
      rw [List.take_of_length_le (by omega)]
      exact hrow)
    obtain ⟨A, c, rfl⟩ := ownI_slice HF.out
    obtain ⟨hK2, hbx, hOw, hBl⟩ := end_own HF.out ((hB2.block _ hRB).trans HR2) hK HB2.out hB2 (by omega) hRB hBS hS0 hD
    have HE := Lib.hid (And.intro hK2 (And.intro hbx (And.intro hOw hBl)))
    generalize (L.take most).length = N at *
    clear hrow hlm hnum hB2 hK hv hB hBe hBe2 hR hRe hS0 hI hX hz2' hMB hBS hRB hs2 hK2 hbx hOw hBl HF
    gi_wp2
    refine ⟨by simp, .inl ⟨_, _, rfl, run_takeDeferred HE.out.1, ?_⟩⟩
    exact ⟨_, results_row rfl _ _ R _ _ _ rfl HE.out.2.1, _, rfl, HE.out.2.2.1, HE.out.2.2.2⟩
  case stop =>
    rintro D c pre W hD hp (⟨rfl, hlen, ⟨v, hv, hrow, -⟩, hB2⟩ | ⟨rfl, hn⟩) hK
    · have hc := hv.cell
      have hrc : W.cell? ⟨R, 0, none⟩ = some (.slice none 0 0) := (hB2.cell hRB).trans HR2.cell
      have hrf : W.frozen? ⟨R, 0, none⟩ = false := (hB2.frozen hRB).trans HR2.frozen
      have hpl : pre.length = most := by omega
      have e : valV pre = L.take most := by rw [(pre_of hp).1, hpl]
      rw [e] at hrow
      have HF : Hid (OwnI W S0 v (L.take most)) := Lib.hid (by
        unfold OwnI
        rw [← e, val_len, e]
        exact hrow)
      obtain ⟨A, c, rfl⟩ := ownI_slice HF.out
      obtain ⟨hK2, hbx, hOw, hBl⟩ := end_own HF.out ((hB2.block _ hRB).trans HR2) hK HB2.out hB2 (by omega) hRB hBS hS0 hD
      have HE := Lib.hid (And.intro hK2 (And.intro hbx (And.intro hOw hBl)))
      generalize (L.take most).length = N at *
      clear hrow hlen hB2 hK hv hB hBe hBe2 hR hRe hS0 hI hX hz2' hMB hBS hRB hs2 hK2 hbx hOw hBl HF hp hpl e
      gi_wp2
      refine ⟨by simp, .inl ⟨_, _, rfl, run_takeDeferred HE.out.1, ?_⟩⟩
      exact ⟨_, results_row rfl _ _ R _ _ _ rfl HE.out.2.1, _, rfl, HE.out.2.2.1, HE.out.2.2.2⟩
    · exact absurd (pre_of hp).2 hn
end Go.Proofs.Ytpanhkhiomgclaa.Ba
