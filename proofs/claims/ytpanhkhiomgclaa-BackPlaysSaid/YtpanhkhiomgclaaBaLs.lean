/- Layer 14: the program's Last: it ranges over whatever All tells. -/
import Derived.Test.YtpanhkhiomgclaaBaRa
set_option linter.unusedVariables false
namespace Go.Proofs.Ytpanhkhiomgclaa.Ba
open Go.RowKit Go.Shelf
attribute [local go_sem] Oper.semAt_some

/-- Of things with their numbers those from k on. -/
def selV (k : Int) (pre : List (Nat × Int)) : List Int := (pre.filter fun x => decide (k ≤ (x.1 : Int))).map (·.2)
theorem sel_yes {k : Int} (pre : List (Nat × Int)) (x : Nat × Int) (h : k ≤ (x.1 : Int)) : selV k (pre ++ [x]) = selV k pre ++ [x.2] := by
  unfold selV
  rw [List.filter_append, List.map_append]
  simp [h]
theorem sel_no {k : Int} (pre : List (Nat × Int)) (x : Nat × Int) (h : ¬ k ≤ (x.1 : Int)) : selV k (pre ++ [x]) = selV k pre := by
  unfold selV
  rw [List.filter_append, List.map_append]
  simp [h]
theorem sel_len (k : Int) (pre : List (Nat × Int)) : (selV k pre).length ≤ pre.length := by
  unfold selV
  rw [List.length_map]
  exact List.length_filter_le _ _
theorem sel_take (k : Int) (L : List Int) : ∀ m, m ≤ L.length → selV k ((pairs L).take m) = (L.take m).drop k.toNat
  | 0, _ => by simp [selV]
  | m + 1, h => by
    have ih := sel_take k L m (by omega)
    have hs : L.take (m + 1) = L.take m ++ [L.getD m 0] := by
      rw [List.take_add_one, List.getElem?_eq_getElem (by omega), List.getD_eq_getElem?_getD, List.getElem?_eq_getElem (by omega)]
      rfl
    have hl : (L.take m).length = m := by rw [List.length_take]; omega
    rw [pairs_get L m (by omega)]
    by_cases hk : k ≤ (m : Int)
    · rw [sel_yes _ _ hk, ih, hs, List.drop_append_of_le_length (by omega)]
    · rw [sel_no _ _ hk, ih, List.drop_eq_nil_of_le (by omega), List.drop_eq_nil_of_le (by rw [hs, List.length_append, hl, List.length_singleton]; omega)]
theorem sel_all (L : List Int) (n : Int) (hn : 1 ≤ n) : selV ((L.length : Int) - n) (pairs L) = lastV L n := by
  have h := sel_take ((L.length : Int) - n) L L.length (Nat.le_refl _)
  rw [List.take_of_length_le (by rw [pairs_len]; exact Nat.le_refl _), List.take_of_length_le (Nat.le_refl _)] at h
  rw [h]
  unfold lastV
  congr 1
  omega

/-- What is collected: the box at B, the row in it; the box at F stays. -/
def LsI (w : World) (B F S0 : Nat) (k : Int) (pre : List (Nat × Int)) (W : World) : Prop := (∃ v, Boxed W B 22 v ∧ W.ownsRow S0 3 1 v (selV k pre).length (intsC (selV k pre)) ∧ True) ∧ Below B w W ∧ Boxed W F 3 (.int .i64 k)
theorem box_from (S0 F : Nat) (v : Value) (hF : F < S0) : OwnFrom S0 (fun (_ : List (Nat × Int)) W => Boxed W F 3 v) := fun s W W' row hs hg hr => (hg.block F hs.lt (fun e => by have := (hr F e.symm).1; omega)).trans hs
theorem ls_own (w : World) (B F S0 : Nat) (k : Int) (hB : B ≤ S0) (hF : F < S0) (hw : B ≤ w.heap.size) : OwnFrom S0 (LsI w B F S0 k) :=
  OwnFrom.and (Own.from (holdsRow_own S0 B 22 3 1 (fun pre => (selV k pre).length) (fun pre => intsC (selV k pre)) (fun _ _ => True)) _) (OwnFrom.and (ownFrom_below hw hB) (box_from S0 F _ hF))

theorem foreign_box {W : World} {B F S0 : Nat} {v : Value} {l : List Int} (h1 : B < F) (h2 : F < S0) (hv : Boxed W B 22 v) (ho : OwnI W S0 v l) : ¬ MineA B W F := by
  rintro ⟨u, hu, hk⟩
  have e : u = v := by
    have := (show _ = _ from hu).symm.trans hv
    simpa using this
  subst e
  rcases hk with hk | hk
  · omega
  · have := (ownI_ge ho F hk).1
    omega
set_option maxRecDepth 100000 in
set_option maxHeartbeats 4000000 in
theorem last_run (s : Option Addr) (L : List Int) (n : Int) (hn : IntIn n ∨ L = []) (hL : L.length ≤ 500) (w : World)
    (HLen : ∀ V, Below w.heap.size w V → Calls Try.prog 15 #[.pointer s] V fun e w' => e = .returned (.int .i64 (L.length : Int)) ∧ Below V.heap.size V w')
    (HAll : ∀ V, Below w.heap.size w V → Calls Try.prog 22 #[.pointer s] V (AllTells L V)) :
    Calls Try.prog 18 #[.pointer s, .int .i64 n] w fun e w' => ∃ v, e = .returned v ∧ OwnI w' w.heap.size v (lastV L n) ∧ Below w.heap.size w w' := by
  by_cases hn1 : n < 1
  · have g1 : decide (n < 1) = true := by simpa using hn1
    have hl : lastV L n = [] := by unfold lastV; rw [show L.length - n.toNat = L.length by omega, List.drop_length]
    rw [hl]
    clear HLen HAll hl hn1
    go_enter Try.func18, Try.ntmps18
    go_wp2
    go_ret
    exact ⟨_, rfl, ownI_none _ _, Below.refl _ _⟩
  have g1 : decide (n < 1) = false := by simpa using hn1
  obtain ⟨k, hk⟩ : ∃ k, k = IntKind.i64.wrap ((L.length : Int) - n) := ⟨_, rfl⟩
  have hsel : selV k (pairs L) = lastV L n := by
    rcases hn with hn | rfl
    · rw [hk, IntWalk.i64_in _ (by unfold IntIn at hn; omega)]; exact sel_all L n (by omega)
    · unfold lastV selV pairs; simp
  have z1 : IntKind.i64.wrap ((L.length : Int) - n) = k := hk.symm
  obtain ⟨i0, hi, hz0, hz1, hz2⟩ := info_parts info_int
  have HSel := Lib.hid hsel
  have HL5 := Lib.hid hL
  generalize hq : L.length = q at *
  have HQ := Lib.hid hq
  clear hsel hk hn1 hq
  refine (callsIn_wide (n := 3)).1 ?_
  refine callsIn_of_wp_marks Try.func18 rfl trivial ?_ rfl
  simp only [Try.ntmps18, List.size_toArray, List.length_cons, List.length_nil, Nat.reduceAdd, Nat.reduceSub, Array.replicate_succ, Array.replicate_zero, List.push_toArray, List.append_toArray, List.nil_append, List.cons_append]
  obtain ⟨V0, hV0⟩ : ∃ V0, w.alloc (.cells #[.slice none 0 0] 22) = V0 := ⟨_, rfl⟩
  have HV0 : Hid (Below w.heap.size w V0) := Lib.hid (by rw [← hV0]; exact (Below.refl _ _).alloc (Nat.le_refl _) _)
  have hsz : V0.heap.size = w.heap.size + 1 := by rw [← hV0]; simp
  have HO : Boxed V0 w.heap.size 22 (.slice none 0 0) := by rw [← hV0]; exact Boxed.new w _ _
  have HZ := Lib.hid hsz
  have HE := Lib.hid hV0
  clear hV0 hsz
  gi_wp2
  rw [HE.out]
  clear HE
  refine ⟨trivial, ?_⟩
  refine (callsIn_wide.2 (HLen V0 HV0.out)).mono ?_
  rintro e w1 ⟨rfl, hb1⟩
  have hs1 : w.heap.size + 1 ≤ w1.heap.size := by have := HZ.out; have := hb1.size; omega
  obtain ⟨F, hF⟩ : ∃ F, w1.heap.size = F := ⟨_, rfl⟩
  obtain ⟨V1, hV1⟩ : ∃ V1, w1.alloc (.cells #[.int .i64 k] 3) = V1 := ⟨_, rfl⟩
  have hB1 : Below w.heap.size w w1 := HV0.out.trans (hb1.mono HV0.out.size)
  have HB1 : Hid (Below w.heap.size w V1) := Lib.hid (by rw [← hV1]; exact hB1.alloc (by omega) _)
  have HO1 : Boxed V1 w.heap.size 22 (.slice none 0 0) := by rw [← hV1]; exact Boxed.alloc (show Boxed w1 _ _ _ from (hb1.block _ (by have := HZ.out; omega)).trans HO) _
  have HF1 : Boxed V1 F 3 (.int .i64 k) := by rw [← hV1, ← hF]; exact Boxed.new w1 _ _
  have hz1 : F + 1 = V1.heap.size := by rw [← hV1]; simp [hF]
  have hwF : w.heap.size < F := by omega
  clear hb1 hB1 HO HZ HV0 HLen
  gi_wp2
  try rw [hF]
  clear hF hV1 hs1
  refine ⟨trivial, ?_⟩
  refine (callsIn_wide.2 (HAll V1 HB1.out)).mono ?_
  rintro e w2 ⟨lb, rfl, hb2, hseq⟩
  have HB2 := Lib.hid (HB1.out.trans (hb2.mono HB1.out.size))
  have HO2 : Boxed w2 w.heap.size 22 (.slice none 0 0) := (hb2.block _ (by omega)).trans HO1
  have HF2 : Boxed w2 F 3 (.int .i64 k) := (hb2.block _ (by omega)).trans HF1
  have hz2' : F + 1 ≤ w2.heap.size := by have := hb2.size; omega
  have hs2 := hseq (MineA w.heap.size) (mineA_ok (by omega)) (by
    rintro W hW k ⟨v, hv, hk⟩
    have hb : W.heap[w.heap.size]? = w2.heap[w.heap.size]? := hW.block _ (by omega)
    have e : v = .slice none 0 0 := by
      have := (show _ = _ from hv).symm.trans (hb.trans HO2)
      simpa using this
    subst e
    rcases hk with hk | hk
    · omega
    · simp [Value.ownBlock] at hk)
  clear hb2 HO1 HF1 HB1 hseq hz1 HAll
  gi_wp2
  obtain ⟨S0, hS0⟩ : ∃ S0, S0 = w2.heap.size := ⟨_, rfl⟩
  obtain ⟨B, hB⟩ : ∃ B, B = w.heap.size := ⟨_, rfl⟩
  rw [← hB] at HO2 hs2
  have hBe : w.heap.size = B := hB.symm
  try rw [hBe]
  have hBF : B < F := by omega
  have hFS : F < S0 := by omega
  have hI := ls_own w2 B F S0 k (by omega) hFS (by omega)
  rw [hS0] at hI
  refine wpIn_rangeFunc_ownG rfl (by decide) (gf := 31) (lb := lb) rfl trivial (enters_of Try.func31 (by kernel_rfl) rfl)
    hs2 KpM.trans (fun W l o o' hl h hc _ => KpM.put (mineA_ok (S := w2.heap.size) (by omega)) W l o o' hl h hc) (Below.refl _ _) (fun _ => rfl)
    (LsI w2 B F S0 k) (fun _ _ _ => False) (by rw [hS0]; exact hI) (fun c => fun s A B' row hs _ _ => hs)
    ⟨⟨_, HO2, World.ownsRow_nil _ _ _ _, trivial⟩, Below.refl _ _, HF2⟩
    (fun x => { tmps := #[.pointer s, .int .i64 n, undef, undef, .slice none 0 0, .pointer (some ⟨B, 0, none⟩), .pointer (some ⟨F, 0, none⟩), .int .i64 (x.1 : Int), .int .i64 x.2, .int .i64 n, .bool false, .pointer s, .int .i64 (q : Int), .int .i64 n, .int .i64 k, .pointer s, .func (.func 31) #[] lb, .int .i64 (x.1 : Int), .int .i64 x.2, undef, undef, undef, undef, undef, undef, undef, undef], defers := [] }) ?assign ?body ?done ?stop
  case assign =>
    intro l x W K hK
    have hz : (#[(17 : Nat), 18].zip #[Value.int .i64 (x.1 : Int), .int .i64 x.2]) = #[((17 : Nat), Value.int .i64 (x.1 : Int)), (18, .int .i64 x.2)] := by simp
    simp only [hz, List.foldl_toArray', List.foldl_cons, List.foldl_nil, List.setIfInBounds_toArray, List.set_cons_zero, List.set_cons_succ]
    gi_wp2
    exact hK
  case body =>
    rintro l pre x W ⟨⟨v, hv, hrow, -⟩, hB2, hFx⟩ hlt
    have hc := hv.cell
    have hf := hv.frozen
    have hfc := hFx.cell
    have HWs : Hid (S0 ≤ W.heap.size) := Lib.hid (by rw [hS0]; exact hB2.size)
    have HBF := Lib.hid hBF
    have HFS := Lib.hid hFS
    have hBF2 := hBF
    have hFS2 := hFS
    have HB2' := Lib.hid hB2
    have HFx := Lib.hid hFx
    have hOI : OwnI W S0 v (selV k pre) := hrow
    have hsl : (selV k pre).length ≤ 500 := by have := sel_len k pre; have := HQ.out; have := HL5.out; omega
    obtain ⟨A, c, rfl⟩ := ownI_slice hOI
    obtain ⟨i, y⟩ := x
    clear hB hBe hS0 hI hz2' hBF hFS hs2 hB2 hlt hFx
    dsimp only
    by_cases hix : k ≤ (i : Int)
    · have gn : decide ((i : Int) ≥ k) = true := by simpa using hix
      have HSel2 := Lib.hid (sel_yes pre (i, y) hix)
      gi_wp2_with (gi_at_builtin; refine wpListIn_append_at _ rfl _ _ 22 rfl S0 3 i0 (.int .i64 0) 1 8 Try.underlying22 hi hz0 hz1 hz2 rfl (by decide) _ _ _ rfl (hrow.alloc _) ⟨W.heap.size, 0, none⟩ 1 1 [.int .i64 y] rfl rfl (cell_one_new _ _ _) (by simp [Value.oneCell']) (by unfold maxLen; omega) (by omega) (by have := HWs.out; simp; omega) ?_; intro v' w3 hown' hgrow hat; obtain ⟨g', cap', rfl⟩ := ownsRow_succ hown'; obtain ⟨hv1, hv2, hr2, hk2, hb2, hb3, hkp⟩ := box_append hv hOI (by have := HBF.out; have := HFS.out; omega) HWs.out hown' hgrow hat; have hc1 := hv1.cell; have hf1 := hv1.frozen; have HFy := Lib.hid (hkp.2.1 F _ _ _ HFx.out (foreign_box hBF2 hFS2 hv hOI)); have HRs := Lib.hid (And.intro hv2 (And.intro hr2 (And.intro hk2 (And.intro hb2 hkp)))); clear hv1 hv2 hr2 hk2 hb2 hb3 hkp hown' hgrow hat)
      have hc2 := HRs.out
      refine ⟨hc2.2.2.1.from _, hc2.2.2.2.2, ⟨_, hc2.1, ?_, trivial⟩, HB2'.out.trans hc2.2.2.2.1, HFy.out.trans HFx.out⟩
      rw [HSel2.out, List.length_append, List.length_singleton, ints_append]
      exact hc2.2.1
    · have gn : decide ((i : Int) ≥ k) = false := by simpa using hix
      have HSel2 := Lib.hid (sel_no pre (i, y) hix)
      gi_wp2
      refine ⟨KeepsFrom.refl _ _, ⟨Nat.le_refl _, fun _ _ _ _ _ _ => rfl, fun _ _ h => h⟩, ⟨_, hv, ?_, trivial⟩, HB2'.out, HFx.out⟩
      rw [HSel2.out]
      exact hrow
  case done =>
    rintro D ys W hD rfl ⟨⟨v, hv, hrow, -⟩, hB2, hFx⟩ hK
    have hc := hv.cell
    have HF : Hid (OwnI W S0 v (lastV L n)) := Lib.hid (by rw [← HSel.out]; exact hrow)
    obtain ⟨A, c, rfl⟩ := ownI_slice HF.out
    have hg := grownBy_putObj' W D (.deferred none)
    have HE : Hid (W.heap[D]? = some (.deferred (some [])) ∧ OwnI (W.putObj D (.deferred none)) w.heap.size (.slice A (lastV L n).length c) (lastV L n) ∧ Below w.heap.size w (W.putObj D (.deferred none))) := Lib.hid (by
      exact ⟨hK, ownI_less (ownsRow_putObj HF.out _ hK rfl) (by omega), (HB2.out.trans (hB2.mono (by omega))).trans (belowK_b (w := w2) (by omega) _ D _ _ (by omega) hK rfl rfl)⟩)
    generalize (lastV L n).length = N at *
    clear hrow hFx hB2 hK hB hBe hI hS0 hz2' hBF hFS hs2 HF hg
    gi_wp2
    refine ⟨by simp, .inl ⟨_, _, rfl, run_takeDeferred HE.out.1, ?_⟩⟩
    exact ⟨_, results_tmp (t := 4) rfl _ _ _, _, rfl, HE.out.2.1, HE.out.2.2⟩
  case stop =>
    rintro D c pre W hD hp h hK
    exact absurd h id
end Go.Proofs.Ytpanhkhiomgclaa.Ba
