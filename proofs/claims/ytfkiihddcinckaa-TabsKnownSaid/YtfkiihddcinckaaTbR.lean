/- Layer 12: the law's all: a range over whatever iterator that tells these columns. -/
import Derived.RangeFuncBox
import Derived.RangeFuncLeaves
import Derived.Shelf.Abstract
import Derived.OwnWalkIn
import Derived.TacticsInMore
import Derived.LoopNIn
import Derived.LoopIn
import Derived.Maps.AppendAt
import Derived.Test.YtfkiihddcinckaaTbI
set_option linter.unusedVariables false
namespace Go.Proofs.Ytfkiihddcinckaa.Tb
open Go.RowKit Go.Shelf
attribute [local go_sem] Oper.semAt_some

/-- What a round of the law's loop keeps: all blocks ahead of the loop but its own box, and all cells that are no numbers and no lists of them. -/
def KpB (S0 B : Nat) (W W' : World) : Prop := W.heap.size ≤ W'.heap.size ∧ (∀ k : Nat, k < S0 → k ≠ B → W'.heap[k]? = W.heap[k]?) ∧ ∀ (k : Nat) (cs : Array Value) (t : TypeId) (fr : Nat × Nat), W.heap[k]? = some (Obj.cells cs t fr) → t ≠ 26 → t ≠ 3 → W'.heap[k]? = W.heap[k]?
theorem KpB.trans {S0 B : Nat} {X Y Z : World} (h : KpB S0 B X Y) (k : KpB S0 B Y Z) : KpB S0 B X Z :=
  ⟨Nat.le_trans h.1 k.1, fun i hi hb => (k.2.1 i hi hb).trans (h.2.1 i hi hb), fun i cs t fr hc h1 h2 => (k.2.2 i cs t fr ((h.2.2 i cs t fr hc h1 h2).trans hc) h1 h2).trans (h.2.2 i cs t fr hc h1 h2)⟩
theorem KpB.put {S0 B : Nat} (W : World) (l : Nat) (o o' : Obj) (hl : S0 ≤ l) (h : W.heap[l]? = some o) (hc : o.isCells = false) : KpB S0 B W (W.putObj l o') := by
  have hg := grownBy_putObj' W l o'
  refine ⟨hg.size, fun k hk _ => hg.block k (Nat.lt_of_lt_of_le (Nat.lt_of_lt_of_le hk hl) (Nat.le_of_lt (blk_lt h))) (fun e => by cases e; omega), fun k cs t fr hk _ _ => hg.block k (blk_lt hk) (fun e => ?_)⟩
  cases e
  rw [h] at hk
  cases hk
  simp [Obj.isCells] at hc
theorem KpB.refl (S0 B : Nat) (W : World) : KpB S0 B W W := ⟨Nat.le_refl _, fun _ _ _ => rfl, fun _ _ _ _ _ _ _ => rfl⟩
/-- A round: a number is made, put behind a row of the loop's own, and that into its box. -/
theorem KpB.round {S0 B : Nat} {W w1 : World} {v v' : Value} {l : List Nat} {o : Obj} (hv : Boxed W B 26 v) (hr : OwnI W S0 v l) (hS : S0 ≤ W.heap.size) (hg : (W.alloc o).grownBy w1 v.ownBlock) : KpB S0 B W (w1.setCell ⟨B, 0, none⟩ v') := by
  have hs : (W.alloc o).heap.size = W.heap.size + 1 := by simp
  have hal : ∀ k, k < W.heap.size → (W.alloc o).heap[k]? = W.heap[k]? := fun k hk => Below.heap_alloc W o k hk
  refine ⟨?_, fun k hk hb => ?_, fun k cs t fr hk h1 h2 => ?_⟩
  · have := hg.size
    simp only [World.size_setCell]
    omega
  · rw [Below.heap_setCell _ _ _ _ hb]
    exact (hg.block k (by omega) (fun e => by have := (ownI_ge hr k e.symm).1; omega)).trans (hal k (by omega))
  · have hkl := blk_lt hk
    have hb : k ≠ B := fun e => by
      rw [e, hv] at hk
      cases hk
      exact h1 rfl
    rw [Below.heap_setCell _ _ _ _ hb]
    refine (hg.block k (by omega) (fun e => ?_)).trans (hal k hkl)
    obtain ⟨_, _, cur, hc⟩ := ownI_ge hr k e.symm
    rw [hc] at hk
    cases hk
    exact h2 rfl

theorem box_append {S0 B m : Nat} {W w1 : World} {v v' : Value} {l : List Nat} {ys : List Value} {o : Obj} (hv : Boxed W B 26 v) (hr : OwnI W S0 v l) (hBS : B < S0) (hS : S0 ≤ W.heap.size) (hr' : w1.ownsRow S0 3 1 v' m ys) (hg : (W.alloc o).grownBy w1 v.ownBlock) :
    Boxed w1 B 26 v ∧ Boxed (w1.setCell ⟨B, 0, none⟩ v') B 26 v' ∧ (w1.setCell ⟨B, 0, none⟩ v').ownsRow S0 3 1 v' m ys ∧ KeepsOthers W (w1.setCell ⟨B, 0, none⟩ v') ∧ Below B W (w1.setCell ⟨B, 0, none⟩ v') ∧ Below B W w1 := by
  have hs : (W.alloc o).heap.size = W.heap.size + 1 := by simp
  have hal : ∀ k, k < W.heap.size → (W.alloc o).heap[k]? = W.heap[k]? := fun k hk => Below.heap_alloc W o k hk
  have hge : ∀ g, v.ownBlock = some g → S0 ≤ g := fun g h => (ownI_ge hr g h).1
  have h1 : Boxed w1 B 26 v := (hg.block B (by omega) (fun e => by have := hge B e.symm; omega)).trans ((hal B (by omega)).trans hv)
  have hbw : Below B W w1 := (((Below.refl B W).alloc (by omega) o).grown hg (by omega) (fun k e => by have := hge k e; omega))
  refine ⟨h1, h1.set v', ⟨hr'.1, ?_⟩, ⟨?_, fun k ob hk hc => ?_⟩, hbw.setCell (p := ⟨B, 0, none⟩) (Nat.le_refl _) v', hbw⟩
  · rcases hr'.2 with h0 | ⟨g, cap, cur, rfl, a1, a2, a3⟩
    · exact Or.inl h0
    · exact Or.inr ⟨g, cap, cur, rfl, a1, (Below.heap_setCell _ _ _ _ (show g ≠ B by omega)).trans a2, a3⟩
  · have := hg.size
    simp only [World.size_setCell]
    omega
  · have hkl := blk_lt hk
    have hb : k ≠ B := fun e => by
      rw [e, hv] at hk
      cases hk
      simp [Obj.isCells] at hc
    rw [Below.heap_setCell _ _ _ _ hb]
    refine ((hg.block k (by omega) (fun e => ?_)).trans (hal k hkl)).trans hk
    obtain ⟨_, _, cur, hcc⟩ := ownI_ge hr k e.symm
    rw [hcc] at hk
    cases hk
    simp [Obj.isCells] at hc

/-- What All answers, of stops that are these columns: a function that hands them to whatever body, in order. -/
def AllRes (b0 : Nat) (L : List Nat) (V : World) (e : Ending) (w' : World) : Prop := ∃ lb, e = .returned (.func (.func 45) #[] lb) ∧ Below V.heap.size V w' ∧
  ∀ B, b0 ≤ B → B < V.heap.size → SeqStopsK Fence.wide 2 Try.prog 45 lb (fun x : Nat => #[Value.int .i64 (x : Int)]) (KpB w'.heap.size B) (fun ys => ys = L) (fun pre => pre <+: L) L.length w'

def OutI (w : World) (M B S0 : Nat) (most : Int) (pre : List Nat) (W : World) : Prop := (∃ v, Boxed W B 26 v ∧ W.ownsRow S0 3 1 v pre.length (intsC pre) ∧ (pre.length : Int) < most) ∧ Below B w W
theorem out_own (w : World) (M B S0 : Nat) (most : Int) (hB : B ≤ S0) (hw : B ≤ w.heap.size) : OwnFrom S0 (OutI w M B S0 most) :=
  OwnFrom.and (Own.from (holdsRow_own S0 B 26 3 1 (fun pre => pre.length) (fun pre => intsC pre) (fun pre v => (pre.length : Int) < most)) _) (ownFrom_below hw hB)

set_option maxRecDepth 100000 in
set_option maxHeartbeats 4000000 in
theorem all_any (u : Value) (L : List Nat) (most : Nat) (w : World) (hL : L.length ≤ 100000) (hm : 1 ≤ most) (hm2 : most ≤ 100000) (b0 : Nat) (hb0 : b0 ≤ w.heap.size + 1)
    (HAll : ∀ V, Below w.heap.size w V → Calls Try.prog 42 #[u] V (AllRes b0 L V)) :
    Calls Try.prog 20 #[u, .int .i64 (most : Int)] w fun e w' => ∃ v, e = .returned v ∧ OwnI w' w.heap.size v (L.take most) ∧ Below w.heap.size w w' := by
  obtain ⟨i0, hi, hz0, hz1, hz2⟩ := info_parts info_int
  refine (callsIn_wide (n := 3)).1 ?_
  refine callsIn_of_wp_marks Try.func20 rfl trivial ?_ rfl
  simp only [Try.ntmps20, List.size_toArray, List.length_cons, List.length_nil, Nat.reduceAdd, Nat.reduceSub, Array.replicate_succ, Array.replicate_zero, List.push_toArray, List.append_toArray, List.nil_append, List.cons_append]
  have g1 : decide ((most : Int) < 1) = false := by simp; omega
  have hq : ∀ (lb : Array Value) (W : World), (binOp .eql 66 (.func (.func 45) #[] lb) .nilFunc).run Try.prog W = .ok (.bool false) W := fun lb W => by rfl
  have HV0 : Hid (Below w.heap.size w ((w.alloc (.cells #[.int .i64 (most : Int)] 3)).alloc (.cells #[.slice none 0 0] 26))) := Lib.hid (((Below.refl _ _).alloc (Nat.le_refl _) _).alloc (by simp) _)
  have HM := Boxed.new w 3 (.int .i64 (most : Int))
  have HO := Boxed.new (w.alloc (.cells #[.int .i64 (most : Int)] 3)) 26 (.slice none 0 0)
  rw [World.size_alloc] at HO
  replace HM := HM.alloc (.cells #[.slice none 0 0] 26)
  have HZ : Hid (w.heap.size + 1 + 1 = ((w.alloc (.cells #[.int .i64 (most : Int)] 3)).alloc (.cells #[.slice none 0 0] 26)).heap.size) := Lib.hid (by simp)
  gi_wp2
  generalize (w.alloc (.cells #[.int .i64 (most : Int)] 3)).alloc (.cells #[.slice none 0 0] 26) = V0 at HV0 HM HO HZ ⊢
  refine ⟨trivial, ?_⟩
  refine (callsIn_wide.2 (HAll V0 HV0.out)).mono ?_
  rintro e w1 ⟨lb1, rfl, hb1, -⟩
  have HB1 := Lib.hid (HV0.out.trans (hb1.mono HV0.out.size))
  have HM1 : Boxed w1 w.heap.size 3 (.int .i64 (most : Int)) := (hb1.block _ (by have := HZ.out; omega)).trans HM
  have HO1 : Boxed w1 (w.heap.size + 1) 26 (.slice none 0 0) := (hb1.block _ (by have := HZ.out; omega)).trans HO
  have hz1 : w.heap.size + 1 + 1 ≤ w1.heap.size := by have := HZ.out; have := hb1.size; omega
  clear hb1 HM HO HZ HV0
  gi_wp2
  refine ⟨trivial, ?_⟩
  refine (callsIn_wide.2 (HAll w1 HB1.out)).mono ?_
  rintro e w2 ⟨lb, rfl, hb2, hseq⟩
  have HB2 := Lib.hid (HB1.out.trans (hb2.mono HB1.out.size))
  have HM2 : Boxed w2 w.heap.size 3 (.int .i64 (most : Int)) := (hb2.block _ (by omega)).trans HM1
  have HO2 : Boxed w2 (w.heap.size + 1) 26 (.slice none 0 0) := (hb2.block _ (by omega)).trans HO1
  have hs2 := hseq (w.heap.size + 1) hb0 (by omega)
  have hz2' : w.heap.size + 1 + 1 ≤ w2.heap.size := by have := hb2.size; omega
  clear hb2 HM1 HO1 HB1 hseq hz1
  gi_wp2
  obtain ⟨S0, hS0⟩ : ∃ S0, S0 = w2.heap.size := ⟨_, rfl⟩
  obtain ⟨B, hB⟩ : ∃ B, B = w.heap.size + 1 := ⟨_, rfl⟩
  have hBe : w.heap.size + 1 = B := hB.symm
  rw [hBe] at HO2 hs2 ⊢
  rw [← hS0] at hs2
  have hBS : B < S0 := by omega
  have hMB : w.heap.size < B := by omega
  have hI := out_own w2 w.heap.size B S0 (most : Int) (Nat.le_of_lt hBS) (by omega)
  refine wpIn_rangeFunc_ownG rfl (by decide) (gf := 45) (lb := lb) rfl trivial (enters_of Try.func45 (by kernel_rfl) rfl)
    hs2 KpB.trans (fun W l o o' hl h hc _ => KpB.put W l o o' (by omega) h hc) (Below.refl _ _) (fun _ => rfl)
    (OutI w2 w.heap.size B S0 (most : Int))
    (fun c pre W => c = .exit 0 ∧ (pre.length : Int) = most ∧ (∃ v, Boxed W B 26 v ∧ W.ownsRow S0 3 1 v pre.length (intsC pre) ∧ True) ∧ Below B w2 W)
    (by rw [← hS0]; exact hI)
    (fun c s A B' row hs hg hr => by
      rw [← hS0] at hr
      refine ⟨hs.1, hs.2.1, ?_⟩
      exact OwnFrom.and (Own.from (holdsRow_own S0 B 26 3 1 (fun pre => pre.length) (fun pre => intsC pre) (fun pre v => True)) S0) (ownFrom_below (by omega) (Nat.le_of_lt hBS)) s A B' row hs.2.2 hg hr)
    ⟨⟨_, HO2, World.ownsRow_nil _ _ _ _, by simp; omega⟩, Below.refl _ _⟩
    (fun x => { tmps := #[u, .int .i64 (most : Int), undef, .pointer (some ⟨w.heap.size, 0, none⟩), .slice none 0 0, .pointer (some ⟨B, 0, none⟩), .int .i64 (x : Int), .int .i64 (most : Int), .bool false, u, .func (.func 45) #[] lb1, .bool false, u, .func (.func 45) #[] lb, .int .i64 (x : Int), undef, undef, undef, undef, undef, undef, undef, undef, undef], defers := [] }) ?assign ?body ?done ?stop
  case assign =>
    intro l x W K hK
    have hz : (#[(14 : Nat)].zip #[Value.int .i64 (x : Int)]) = #[((14 : Nat), Value.int .i64 (x : Int))] := by simp
    simp only [hz, List.foldl_toArray', List.foldl_cons, List.foldl_nil, List.setIfInBounds_toArray, List.set_cons_zero, List.set_cons_succ]
    gi_wp2
    exact hK
  case body =>
    rintro l pre x W ⟨⟨v, hv, hrow, hlm⟩, hB2⟩ hlt
    have hc := hv.cell
    have hf := hv.frozen
    have hmc : W.cell? ⟨w.heap.size, 0, none⟩ = some (.int .i64 (most : Int)) := (hB2.cell hMB).trans HM2.cell
    have HWs : Hid (S0 ≤ W.heap.size) := Lib.hid (by rw [hS0]; exact hB2.size)
    have HMB := Lib.hid hMB
    have HBS := Lib.hid hBS
    have HB2' := Lib.hid hB2
    clear hB hBe hS0 hI hz2' hMB hBS hs2 hB2
    have hOI : OwnI W S0 v pre := hrow
    have Hlm := Lib.hid hlm
    have hMne : w.heap.size ≠ B := Nat.ne_of_lt HMB.out
    have hMne2 : B ≠ w.heap.size := Nat.ne_of_gt HMB.out
    by_cases hm3 : pre.length + 1 = most
    · have gx : (((pre.length + 1 : Nat) : Int) == (most : Int)) = true := by rw [hm3]; simp
      have Hm3 := Lib.hid hm3
      clear hm3 hlm
      gi_wp2_with (gi_at_builtin; refine wpListIn_append_own _ rfl _ _ 26 rfl S0 3 i0 (.int .i64 0) 1 8 Try.underlying26 hi hz0 hz1 hz2 rfl (by decide) _ _ _ rfl (hrow.alloc _) ⟨W.heap.size, 0, none⟩ 1 1 [.int .i64 (x : Int)] rfl rfl (cell_one_new _ _ _) (by simp [Value.oneCell']) (by unfold maxLen; omega) (by omega) (by have := HWs.out; simp; omega) ?_; intro v' w3 hown' hgrow _; obtain ⟨g', cap', rfl⟩ := ownsRow_succ hown'; obtain ⟨hv1, hv2, hr2, hk2, hb2, hb3⟩ := box_append hv hOI HBS.out HWs.out hown' hgrow; have hc1 := hv1.cell; have hf1 := hv1.frozen; have hmc1 := (hb3.cell (p := ⟨w.heap.size, 0, none⟩) HMB.out).trans hmc; have HRs := Lib.hid (And.intro hv2 (And.intro hr2 (And.intro hk2 (And.intro hb2 (KpB.round (v' := .slice (some ⟨g', 0, none⟩) (pre.length + 1) cap') hv hOI HWs.out hgrow))))); clear hv1 hv2 hr2 hk2 hb2 hb3 hown' hgrow)
      have hc2 := HRs.out
      refine ⟨hc2.2.2.1.from _, rfl, by rw [List.length_append, List.length_singleton]; have := Hm3.out; omega, ⟨_, hc2.1, ?_, trivial⟩, HB2'.out.trans hc2.2.2.2.1⟩
      rw [List.length_append, List.length_singleton, ints_append]
      exact hc2.2.1
    · have gx : (((pre.length + 1 : Nat) : Int) == (most : Int)) = false := by simp; omega
      have Hm3 := Lib.hid hm3
      clear hm3 hlm
      gi_wp2_with (gi_at_builtin; refine wpListIn_append_own _ rfl _ _ 26 rfl S0 3 i0 (.int .i64 0) 1 8 Try.underlying26 hi hz0 hz1 hz2 rfl (by decide) _ _ _ rfl (hrow.alloc _) ⟨W.heap.size, 0, none⟩ 1 1 [.int .i64 (x : Int)] rfl rfl (cell_one_new _ _ _) (by simp [Value.oneCell']) (by unfold maxLen; omega) (by omega) (by have := HWs.out; simp; omega) ?_; intro v' w3 hown' hgrow _; obtain ⟨g', cap', rfl⟩ := ownsRow_succ hown'; obtain ⟨hv1, hv2, hr2, hk2, hb2, hb3⟩ := box_append hv hOI HBS.out HWs.out hown' hgrow; have hc1 := hv1.cell; have hf1 := hv1.frozen; have hmc1 := (hb3.cell (p := ⟨w.heap.size, 0, none⟩) HMB.out).trans hmc; have HRs := Lib.hid (And.intro hv2 (And.intro hr2 (And.intro hk2 (And.intro hb2 (KpB.round (v' := .slice (some ⟨g', 0, none⟩) (pre.length + 1) cap') hv hOI HWs.out hgrow))))); clear hv1 hv2 hr2 hk2 hb2 hb3 hown' hgrow)
      have hc2 := HRs.out
      refine ⟨hc2.2.2.1.from _, hc2.2.2.2.2, ⟨_, hc2.1, ?_, ?_⟩, HB2'.out.trans hc2.2.2.2.1⟩
      · rw [List.length_append, List.length_singleton, ints_append]
        exact hc2.2.1
      · rw [List.length_append, List.length_singleton]
        have := Hm3.out
        have := Hlm.out
        omega
  case done =>
    rintro D ys W hD rfl ⟨⟨v, hv, hrow, hlm⟩, hB2⟩ hK
    have hc := hv.cell
    have HF : Hid (OwnI (W.putObj D (.deferred none)) w.heap.size v (ys.take most)) := Lib.hid (by
      rw [List.take_of_length_le (by omega)]
      exact ownI_less (ownsRow_putObj hrow _ hK rfl) (by omega))
    have HG : Hid (Below w.heap.size w (W.putObj D (.deferred none))) := Lib.hid (HB2.out.trans ((hB2.mono (Nat.le_of_lt hMB)).trans (belowK_b (w := w2) (by omega) W D _ _ (by omega) hK rfl rfl)))
    have HK := Lib.hid hK
    clear hB hBe hS0 hI hz2' hMB hBS hs2 hrow hlm hB2 hK
    gi_wp2
    refine ⟨by simp, .inl ⟨_, _, rfl, run_takeDeferred HK.out, ?_⟩⟩
    exact ⟨_, results_tmp rfl _ _ _, v, rfl, HF.out, HG.out⟩
  case stop =>
    rintro D c pre W hD hp ⟨rfl, hlen, ⟨v, hv, hrow, -⟩, hB2⟩ hK
    have hc := hv.cell
    have HF : Hid (OwnI (W.putObj D (.deferred none)) w.heap.size v (L.take most)) := Lib.hid (by
      have e : L.take most = pre := by
        obtain ⟨t, rfl⟩ := hp
        exact List.take_left' (by omega)
      rw [e]
      exact ownI_less (ownsRow_putObj hrow _ hK rfl) (by omega))
    have HG : Hid (Below w.heap.size w (W.putObj D (.deferred none))) := Lib.hid (HB2.out.trans ((hB2.mono (Nat.le_of_lt hMB)).trans (belowK_b (w := w2) (by omega) W D _ _ (by omega) hK rfl rfl)))
    have HK := Lib.hid hK
    clear hB hBe hS0 hI hz2' hMB hBS hs2 hrow hlen hB2 hK hp
    gi_wp2
    refine ⟨by simp, .inl ⟨_, _, rfl, run_takeDeferred HK.out, ?_⟩⟩
    exact ⟨_, results_tmp rfl _ _ _, v, rfl, HF.out, HG.out⟩
end Go.Proofs.Ytfkiihddcinckaa.Tb
