/- Layer 12: the program's Prev: a range over whatever iterator that tells these columns, rising. -/
import Derived.Test.YtfkiihddcinckaaTbPj
set_option linter.unusedVariables false
namespace Go.Proofs.Ytfkiihddcinckaa.Tb
open Go.RowKit Go.Shelf
attribute [local go_sem] Oper.semAt_some

def underL (x : Int) (l : List Nat) : List Nat := l.filter fun k : Nat => decide ((k : Int) < x)
theorem under_all {x : Int} {l : List Nat} (h : ∀ k ∈ l, (k : Int) < x) : underL x l = l := by
  unfold underL
  rw [List.filter_eq_self]
  intro k hk
  simpa using h k hk
theorem under_cut {x : Int} {q t : List Nat} {k : Nat} (hs : (q ++ [k] ++ t).Pairwise (· < ·)) (h : ∀ j ∈ q, (j : Int) < x) (hk : ¬ (k : Int) < x) : underL x (q ++ [k] ++ t) = q := by
  have hu := under_all h
  unfold underL at hu ⊢
  rw [List.append_assoc, List.filter_append, hu]
  have : ([k] ++ t).filter (fun k : Nat => decide ((k : Int) < x)) = [] := by
    refine List.filter_eq_nil_iff.2 fun a ha => ?_
    have hp := (List.pairwise_append.1 (List.append_assoc q [k] t ▸ hs)).2.1
    have ha' : k ≤ a := by
      rcases List.mem_append.1 ha with h1 | h1
      · have := List.mem_singleton.1 h1
        omega
      · have := (List.pairwise_append.1 hp).2.2 k (by simp) a h1
        omega
    simp
    omega
  rw [this, List.append_nil]
theorem under_rev (x : Int) (l : List Nat) (j : Nat) : (l.reverse.filter fun k : Nat => decide ((k : Int) < x)).getD j 0 = if j < (underL x l).length then (underL x l).getD ((underL x l).length - 1 - j) 0 else 0 := by
  rw [List.filter_reverse]
  change (underL x l).reverse.getD j 0 = _
  by_cases h : j < (underL x l).length
  · rw [if_pos h, List.getD_eq_getElem?_getD, List.getElem?_reverse h, List.getD_eq_getElem?_getD]
  · rw [if_neg h, List.getD_eq_getElem?_getD, List.getElem?_eq_none (by rw [List.length_reverse]; omega)]
    rfl

/-- Between two rounds: all that have come stand below x. -/
def PrevI (w : World) (x : Int) (M B S0 : Nat) (pre : List Nat) (W : World) : Prop := (∃ v, Boxed W B 26 v ∧ W.ownsRow S0 3 1 v pre.length (intsC pre) ∧ ∀ j ∈ pre, (j : Int) < x) ∧ Below B w W
def PrevX (w : World) (x : Int) (M B S0 : Nat) (c : Code) (pre : List Nat) (W : World) : Prop := c = .exit 0 ∧ ∃ (q : List Nat) (k : Nat), pre = q ++ [k] ∧ ¬ (k : Int) < x ∧ PrevI w x M B S0 q W
theorem prevI_own (w : World) (x : Int) (M B S0 : Nat) (hB : B ≤ S0) (hw : B ≤ w.heap.size) : OwnFrom S0 (PrevI w x M B S0) :=
  OwnFrom.and (Own.from (holdsRow_own S0 B 26 3 1 (fun pre => pre.length) (fun pre => intsC pre) (fun pre v => ∀ j ∈ pre, (j : Int) < x)) _) (ownFrom_below hw hB)
theorem prevX_own (w : World) (x : Int) (M B S0 : Nat) (hB : B ≤ S0) (hw : B ≤ w.heap.size) (c : Code) : OwnFrom S0 (PrevX w x M B S0 c) := by
  intro pre A A' row hs hg hr
  obtain ⟨h1, q, k, h2, h3, h4⟩ := hs
  exact ⟨h1, q, k, h2, h3, prevI_own w x M B S0 hB hw q A A' row h4 hg hr⟩

set_option maxRecDepth 100000 in
set_option maxHeartbeats 8000000 in
theorem prev_tells (s : Value) (L : List Nat) (x n : Int) (w : World) (hL : L.length ≤ 100000) (hs : L.Pairwise (· < ·)) (hx : IntIn x) (hn : IntIn n)
    (hall : ∀ V, Below w.heap.size w V → Calls Try.prog 42 #[s] V (AllTells L V)) :
    Calls Try.prog 23 #[s, .int .i64 x, .int .i64 n] w fun e w' => e = .returned (.int .i64 ((L.reverse.filter fun k : Nat => decide ((k : Int) < x)).getD (nthV n) 0 : Nat)) ∧ Below w.heap.size w w' := by
  obtain ⟨i0, hi, hz0, hz1, hz2⟩ := info_parts info_int
  obtain ⟨nn, enn, hn1, kn⟩ := some_is n
  have EN := Lib.hid enn
  have KN : Hid (∀ V, Calls Try.prog 43 #[.int .i64 n] V fun e w' => e = .returned (.int .i64 nn) ∧ w' = V) := Lib.hid fun V => (kn V).mono fun e w' h => ⟨h.1, h.2.symm⟩
  have HA := Lib.hid hall
  have HSs := Lib.hid hs
  clear enn kn hall hs
  refine (callsIn_wide (n := 3)).1 ?_
  refine callsIn_of_wp_marks Try.func23 rfl trivial ?_ rfl
  simp only [Try.ntmps23, List.size_toArray, List.length_cons, List.length_nil, Nat.reduceAdd, Nat.reduceSub, Array.replicate_succ, Array.replicate_zero, List.push_toArray, List.append_toArray, List.nil_append, List.cons_append]
  have HX := (Boxed.new w 3 (.int .i64 x)).alloc (.cells #[.slice none 0 0] 26)
  have HO := Boxed.new (w.alloc (.cells #[.int .i64 x] 3)) 26 (.slice none 0 0)
  have HB0 : Below w.heap.size w ((w.alloc (.cells #[.int .i64 x] 3)).alloc (.cells #[.slice none 0 0] 26)) := ((Below.refl _ w).alloc (Nat.le_refl _) _).alloc (by simp) _
  have hz : ((w.alloc (.cells #[.int .i64 x] 3)).alloc (.cells #[.slice none 0 0] 26)).heap.size = w.heap.size + 1 + 1 := by simp
  simp only [World.size_alloc] at HO
  have HZ := Lib.hid hz
  have HB := Lib.hid HB0
  clear hz HB0
  gi_wp2
  generalize (w.alloc (.cells #[.int .i64 x] 3)).alloc (.cells #[.slice none 0 0] 26) = V0 at HX HO HZ HB ⊢
  refine ⟨trivial, ?_⟩
  refine (callsIn_wide.2 (HA.out V0 HB.out)).mono ?_
  rintro e w2 ⟨lb, rfl, hb2, hseq⟩
  have HB2 := Lib.hid (HB.out.trans (hb2.mono HB.out.size))
  have HX2 : Boxed w2 w.heap.size 3 (.int .i64 x) := (hb2.block _ (by have := HZ.out; omega)).trans HX
  have HO2 : Boxed w2 (w.heap.size + 1) 26 (.slice none 0 0) := (hb2.block _ (by have := HZ.out; omega)).trans HO
  have hz2' : w.heap.size + 1 + 1 ≤ w2.heap.size := by have := hb2.size; have := HZ.out; omega
  obtain ⟨S0, hS0⟩ : ∃ S0, S0 = w2.heap.size := ⟨_, rfl⟩
  obtain ⟨B, hB⟩ : ∃ B, B = w.heap.size + 1 := ⟨_, rfl⟩
  have hs2 := hseq (KpB w2.heap.size B)
  clear hb2 HX HO HB HZ hseq
  gi_wp2
  have hBe : w.heap.size + 1 = B := hB.symm
  rw [hBe] at HO2 ⊢
  rw [← hS0] at hs2
  have hBS : B < S0 := by omega
  have hMB : w.heap.size < B := by omega
  have hI := prevI_own w2 x w.heap.size B S0 (Nat.le_of_lt hBS) (by omega)
  have hXo := prevX_own w2 x w.heap.size B S0 (Nat.le_of_lt hBS) (by omega)
  refine wpIn_rangeFunc_ownG rfl (by decide) (gf := 45) (lb := lb) rfl trivial (enters_of Try.func45 (by kernel_rfl) rfl)
    hs2 KpB.trans (fun W l o o' hl h hc _ => KpB.put W l o o' (by omega) h hc) (Below.refl _ _) (fun _ => rfl)
    (PrevI w2 x w.heap.size B S0) (PrevX w2 x w.heap.size B S0) (by rw [← hS0]; exact hI) (by rw [← hS0]; exact hXo)
    ⟨⟨_, HO2, World.ownsRow_nil _ _ _ _, by simp⟩, Below.refl _ _⟩
    (fun k => { tmps := #[s, .int .i64 x, .int .i64 n, undef, .pointer (some ⟨w.heap.size, 0, none⟩), undef, .int .i64 0, .pointer (some ⟨B, 0, none⟩), .int .i64 (k : Int), s, .func (.func 45) #[] lb, .int .i64 (k : Int), undef, undef, undef, undef, undef, undef, undef, undef, undef, undef, undef, undef, undef, undef, undef, undef, undef, undef, undef, undef], defers := [] }) ?assign ?body ?done ?stop
  case assign =>
    intro l k W K hK
    have hz : (#[(11 : Nat)].zip #[Value.int .i64 (k : Int)]) = #[((11 : Nat), Value.int .i64 (k : Int))] := by simp
    simp only [hz, List.foldl_toArray', List.foldl_cons, List.foldl_nil, List.setIfInBounds_toArray, List.set_cons_zero, List.set_cons_succ]
    gi_wp2
    exact hK
  case body =>
    rintro l pre k W ⟨⟨v, hv, hrow, hlm⟩, hB2⟩ hlt
    have hc := hv.cell
    have hf := hv.frozen
    have hmc : W.cell? ⟨w.heap.size, 0, none⟩ = some (.int .i64 x) := (hB2.cell hMB).trans HX2.cell
    have HWs : Hid (S0 ≤ W.heap.size) := Lib.hid (by rw [hS0]; exact hB2.size)
    have HMB := Lib.hid hMB
    have HBS := Lib.hid hBS
    have HB2' := Lib.hid hB2
    have hOI : OwnI W S0 v pre := hrow
    have Hlm := Lib.hid hlm
    have hMne : w.heap.size ≠ B := Nat.ne_of_lt HMB.out
    have hMne2 : B ≠ w.heap.size := Nat.ne_of_gt HMB.out
    clear hB hBe hS0 hI hXo hz2' hMB hBS hs2 hB2 hlm
    by_cases hk : (k : Int) < x
    · have g1 : decide ((k : Int) ≥ x) = false := by simp; omega
      have HK := Lib.hid hk
      clear hk
      gi_wp2_with (gi_at_builtin; refine wpListIn_append_own _ rfl _ _ 26 rfl S0 3 i0 (.int .i64 0) 1 8 Try.underlying26 hi hz0 hz1 hz2 rfl (by decide) _ _ _ rfl (hrow.alloc _) ⟨W.heap.size, 0, none⟩ 1 1 [.int .i64 (k : Int)] rfl rfl (cell_one_new _ _ _) (by simp [Value.oneCell']) (by unfold maxLen; omega) (by omega) (by have := HWs.out; simp; omega) ?_; intro v' w3 hown' hgrow _; obtain ⟨g', cap', rfl⟩ := ownsRow_succ hown'; obtain ⟨hv1, hv2, hr2, hk2, hb2, hb3⟩ := box_append hv hOI HBS.out HWs.out hown' hgrow; have hc1 := hv1.cell; have hf1 := hv1.frozen; have HRs := Lib.hid (And.intro hv2 (And.intro hr2 (And.intro hk2 (And.intro hb2 (KpB.round (v' := .slice (some ⟨g', 0, none⟩) (pre.length + 1) cap') hv hOI HWs.out hgrow))))); clear hv1 hv2 hr2 hk2 hb2 hb3 hown' hgrow)
      have hc2 := HRs.out
      refine ⟨hc2.2.2.1.from _, hc2.2.2.2.2, ⟨_, hc2.1, ?_, ?_⟩, HB2'.out.trans hc2.2.2.2.1⟩
      · rw [List.length_append, List.length_singleton, ints_append]
        exact hc2.2.1
      · intro j hj
        rcases List.mem_append.1 hj with h1 | h1
        · exact Hlm.out j h1
        · rw [List.mem_singleton.1 h1]
          exact HK.out
    · have g1 : decide ((k : Int) ≥ x) = true := by simp; omega
      have HK := Lib.hid hk
      clear hk
      gi_wp2
      exact ⟨(KeepsOthers.refl _).from _, rfl, pre, k, rfl, by have := HK.out; omega, ⟨v, hv, hrow, Hlm.out⟩, HB2'.out⟩
  case done =>
    rintro D ys W hD rfl ⟨⟨v, hv, hrow, hlm⟩, hB2⟩ hK
    have hPe : ys = underL x ys := (under_all hlm).symm
    gi_wp2
    have HE : Hid ((ys.reverse.filter fun k : Nat => decide ((k : Int) < x)).getD (nthV n) 0 = if nthV n < ys.length then ys.getD (ys.length - 1 - nthV n) 0 else 0) := Lib.hid (by rw [under_rev, ← hPe])
    obtain ⟨A, cp, rfl, -, hcp, hcell⟩ := ownI_lies hrow
    have hc := hv.cell
    have hf := hv.frozen
    have HK := Lib.hid hK
    have HW3 : Hid (Below w.heap.size w W) := Lib.hid (HB2.out.trans (hB2.mono (Nat.le_of_lt hMB)))
    have HD : Hid (w2.heap.size ≤ D ∧ w.heap.size ≤ w2.heap.size) := Lib.hid ⟨hD, by omega⟩
    have HKN := KN
    clear hv hrow hlm hB2 hK hs2 HO2 HX2 hI hXo hz2' hS0 hB hBe hMB hBS hD hL HB2 HSs
    generalize hp' : ys.length = p at *
    have HP := Lib.hid hp'
    clear hp' hPe
    refine wpIn_wide.2 ?_
    by_cases hnp : nn > (p : Int)
    · have g1 : decide (nn > (p : Int)) = true := by simpa using hnp
      have HN := Lib.hid hnp
      clear hnp hcell hcp
      go_quiet ((go_at_call 43; exact Calls.quiet_of_same (KN.out _)))
      gi_wp2
      have HK2 : (W.drewN nq).heap[D]? = some (.deferred (some [])) := HK.out
      refine ⟨by simp, .inl ⟨_, _, rfl, run_takeDeferred HK2, ?_⟩⟩
      refine ⟨_, results_tmp (t := 6) rfl _ _ _, ret_num (by rw [HE.out, if_neg (by unfold nthV; have := EN.out; have := HN.out; have := HP.out; omega)]; rfl), ?_⟩
      exact (below_drew HW3.out nq).trans (belowK_b (w := w2) HD.out.2 _ D _ _ HD.out.1 HK2 rfl rfl)
    · have g1 : decide (nn > (p : Int)) = false := by simp; omega
      obtain ⟨d, hd⟩ : ∃ d : Nat, (p : Int) - nn = (d : Int) := ⟨((p : Int) - nn).toNat, by omega⟩
      obtain ⟨g, rfl, hg, hcl⟩ := hcell (by omega)
      have cd := hcl d (by omega)
      have zd : IntKind.i64.wrap (d : Int) = (d : Int) := IntWalk.i64_in _ (by omega)
      have i1 := idx_int g p cp d (by omega)
      have HN := Lib.hid hnp
      have HDd := Lib.hid hd
      clear hnp hcell hcp hcl
      go_quiet ((go_at_call 43; exact Calls.quiet_of_same (KN.out _)))
      have q1 : (W.drewN nq).cell? ⟨B, 0, none⟩ = some (.slice (some ⟨g, 0, none⟩) p cp) := hc
      have q2 := show (W.drewN nq).cell? ⟨g, d, none⟩ = _ from cd
      have q3 : (W.drewN nq).heap[D]? = some (.deferred (some [])) := HK.out
      have HK := Lib.hid q3
      have HW3 := Lib.hid (below_drew HW3.out nq)
      clear q3 hc hf cd
      generalize W.drewN nq = W2 at *
      gi_wp2
      refine wpIn_wide.2 ?_
      go_quiet ((go_at_call 43; exact Calls.quiet_of_same (KN.out _)))
      gi_wp2
      have HK2 : ∀ j, (W2.drewN j).heap[D]? = some (.deferred (some [])) := fun _ => HK.out
      refine ⟨by simp, .inl ⟨_, _, rfl, run_takeDeferred (HK2 _), ?_⟩⟩
      refine ⟨_, results_tmp (t := 6) rfl _ _ _, ret_num (by rw [HE.out, if_pos (by unfold nthV; have := EN.out; have := HN.out; have := HP.out; omega)]; rw [show p - 1 - nthV n = d by unfold nthV; have := EN.out; have := HDd.out; omega, List.getD_eq_getElem?_getD]), ?_⟩
      exact (below_drew HW3.out _).trans (belowK_b (w := w2) HD.out.2 _ D _ _ HD.out.1 (HK2 _) rfl rfl)
  case stop =>
    rintro D c pre W hD hp ⟨rfl, q, k, rfl, hk, ⟨v, hv, hrow, hlm⟩, hB2⟩ hK
    have hPe : q = underL x L := by
      obtain ⟨t, rfl⟩ := hp
      exact (under_cut HSs.out hlm hk).symm
    gi_wp2
    have HE : Hid ((L.reverse.filter fun k : Nat => decide ((k : Int) < x)).getD (nthV n) 0 = if nthV n < q.length then q.getD (q.length - 1 - nthV n) 0 else 0) := Lib.hid (by rw [under_rev, ← hPe])
    obtain ⟨A, cp, rfl, -, hcp, hcell⟩ := ownI_lies hrow
    have hc := hv.cell
    have hf := hv.frozen
    have HK := Lib.hid hK
    have HW3 : Hid (Below w.heap.size w W) := Lib.hid (HB2.out.trans (hB2.mono (Nat.le_of_lt hMB)))
    have HD : Hid (w2.heap.size ≤ D ∧ w.heap.size ≤ w2.heap.size) := Lib.hid ⟨hD, by omega⟩
    have HKN := KN
    clear hv hrow hlm hB2 hK hs2 HO2 HX2 hI hXo hz2' hS0 hB hBe hMB hBS hD hL HB2 HSs hp hk
    generalize hp' : q.length = p at *
    have HP := Lib.hid hp'
    clear hp' hPe
    refine wpIn_wide.2 ?_
    by_cases hnp : nn > (p : Int)
    · have g1 : decide (nn > (p : Int)) = true := by simpa using hnp
      have HN := Lib.hid hnp
      clear hnp hcell hcp
      go_quiet ((go_at_call 43; exact Calls.quiet_of_same (KN.out _)))
      gi_wp2
      have HK2 : (W.drewN nq).heap[D]? = some (.deferred (some [])) := HK.out
      refine ⟨by simp, .inl ⟨_, _, rfl, run_takeDeferred HK2, ?_⟩⟩
      refine ⟨_, results_tmp (t := 6) rfl _ _ _, ret_num (by rw [HE.out, if_neg (by unfold nthV; have := EN.out; have := HN.out; have := HP.out; omega)]; rfl), ?_⟩
      exact (below_drew HW3.out nq).trans (belowK_b (w := w2) HD.out.2 _ D _ _ HD.out.1 HK2 rfl rfl)
    · have g1 : decide (nn > (p : Int)) = false := by simp; omega
      obtain ⟨d, hd⟩ : ∃ d : Nat, (p : Int) - nn = (d : Int) := ⟨((p : Int) - nn).toNat, by omega⟩
      obtain ⟨g, rfl, hg, hcl⟩ := hcell (by omega)
      have cd := hcl d (by omega)
      have zd : IntKind.i64.wrap (d : Int) = (d : Int) := IntWalk.i64_in _ (by omega)
      have i1 := idx_int g p cp d (by omega)
      have HN := Lib.hid hnp
      have HDd := Lib.hid hd
      clear hnp hcell hcp hcl
      go_quiet ((go_at_call 43; exact Calls.quiet_of_same (KN.out _)))
      have q1 : (W.drewN nq).cell? ⟨B, 0, none⟩ = some (.slice (some ⟨g, 0, none⟩) p cp) := hc
      have q2 := show (W.drewN nq).cell? ⟨g, d, none⟩ = _ from cd
      have q3 : (W.drewN nq).heap[D]? = some (.deferred (some [])) := HK.out
      have HK := Lib.hid q3
      have HW3 := Lib.hid (below_drew HW3.out nq)
      clear q3 hc hf cd
      generalize W.drewN nq = W2 at *
      gi_wp2
      refine wpIn_wide.2 ?_
      go_quiet ((go_at_call 43; exact Calls.quiet_of_same (KN.out _)))
      gi_wp2
      have HK2 : ∀ j, (W2.drewN j).heap[D]? = some (.deferred (some [])) := fun _ => HK.out
      refine ⟨by simp, .inl ⟨_, _, rfl, run_takeDeferred (HK2 _), ?_⟩⟩
      refine ⟨_, results_tmp (t := 6) rfl _ _ _, ret_num (by rw [HE.out, if_pos (by unfold nthV; have := EN.out; have := HN.out; have := HP.out; omega)]; rw [show p - 1 - nthV n = d by unfold nthV; have := EN.out; have := HDd.out; omega, List.getD_eq_getElem?_getD]), ?_⟩
      exact (below_drew HW3.out _).trans (belowK_b (w := w2) HD.out.2 _ D _ _ HD.out.1 (HK2 _) rfl rfl)

section
variable {F : Nat → Prop} {w : World} {s : Value} {bs : List Bool} (h : IsSt F w s bs)
include h
theorem next_any (x n : Int) (hx : IntIn x) (hn : IntIn n) : Calls Try.prog 21 #[s, .int .i64 x, .int .i64 n] w fun e w' => e = .returned (.int .i64 (nextV bs x n : Nat)) ∧ Below w.heap.size w w' :=
  next_tells s (stL bs) bs.length x n w (st_len400 h) hx hn (every_tells h) (fun V hV => by
    have hs' := st_keep h fun k hk => hV.block k (st_lt h k hk)
    obtain ⟨g, rfl, _, _, hs, h1, _⟩ := hs'
    exact (width_some g bs.length _ V hs h1).mono fun _ _ q => q)
theorem prev_any (x n : Int) (hx : IntIn x) (hn : IntIn n) : Calls Try.prog 23 #[s, .int .i64 x, .int .i64 n] w fun e w' => e = .returned (.int .i64 (prevV bs x n : Nat)) ∧ Below w.heap.size w w' :=
  prev_tells s (stL bs) x n w (by have := st_len bs; have := (st_len400 h).2; omega) (st_rise bs) hx hn (every_tells h)
end
theorem next_nil (x n : Int) (hx : IntIn x) (hn : IntIn n) (w : World) : Calls Try.prog 21 #[.pointer none, .int .i64 x, .int .i64 n] w fun e w' => e = .returned (.int .i64 0) ∧ Below w.heap.size w w' :=
  next_tells (.pointer none) [] 1 x n w (by omega) hx hn (fun V _ => nil_tells V) (fun V _ => width_nil V)
theorem prev_nil (x n : Int) (hx : IntIn x) (hn : IntIn n) (w : World) : Calls Try.prog 23 #[.pointer none, .int .i64 x, .int .i64 n] w fun e w' => e = .returned (.int .i64 0) ∧ Below w.heap.size w w' :=
  prev_tells (.pointer none) [] x n w (by simp) List.Pairwise.nil hx hn (fun V _ => nil_tells V)
end Go.Proofs.Ytfkiihddcinckaa.Tb
