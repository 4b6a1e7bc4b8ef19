/- Layer 15: ReflowTwice's walk. -/
import Derived.Test.YtifolcfnknlmdaaReLp
set_option linter.unusedVariables false
namespace Go.Proofs.Ytifolcfnknlmdaa.Re
open Go.RowKit Go.Proofs.Ytifolcfnknlmdaa.Rw

theorem linesI_in (W : Nat) (h2 : 2 ≤ W) (h4 : W ≤ 400) (l : List LnC) : linesI (W : Int) l = linesV blC wdC W l := by
  unfold linesI
  rw [if_pos ⟨by omega, by omega⟩, Int.toNat_natCast]
set_option maxRecDepth 100000 in
set_option maxHeartbeats 4000000 in
theorem twice_law {F : Nat → Prop} {v : Value} {l : List LnC} {w : World} (h : LinesAt F w v l) (W V : Int) (hW : IntIn W) (hV : IntIn V) : Calls Try.prog 6 #[v, .int .i64 W, .int .i64 V] w fun e w' => e = .returned (.bool true) ∧ Below w.heap.size w w' := by
  have KG := Lib.hid (great_any h)
  have HH := Lib.hid h
  clear h
  by_cases hok : smallB l = true ∧ 2 ≤ W ∧ W ≤ 400 ∧ 2 ≤ V ∧ V ≤ 400
  · obtain ⟨hs, w2, w4, v2, v4⟩ := hok
    obtain ⟨X, rfl⟩ : ∃ X : Nat, W = (X : Int) := ⟨W.toNat, by omega⟩
    obtain ⟨Y, rfl⟩ : ∃ Y : Nat, V = (Y : Int) := ⟨V.toNat, by omega⟩
    have hls := lines_small X (by omega) (by omega) l hs
    have hss := small_sum hs
    obtain ⟨M, hM⟩ : ∃ M, M = linesV blC wdC X l := ⟨_, rfl⟩
    obtain ⟨N, hN⟩ : ∃ N, N = linesV blC wdC Y l := ⟨_, rfl⟩
    have hlsY := lines_small Y (by omega) (by omega) l hs
    rw [← hM] at hls
    rw [← hN] at hlsY
    have e1 : linesI (X : Int) l = M := by rw [linesI_in X (by omega) (by omega), hM]
    have e2 : linesI (Y : Int) l = N := by rw [linesI_in Y (by omega) (by omega), hN]
    have e3 : linesI (Y : Int) M = N := by rw [linesI_in Y (by omega) (by omega), hM, lines_twice, hN]
    have e4 : linesI (X : Int) M = M := by rw [linesI_in X (by omega) (by omega), hM, lines_twice]
    have e5 : paras blC M = paras blC l := by rw [hM, paras_lines]
    have hM1 : M.length ≤ 100000 ∧ sumV M ≤ 100000 := by omega
    have hN1 : N.length ≤ 100000 ∧ sumV N ≤ 100000 := by omega
    have hl1 : l.length ≤ 100000 ∧ sumV l ≤ 100000 := by omega
    have HE := Lib.hid (And.intro e1 (And.intro e2 (And.intro e3 (And.intro e4 e5))))
    have HM := Lib.hid hM1
    have HN := Lib.hid hN1
    have Hl := Lib.hid hl1
    have iX : IntIn (X : Int) := hW
    have iY : IntIn (Y : Int) := hV
    have a1 : decide ((X : Int) < 2) = false := decide_eq_false (by omega)
    have a2 : decide ((X : Int) > 400) = false := decide_eq_false (by omega)
    have a3 : decide ((Y : Int) < 2) = false := decide_eq_false (by omega)
    have a4 : decide ((Y : Int) > 400) = false := decide_eq_false (by omega)
    rw [hs] at KG
    have HI := Lib.hid (And.intro iX iY)
    clear hs w2 w4 v2 v4 hls hss hM hN hlsY e1 e2 e3 e4 e5 hM1 hN1 hl1 iX iY hW hV
    go_enter Try.func6, Try.ntmps6
    go_wp2_with fail
    refine (show Calls _ _ _ _ _ from KG.out).mono ?_
    rintro e w1 ⟨rfl, b1⟩
    have K1 := Lib.hid (plines_any (HH.out.below b1) Hl.out.1 Hl.out.2 X HI.out.1)
    rw [HE.out.1] at K1
    have HB1 := Lib.hid b1
    clear b1 KG
    go_wp2_with fail
    refine (show Calls _ _ _ _ _ from K1.out).mono ?_
    rintro e w2 ⟨ua, rfl, ha, b2⟩
    have HA := Lib.hid ha
    have HB2 := Lib.hid (HB1.out.trans (b2.mono HB1.out.size))
    have K2 := Lib.hid (plines_any ha HM.out.1 HM.out.2 Y HI.out.2)
    rw [HE.out.2.2.1] at K2
    clear ha b2 K1 HB1
    go_wp2_with fail
    refine (show Calls _ _ _ _ _ from K2.out).mono ?_
    rintro e w3 ⟨ub, rfl, hb, b3⟩
    have HBb := Lib.hid hb
    have HA3 := Lib.hid (HA.out.below b3)
    have HB3 := Lib.hid (HB2.out.trans (b3.mono HB2.out.size))
    have K3 := Lib.hid (plines_any (HH.out.below HB3.out) Hl.out.1 Hl.out.2 Y HI.out.2)
    rw [HE.out.2.1] at K3
    clear hb b3 K2 HB2 HA
    go_wp2_with fail
    refine (show Calls _ _ _ _ _ from K3.out).mono ?_
    rintro e w4 ⟨uc, rfl, hc, b4⟩
    have K4 := Lib.hid (law_same (HBb.out.below b4) hc HN.out.1 (by have := HN.out.1; omega) fun k => Nat.le_trans (cells_le N k) HN.out.2)
    rw [decide_eq_true rfl] at K4
    have HA4 := Lib.hid (HA3.out.below b4)
    have HB4 := Lib.hid (HB3.out.trans (b4.mono HB3.out.size))
    clear hc b4 K3 HB3 HA3 HBb
    go_wp2_with fail
    refine (show Calls _ _ _ _ _ from K4.out).mono ?_
    rintro e w5 ⟨rfl, b5⟩
    have HA5 := Lib.hid (HA4.out.below b5)
    have HB5 := Lib.hid (HB4.out.trans (b5.mono HB4.out.size))
    have K5 := Lib.hid (plines_any HA5.out HM.out.1 HM.out.2 X HI.out.1)
    rw [HE.out.2.2.2.1] at K5
    clear b5 K4 HB4 HA4
    go_wp2_with fail
    refine (show Calls _ _ _ _ _ from K5.out).mono ?_
    rintro e w6 ⟨ud, rfl, hd, b6⟩
    have HA6 := Lib.hid (HA5.out.below b6)
    have HB6 := Lib.hid (HB5.out.trans (b6.mono HB5.out.size))
    have K6 := Lib.hid (law_same hd HA6.out HM.out.1 (by have := HM.out.1; omega) fun k => Nat.le_trans (cells_le M k) HM.out.2)
    rw [decide_eq_true rfl] at K6
    clear hd b6 K5 HB5 HA5
    go_wp2_with fail
    refine (show Calls _ _ _ _ _ from K6.out).mono ?_
    rintro e w7 ⟨rfl, b7⟩
    have HA7 := Lib.hid (HA6.out.below b7)
    have HB7 := Lib.hid (HB6.out.trans (b7.mono HB6.out.size))
    have K7 := Lib.hid (pparas_any (HH.out.below HB7.out) Hl.out.1 Hl.out.2)
    clear b7 K6 HB6 HA6
    go_wp2_with fail
    refine (show Calls _ _ _ _ _ from K7.out).mono ?_
    rintro e w8 ⟨tp, rfl, hp, b8⟩
    have HP8 := Lib.hid hp
    have HA8 := Lib.hid (HA7.out.below b8)
    have HB8 := Lib.hid (HB7.out.trans (b8.mono HB7.out.size))
    have K8 := Lib.hid (pparas_any HA8.out HM.out.1 HM.out.2)
    rw [HE.out.2.2.2.2] at K8
    clear hp b8 K7 HB7 HA7
    go_wp2_with fail
    refine (show Calls _ _ _ _ _ from K8.out).mono ?_
    rintro e w9 ⟨tq, rfl, hq, b9⟩
    have HP := Lib.hid (HP8.out.below b9)
    have HQ := Lib.hid hq
    have HB9 := Lib.hid (HB8.out.trans (b9.mono HB8.out.size))
    have hps : ∀ p ∈ paras blC l, p.length ≤ 100000 := fun p hp => by have h1 := para_small l [] p hp; have h2 := Hl.out.2; rw [List.length_nil] at h1; omega
    have HPs := Lib.hid hps
    have hpn : (paras blC l).length ≤ 100000 := Nat.le_trans (paras_count l []) Hl.out.1
    obtain ⟨n, hn⟩ : ∃ n, n = (paras blC l).length := ⟨_, rfl⟩
    obtain ⟨Ap, cp, rfl⟩ : ∃ A c, tp = .slice A n c := by obtain ⟨A, c, e, -⟩ := HP.out; exact ⟨A, c, by rw [hn]; exact e⟩
    obtain ⟨Aq, cq, rfl⟩ : ∃ A c, tq = .slice A n c := by obtain ⟨A, c, e, -⟩ := HQ.out; exact ⟨A, c, by rw [hn]; exact e⟩
    have Hn := Lib.hid hn
    rw [← hn] at hpn
    have g0 : ((n : Int) != (n : Int)) = false := by simp
    clear hq b9 K8 HB8 HA8 HP8 hps hn
    go_wp2
    go_loopw [10] (fun i wr => ∃ (k : Nat) (wz : World), wz = wr ∧ k ≤ n ∧ i = .int .i64 k ∧ Hid (Below w9.heap.size w9 wz)) (fun i _ => n - (RowKit.intOf i).toNat)
    case atStart => exact ⟨0, _, rfl, Nat.zero_le _, rfl, Lib.hid (Below.refl _ _)⟩
    case round =>
      obtain ⟨k, wr, rfl, hk, rfl, HB⟩ := hrel
      by_cases hlt : k < n
      · have glt : decide ((k : Int) < (n : Int)) = true := by simp; omega
        obtain ⟨bp, op, up, rfl, hbp, p0, rp⟩ := HP.out.at_ (k := k) (by rw [← Hn.out]; exact hlt)
        obtain ⟨bq, oq, uq, rfl, hbq, q0, rq⟩ := HQ.out.at_ (k := k) (by rw [← Hn.out]; exact hlt)
        have i1 := idx_rows bp op n cp k hlt
        have i2 := idx_rows bq oq n cq k hlt
        have p0 := fun (V : World) (hV : Below w9.heap.size w9 V) => (hV.cell hbp).trans p0
        have q0 := fun (V : World) (hV : Below w9.heap.size w9 V) => (hV.cell hbq).trans q0
        have KS : Hid (∀ V, Below w9.heap.size w9 V → Calls Try.prog 19 #[up, uq] V fun e w' => e = .returned (.bool true) ∧ Below w9.heap.size w9 w') := Lib.hid (by
          have hp5 : ((paras blC l).getD k []).length ≤ 100000 := HPs.out _ (by rw [List.getD_eq_getElem?_getD, List.getElem?_eq_getElem (by rw [← Hn.out]; exact hlt)]; exact List.getElem_mem _)
          obtain ⟨B1, d1, rfl, -⟩ := id rp.1
          obtain ⟨B2, d2, rfl, -⟩ := id rq.1
          exact fun V hV => (same_any _ _ B1 B2 _ _ d1 d2 V (rp.1.below hV) (rq.1.below hV) hp5).mono fun e w' ⟨he, hb⟩ => ⟨by rw [he, decide_eq_true rfl], hV.trans (hb.mono hV.size)⟩)
        have kd := below_drew HB.out 1
        clear rp rq hbp hbq
        go_wp2_with fail
        go_region_held3 (fun V => Below w9.heap.size w9 V) (assumption) (first | (go_at_call 19; (with_reducible refine (KS.out _ (by assumption)).mono ?_); rintro e v1 ⟨rfl, j1⟩))
        have HB2 := Lib.hid (show Below w9.heap.size w9 _ by assumption)
        go_wp2
        go_roundw
        case rel => exact ⟨k + 1, _, rfl, by omega, by go_num, HB2⟩
        case measure => simp [RowKit.intOf]; omega
      · have hkn : k = n := by omega
        have glt : decide ((k : Int) < (n : Int)) = false := by simp; omega
        have HBe := Lib.hid (HB9.out.trans (HB.out.mono HB9.out.size))
        have KW := Lib.hid (wakes_any wr)
        clear hkn
        go_wp2_with fail
        refine (show Calls _ _ _ _ _ from KW.out).mono ?_
        rintro e w10 ⟨rfl, b10⟩
        have HBf := Lib.hid (HBe.out.trans (b10.mono HBe.out.size))
        clear b10 KW
        go_wp2
        go_ret
        exact ⟨rfl, HBf.out⟩
  · have hg : (!smallB l) = true ∨ (!smallB l) = false ∧ (decide (W < 2) = true ∨ decide (W < 2) = false ∧ (decide (W > 400) = true ∨ decide (W > 400) = false ∧ (decide (V < 2) = true ∨ decide (V < 2) = false ∧ decide (V > 400) = true))) := by
      cases hs : smallB l with
      | false => exact Or.inl rfl
      | true =>
        refine Or.inr ⟨rfl, ?_⟩
        simp only [decide_eq_true_eq, decide_eq_false_iff_not]
        have : ¬ (2 ≤ W ∧ W ≤ 400 ∧ 2 ≤ V ∧ V ≤ 400) := fun h => hok ⟨hs, h⟩
        omega
    obtain ⟨sb, hsb⟩ : ∃ sb, sb = !smallB l := ⟨_, rfl⟩
    rw [← hsb] at KG hg
    clear hok hsb hW hV
    rcases hg with rfl | ⟨rfl, a1 | ⟨a1, a2 | ⟨a2, a3 | ⟨a3, a4⟩⟩⟩⟩
    all_goals
      go_enter Try.func6, Try.ntmps6
      go_wp2_with fail
      refine (show Calls _ _ _ _ _ from KG.out).mono ?_
      rintro e w1 ⟨rfl, b1⟩
      have HB1 := Lib.hid b1
      have KW := Lib.hid (wakes_any w1)
      clear b1 KG
      go_wp2_with fail
      refine (show Calls _ _ _ _ _ from KW.out).mono ?_
      rintro e w2 ⟨rfl, b2⟩
      have HB2 := Lib.hid (HB1.out.trans (b2.mono HB1.out.size))
      clear b2 KW HB1
      go_wp2
      go_ret
      exact ⟨rfl, HB2.out⟩
theorem twiceW (v : Value) (l : List LnC) (W V : Int) (w : World) (h : LinesAt (fun b => b < w.heap.size) w v l) (hW : IntIn W) (hV : IntIn V) : Calls Try.prog 6 #[v, .int .i64 W, .int .i64 V] w fun e w' => e = .returned (.bool true) ∧ Below w.heap.size w w' := twice_law h W V hW hV
end Go.Proofs.Ytifolcfnknlmdaa.Re
