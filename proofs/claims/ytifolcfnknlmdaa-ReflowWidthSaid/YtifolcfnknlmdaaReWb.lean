/- Layer 15: ReflowWidth's walk. -/
import Derived.Test.YtifolcfnknlmdaaReWa
set_option linter.unusedVariables false
namespace Go.Proofs.Ytifolcfnknlmdaa.Re
open Go.RowKit Go.Proofs.Ytifolcfnknlmdaa.Rw

set_option maxRecDepth 100000 in
set_option maxHeartbeats 4000000 in
theorem width_bad {A : Option Addr} {n c : Nat} {w : World} (KG : Hid (Calls Try.prog 8 #[.slice A n c] w fun e w' => e = .returned (.bool true) ∧ Below w.heap.size w w')) (W : Int) : Calls Try.prog 7 #[.slice A n c, .int .i64 W] w fun e w' => e = .returned (.bool true) ∧ Below w.heap.size w w' := by
  go_enter Try.func7, Try.ntmps7
  go_wp2_with fail
  refine (show Calls _ _ _ _ _ from KG.out).mono ?_
  rintro e w1 ⟨rfl, b1⟩
  have HBB := Lib.hid b1
  clear b1 KG
  have KW := Lib.hid (wakes_any w1)
  go_wp2_with fail
  refine (show Calls _ _ _ _ _ from KW.out).mono ?_
  rintro e w9 ⟨rfl, b9⟩
  have HB9 := Lib.hid (HBB.out.trans (b9.mono HBB.out.size))
  clear b9 KW
  go_wp2
  go_ret
  exact ⟨rfl, HB9.out⟩

theorem linesI_no (W : Int) (h : ¬ (2 ≤ W ∧ W ≤ 400)) (l : List LnC) : linesI W l = [] := by
  unfold linesI
  rw [if_neg h]
set_option maxRecDepth 100000 in
set_option maxHeartbeats 16000000 in
theorem width_good {F : Nat → Prop} {A : Option Addr} {n c : Nat} {l : List LnC} {w : World} (KG : Hid (Calls Try.prog 8 #[.slice A n c] w fun e w' => e = .returned (.bool false) ∧ Below w.heap.size w w')) (HL : Hid (LinesAt F w (.slice A n c) l)) (HN : Hid (n = l.length)) (hs : smallB l = true) (W : Int) (hW : IntIn W) : Calls Try.prog 7 #[.slice A n c, .int .i64 W] w fun e w' => e = .returned (.bool true) ∧ Below w.heap.size w w' := by
  have hn60 : n ≤ 60 := by have := ((small_iff l).1 hs).1; have := HN.out; omega
  have HS60 : Hid (∀ k, k < n → (l.getD k noLn).cells.length ≤ 60) := Lib.hid fun k hk => ((small_iff l).1 hs).2 k (by rw [← HN.out]; exact hk)
  have HSum := Lib.hid (small_sum hs)
  have HSm := Lib.hid hs
  have HIW := Lib.hid hW
  clear hs hW
  go_enter Try.func7, Try.ntmps7
  go_wp2_with fail
  refine (show Calls _ _ _ _ _ from KG.out).mono ?_
  rintro e w1 ⟨rfl, b1⟩
  have HB1 := Lib.hid b1
  clear b1 KG
  go_wp2
  go_loopw [5] (fun iv wr => ∃ (k : Nat) (wz : World), wz = wr ∧ k ≤ n ∧ iv = .int .i64 (k : Int) ∧ Hid ((∀ j, j < k → wholeB (cnt (l.getD j noLn)) = true) ∧ Below w.heap.size w wz)) (fun iv _ => n - (RowKit.intOf iv).toNat)
  case atStart => exact ⟨0, _, rfl, Nat.zero_le _, rfl, Lib.hid ⟨fun j hj => absurd hj (Nat.not_lt_zero _), HB1.out⟩⟩
  case round =>
    obtain ⟨k, wr, rfl, hk, rfl, H⟩ := hrel
    by_cases hlt : k < n
    · have glt : decide ((k : Int) < (n : Int)) = true := by simp; omega
      have glt' : decide (k < n) = true := by simp; omega
      obtain ⟨b, o, u, rfl, -, hb, q0, q1, q2, r0⟩ := HL.out.at_ hlt
      obtain ⟨A', c', rfl, -⟩ := id r0.1
      obtain ⟨N, hN⟩ : ∃ N, N = (l.getD k noLn).cells.length := ⟨_, rfl⟩
      obtain ⟨M, hM⟩ : ∃ M, M = cntN (l.getD k noLn) := ⟨_, rfl⟩
      have hMN : M ≤ N := by rw [hM, hN]; exact cntN_le _
      have hN60 : N ≤ 60 := by rw [hN]; exact HS60.out k hlt
      rw [← hN] at q0 r0
      have i1 := idx_line b o n c k hlt
      have hup := upto_cells r0.1 M hMN
      have i2 := hup.1
      have d0 := (H.out.2.cell (p := ⟨b, o + k * 3, none⟩) hb).trans q0
      have d1 := (H.out.2.cell (p := ⟨b, o + k * 3 + 1, none⟩) hb).trans q1
      have d2 := (H.out.2.cell (p := ⟨b, o + k * 3 + 2, none⟩) hb).trans q2
      have HQ0 : Hid (∀ V, Below w.heap.size w V → V.cell? ⟨b, o + k * 3, none⟩ = some (.slice A' N c')) := Lib.hid fun V hV => (hV.cell (p := ⟨b, o + k * 3, none⟩) hb).trans q0
      obtain ⟨J, hJ⟩ : ∃ J, J = (l.getD k noLn).joined := ⟨_, rfl⟩
      obtain ⟨Sh, hSh⟩ : ∃ J, J = (l.getD k noLn).short := ⟨_, rfl⟩
      rw [← hJ] at d1
      rw [← hSh] at d2
      have hMq : M = if J && Sh then N - 1 else N := by rw [hM, hN, cntN, hJ, hSh]
      obtain ⟨d9, hd9⟩ : ∃ d9, d9 = decide (N > 0) := ⟨_, rfl⟩
      have gN : decide ((N : Int) > 0) = d9 := by rw [hd9]; simp
      have gN' : decide (0 < N) = d9 := hd9.symm
      obtain ⟨b9, hb9⟩ : ∃ b9, b9 = (J && (Sh && d9)) := ⟨_, rfl⟩
      have HMq : Hid (if b9 then M + 1 = N else M = N) := Lib.hid (by
        rw [hb9, hMq, hd9]
        cases J <;> cases Sh <;> simp
        split <;> omega)
      obtain ⟨a1, ha1⟩ : ∃ a1, a1 = wholeB (l.getD k noLn).cells := ⟨_, rfl⟩
      obtain ⟨a2, ha2⟩ : ∃ a2, a2 = wholeB (cnt (l.getD k noLn)) := ⟨_, rfl⟩
      have HA2 := Lib.hid ha2
      have K1 := Lib.hid (rwhole_any _ A' N c' wr (r0.1.below H.out.2) (by omega))
      have K2 : Hid (∀ V, Below w.heap.size w V → Calls Try.prog 20 #[.slice A' M c'] V fun e w' => e = .returned (.bool a2) ∧ Below V.heap.size V w') := Lib.hid fun V hV => by
        have := rwhole_any _ A' M c' V (hup.2.below hV) (by omega)
        rw [hM, ← cnt_take, ← ha2, ← hM] at this
        exact this
      rw [← ha1] at K1
      clear hup q0 q1 q2 r0 hN hM hJ hSh hMq hd9 ha1 ha2 hb
      go_upto_region 7 with fail
      go_cut [39] (fun s wc => s = .bool b9 ∧ wr = wc)
      case first =>
        cases J with
        | false =>
          obtain rfl : b9 = false := by rw [hb9]; simp
          clear hb9
          go_wp2
          go_meet
          exact ⟨rfl, rfl⟩
        | true =>
          cases Sh with
          | false =>
            obtain rfl : b9 = false := by rw [hb9]; simp
            clear hb9
            go_wp2
            go_meet
            exact ⟨rfl, rfl⟩
          | true =>
            obtain rfl : b9 = d9 := by rw [hb9]; simp
            clear hb9
            go_wp2
            go_meet
            exact ⟨rfl, rfl⟩
      case rest =>
      obtain ⟨rfl, rfl⟩ := hcut
      clear hb9 gN gN' d1 d2
      go_upto_if 39 with fail
      go_cut [6] (fun s wc => s = .int .i64 (M : Int) ∧ wr = wc)
      case first =>
        cases b9 with
        | false =>
          obtain rfl : M = N := HMq.out
          clear HMq
          go_wp2
          go_meet
          exact ⟨rfl, rfl⟩
        | true =>
          have zN : IntKind.i64.wrap ((N : Int) - 1) = (M : Int) := by have h1 : M + 1 = N := HMq.out; rw [IntWalk.i64_in _ (by omega)]; omega
          clear HMq
          go_wp2
          go_meet
          exact ⟨rfl, rfl⟩
      case rest =>
      obtain ⟨rfl, rfl⟩ := hcut
      clear HMq
      go_wp2_with fail
      refine (show Calls _ _ _ _ _ from K1.out).mono ?_
      rintro e w2 ⟨rfl, b2⟩
      have HBB := Lib.hid (H.out.2.trans (b2.mono H.out.2.size))
      have d0 := HQ0.out w2 HBB.out
      have K2 := Lib.hid (K2.out w2 HBB.out)
      clear b2 K1
      cases a1 with
      | false =>
        have KW := Lib.hid (wakes_any w2)
        go_wp2_with fail
        refine (show Calls _ _ _ _ _ from KW.out).mono ?_
        rintro e w9 ⟨rfl, b9⟩
        have HB9 := Lib.hid (HBB.out.trans (b9.mono HBB.out.size))
        clear b9 KW
        go_wp2
        go_ret
        exact ⟨rfl, HB9.out⟩
      | true =>
        go_wp2_with fail
        refine (show Calls _ _ _ _ _ from K2.out).mono ?_
        rintro e w3 ⟨rfl, b3⟩
        have HBB := Lib.hid (HBB.out.trans (b3.mono HBB.out.size))
        clear b3 K2 d0
        cases a2 with
        | false =>
          have KW := Lib.hid (wakes_any w3)
          go_wp2_with fail
          refine (show Calls _ _ _ _ _ from KW.out).mono ?_
          rintro e w9 ⟨rfl, b9⟩
          have HB9 := Lib.hid (HBB.out.trans (b9.mono HBB.out.size))
          clear b9 KW
          go_wp2
          go_ret
          exact ⟨rfl, HB9.out⟩
        | true =>
          have H2 : Hid ((∀ j, j < k + 1 → wholeB (cnt (l.getD j noLn)) = true) ∧ Below w.heap.size w w3) := Lib.hid ⟨fun j hj => by
            by_cases e : j = k
            · rw [e, ← HA2.out]
            · exact H.out.1 j (by omega), HBB.out⟩
          clear H HBB HA2
          go_wp2
          go_roundw
          case rel => exact ⟨k + 1, _, rfl, hlt, by go_num, H2⟩
          case measure => simp [RowKit.intOf]; omega
    · have hkn : k = n := by omega
      have glt : decide ((k : Int) < (n : Int)) = false := by simp; omega
      have glt' : decide (k < n) = false := by simp; omega
      have HAll : Hid (∀ a ∈ l, wholeB (cnt a) = true) := Lib.hid (fun a ha => by
        obtain ⟨j, hj, rfl⟩ := List.getElem_of_mem ha
        have h1 := H.out.1 j (by rw [hkn, HN.out]; exact hj)
        rw [List.getD_eq_getElem?_getD, List.getElem?_eq_getElem hj] at h1
        exact h1)
      have HBr := Lib.hid H.out.2
      have K3 := Lib.hid (plines_any (HL.out.below HBr.out) (by rw [← HN.out]; omega) (by have := HSum.out; omega) W HIW.out)
      clear hkn H
      by_cases hok : 2 ≤ W ∧ W ≤ 400
      · obtain ⟨X, rfl⟩ : ∃ X : Nat, W = (X : Int) := ⟨W.toNat, by omega⟩
        have hX : 2 ≤ X ∧ X ≤ 400 := by omega
        rw [linesI_in X hX.1 hX.2] at K3
        have hsm := lines_small X hX.1 hX.2 l HSm.out
        have HWO := Lib.hid (lines_wok X hX.1 l HAll.out)
        have HLa : Hid (n ≠ 0 → ∃ m, (linesV blC wdC X l).length = m + 1 ∧ ((linesV blC wdC X l).getD m noLn).joined = false) := Lib.hid fun h0 => lines_last X l (fun e => h0 (by rw [HN.out, e]; rfl))
        obtain ⟨M, hM⟩ : ∃ M, M = linesV blC wdC X l := ⟨_, rfl⟩
        rw [← hM] at K3 hsm HWO HLa
        obtain ⟨m, hm⟩ : ∃ m, m = M.length := ⟨_, rfl⟩
        have hm5 : m ≤ 3700 := by omega
        have HM := Lib.hid hm
        have a1 : decide ((X : Int) < 2) = false := decide_eq_false (by omega)
        have a2 : decide ((X : Int) > 400) = false := decide_eq_false (by omega)
        clear hsm hM hm hok
        go_wp2_with fail
        refine (show Calls _ _ _ _ _ from K3.out).mono ?_
        rintro e w4 ⟨ua, rfl, ha, b4⟩
        have HB4 := Lib.hid (HBr.out.trans (b4.mono HBr.out.size))
        obtain ⟨Aa, ca, rfl⟩ : ∃ A c, ua = .slice A m c := by obtain ⟨A, c, e, -⟩ := ha; exact ⟨A, c, by rw [HM.out]; exact e⟩
        have HA := Lib.hid ha
        clear ha b4 K3 HBr
        go_upto_region 14 with fail
        go_cut [92] (fun s wc => s = .bool false ∧ w4 = wc)
        case first =>
          by_cases h0 : n = 0
          · have g1 : decide ((n : Int) > 0) = false := by simp; omega
            have g1' : decide (0 < n) = false := by simp; omega
            go_wp2
            go_meet
            exact ⟨rfl, rfl⟩
          · obtain ⟨m1, hm1, hj⟩ := HLa.out h0
            have hmm : m = m1 + 1 := by rw [HM.out, hm1]
            have g1 : decide ((n : Int) > 0) = true := by simp; omega
            have g1' : decide (0 < n) = true := by simp; omega
            have g2 : decide ((m : Int) < 1) = false := by simp; omega
            have g2' : decide (m < 1) = false := by simp; omega
            have zm : IntKind.i64.wrap ((m : Int) - 1) = (m1 : Int) := by rw [IntWalk.i64_in _ (by omega)]; omega
            obtain ⟨ba, oa, va, rfl, -, hba, p0, p1, p2, ra⟩ := HA.out.at_ (k := m1) (by omega)
            have i3 := idx_line ba oa m ca m1 (by omega)
            rw [hj] at p1
            clear hm1 hmm hj p0 p2 ra hba
            go_wp2
            go_meet
            exact ⟨rfl, rfl⟩
        case rest =>
        obtain ⟨rfl, rfl⟩ := hcut
        clear HLa
        go_wp2
        go_loopw [8] (fun iv wr => ∃ (k : Nat) (wz : World), wz = wr ∧ k ≤ m ∧ iv = .int .i64 (k : Int) ∧ Hid (Below w4.heap.size w4 wz)) (fun iv _ => m - (RowKit.intOf iv).toNat)
        case atStart => exact ⟨0, _, rfl, Nat.zero_le _, rfl, Lib.hid (Below.refl _ _)⟩
        case round =>
          obtain ⟨j, wq, rfl, hj, rfl, HQ⟩ := hrel
          by_cases hlj : j < m
          · have gl2 : decide ((j : Int) < (m : Int)) = true := by simp; omega
            have gl2' : decide (j < m) = true := by simp; omega
            have hjM : j < M.length := by rw [← HM.out]; exact hlj
            obtain ⟨ba, oa, va, e, -, hba, p0, p1, p2, ra⟩ := HA.out.at_ hlj
            subst e
            obtain ⟨Xa, xa, rfl, -⟩ := id ra.1
            have hwid := HWO.out.wid j hjM
            rw [hwid] at p0 ra
            have i3 := idx_line ba oa m ca j hlj
            have d0 := (HQ.out.cell (p := ⟨ba, oa + j * 3, none⟩) hba).trans p0
            have K5 := Lib.hid (rwhole_any _ Xa X xa wq (ra.1.below HQ.out) (by omega))
            rw [HWO.out.whole j hjM] at K5
            obtain ⟨J, hJ⟩ : ∃ J, J = (M.getD j noLn).joined := ⟨_, rfl⟩
            obtain ⟨Sh, hSh⟩ : ∃ J, J = (M.getD j noLn).short := ⟨_, rfl⟩
            rw [← hJ] at p1
            rw [← hSh] at p2
            have n1 : ((X : Int) != (X : Int)) = false := by simp
            have HP := Lib.hid (And.intro hba (And.intro p0 (And.intro p1 p2)))
            have hsh := HWO.out.short j hjM
            rw [← hSh, ← hJ] at hsh
            have HSh := Lib.hid hsh
            have HRa := Lib.hid ra.1
            clear p0 p1 p2 ra hba hJ hSh hsh hwid
            go_wp2_with fail
            refine (show Calls _ _ _ _ _ from K5.out).mono ?_
            rintro e w5 ⟨rfl, b5⟩
            have HQ2 : Hid (Below w4.heap.size w4 w5) := Lib.hid (HQ.out.trans (b5.mono HQ.out.size))
            have d0 := (HQ2.out.cell (p := ⟨ba, oa + j * 3, none⟩) HP.out.1).trans HP.out.2.1
            have d1 := (HQ2.out.cell (p := ⟨ba, oa + j * 3 + 1, none⟩) HP.out.1).trans HP.out.2.2.1
            have d2 := (HQ2.out.cell (p := ⟨ba, oa + j * 3 + 2, none⟩) HP.out.1).trans HP.out.2.2.2
            clear b5 K5 HQ
            cases Sh with
            | false =>
              clear HSh HRa HP
              go_wp2
              go_roundw
              case rel => exact ⟨j + 1, _, rfl, hlj, by go_num, HQ2⟩
              case measure => simp [RowKit.intOf]; omega
            | true =>
              obtain ⟨rfl, hbl, hj1, hw1⟩ := HSh.out rfl
              obtain ⟨X1, hX1⟩ : ∃ X1, X1 = X - 1 := ⟨_, rfl⟩
              rw [← hX1] at hbl
              have zX : IntKind.i64.wrap ((X : Int) - 1) = (X1 : Int) := by rw [IntWalk.i64_in _ (by omega)]; omega
              obtain ⟨bc, oc, rfl, hbc, c0, c1, c2, c3, c4, c5, c6⟩ := HRa.out.row.2.2.2.at_ (k := X1) (by rw [HWO.out.wid j hjM]; omega)
              have i4 := idx_cell bc oc X xa X1 (by omega)
              have E1 : ∀ V, (binOp .neq 38 (ceV (cellV (M.getD j noLn).cells X1)) (.agg #[.int .i32 32, .int .u8 0, .int .u16 0, .int .u8 0, .int .u32 0, .int .u8 0, .int .u32 0])).run Try.prog V = .ok (.bool (decide (cellV (M.getD j noLn).cells X1 ≠ blC))) V := fun V => neq_cell (cellV (M.getD j noLn).cells X1) blC V
              rw [decide_eq_false (fun h => h hbl)] at E1
              have x0 := (HQ2.out.cell hbc).trans c0
              have x1 := (HQ2.out.cell hbc).trans c1
              have x2 := (HQ2.out.cell hbc).trans c2
              have x3 := (HQ2.out.cell hbc).trans c3
              have x4 := (HQ2.out.cell hbc).trans c4
              have x5 := (HQ2.out.cell hbc).trans c5
              have x6 := (HQ2.out.cell hbc).trans c6
              have hj1m : j + 1 < m := by rw [HM.out]; exact hj1
              obtain ⟨bn, on, vn, en, -, hbn, n0, -, -, rn⟩ := HA.out.at_ hj1m
              cases en
              obtain ⟨Xn, xn, rfl, -⟩ := id rn.1
              rw [HWO.out.wid (j + 1) hj1] at n0 rn
              have y0 := (HQ2.out.cell (p := ⟨ba, oa + (j + 1) * 3, none⟩) hbn).trans n0
              have i5 := idx_line ba oa m ca (j + 1) hj1m
              rw [show ((j + 1 : Nat) : Int) = (j : Int) + 1 by omega] at i5
              obtain ⟨be, oe, rfl, hbe, -, e1, -, -, -, -, -⟩ := rn.1.row.2.2.2.at_ (k := 0) (by rw [HWO.out.wid (j + 1) hj1]; omega)
              rw [hw1, Nat.zero_mul, Nat.add_zero] at e1
              have z1 := (HQ2.out.cell (p := ⟨be, oe + 1, none⟩) hbe).trans e1
              have i6 : ∀ V, (Instr.indexAt 28 (.slice (some ⟨be, oe, none⟩) X xn) (.int .i64 0)).run Try.prog V = .ok (.pointer (some ⟨be, oe, none⟩)) V := fun V => by
                have := idx_cell be oe X xn 0 (by omega) V
                rwa [Nat.zero_mul, Nat.add_zero] at this
              have g5 : decide ((j : Int) + 1 ≥ (m : Int)) = false := decide_eq_false (by omega)
              have g5' : decide ((m : Int) ≤ (j : Int) + 1) = false := decide_eq_false (by omega)
              have g5'' : decide (m ≤ j + 1) = false := decide_eq_false (by omega)
              have g6 : decide ((X : Int) < 1) = false := decide_eq_false (by omega)
              have g6' : decide (X < 1) = false := decide_eq_false (by omega)
              have g7 : ∀ V, (binOp .neq 5 (.int .u8 ((1 : Nat) : Int)) (.int .u8 1)).run Try.prog V = .ok (.bool false) V := fun V => by kernel_rfl
              generalize cellV (M.getD j noLn).cells X1 = x at *
              obtain ⟨xr, xw, ⟨xa', xb, xc, xd, xe⟩⟩ := x
              dsimp only at x0 x1 x2 x3 x4 x5 x6
              clear HSh HRa HP hbl hj1 hw1 c0 c1 c2 c3 c4 c5 c6 hbc rn n0 hbn e1 hbe hX1
              go_wp2
              go_roundw
              case rel => exact ⟨j + 1, _, rfl, hlj, by go_num, HQ2⟩
              case measure => simp [RowKit.intOf]; omega
          · have hjm : j = m := by omega
            have gl2 : decide ((j : Int) < (m : Int)) = false := by simp; omega
            have gl2' : decide (j < m) = false := by simp; omega
            have HBB := Lib.hid (HB4.out.trans (HQ.out.mono HB4.out.size))
            clear hjm
            have KW := Lib.hid (wakes_any wq)
            go_wp2_with fail
            refine (show Calls _ _ _ _ _ from KW.out).mono ?_
            rintro e w9 ⟨rfl, b9⟩
            have HB9 := Lib.hid (HBB.out.trans (b9.mono HBB.out.size))
            clear b9 KW
            go_wp2
            go_ret
            exact ⟨rfl, HB9.out⟩
      · by_cases t1 : W < 2
        · have a1 : decide (W < 2) = true := decide_eq_true t1
          rw [linesI_no W hok] at K3
          go_wp2_with fail
          refine (show Calls _ _ _ _ _ from K3.out).mono ?_
          rintro e w4 ⟨ua, rfl, ha, b4⟩
          obtain ⟨Aa, ca, rfl⟩ : ∃ A c, ua = .slice A 0 c := by obtain ⟨A, c, e, -⟩ := ha; exact ⟨A, c, e⟩
          have HBB := Lib.hid (HBr.out.trans (b4.mono HBr.out.size))
          clear ha b4 K3 HBr hok
          have KW := Lib.hid (wakes_any w4)
          go_wp2_with fail
          refine (show Calls _ _ _ _ _ from KW.out).mono ?_
          rintro e w9 ⟨rfl, b9⟩
          have HB9 := Lib.hid (HBB.out.trans (b9.mono HBB.out.size))
          clear b9 KW
          go_wp2
          go_ret
          exact ⟨rfl, HB9.out⟩
        · have a1 : decide (W < 2) = false := decide_eq_false t1
          have a2 : decide (W > 400) = true := decide_eq_true (by omega)
          rw [linesI_no W hok] at K3
          go_wp2_with fail
          refine (show Calls _ _ _ _ _ from K3.out).mono ?_
          rintro e w4 ⟨ua, rfl, ha, b4⟩
          obtain ⟨Aa, ca, rfl⟩ : ∃ A c, ua = .slice A 0 c := by obtain ⟨A, c, e, -⟩ := ha; exact ⟨A, c, e⟩
          have HBB := Lib.hid (HBr.out.trans (b4.mono HBr.out.size))
          clear ha b4 K3 HBr hok
          have KW := Lib.hid (wakes_any w4)
          go_wp2_with fail
          refine (show Calls _ _ _ _ _ from KW.out).mono ?_
          rintro e w9 ⟨rfl, b9⟩
          have HB9 := Lib.hid (HBB.out.trans (b9.mono HBB.out.size))
          clear b9 KW
          go_wp2
          go_ret
          exact ⟨rfl, HB9.out⟩
end Go.Proofs.Ytifolcfnknlmdaa.Re
