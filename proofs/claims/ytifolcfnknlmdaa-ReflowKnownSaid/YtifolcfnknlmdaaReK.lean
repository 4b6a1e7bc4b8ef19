/- Layer 15: the document's Place. -/
import Derived.Test.YtifolcfnknlmdaaReJ
set_option linter.unusedVariables false
namespace Go.Proofs.Ytifolcfnknlmdaa.Re
open Go.RowKit Go.Proofs.Ytifolcfnknlmdaa.Rw

/-- Between two paragraphs: k of them behind, d lines down; the k-th begins at f. -/
structure PlRel (B W X Y : Nat) (l : List LnC) (V wz : World) (t fv : Value) (us : List Value) (k d f : Nat) : Prop where
  st : PState B wz t fv us (paras blC l) (startsB 0 l)
  old : Below V.heap.size V wz
  beg : (startsB 0 l)[k]? = some f
  le : f ≤ Y
  pl : placeA W X [] 0 Y l = placeA W X [] d (Y - f) (l.drop f)
  sm : d ≤ k * 100001
set_option maxRecDepth 100000 in
set_option maxHeartbeats 8000000 in
theorem place_any {F : Nat → Prop} {v : Value} {l : List LnC} {w : World} (h : LinesAt F w v l) (hl : l.length ≤ 100000) (hs : sumV l ≤ 100000) (W x y : Int) (hx : x ≤ 9223372036854775807) : Calls Try.prog 16 #[v, .int .i64 W, .int .i64 x, .int .i64 y] w fun e w' => e = .returned (.tuple #[.int .i64 ((placeI l W x y).1 : Int), .int .i64 ((placeI l W x y).2 : Int)]) ∧ Below w.heap.size w w' := by
  obtain ⟨A, c, rfl, -⟩ := id h
  obtain ⟨n, hn⟩ : ∃ n, n = l.length := ⟨_, rfl⟩
  rw [← hn] at h hl ⊢
  by_cases hok : okI l W x y = true
  · have hh : 2 ≤ W ∧ W ≤ 400 ∧ 0 ≤ x ∧ 0 ≤ y ∧ y < n := by
      unfold okI at hok
      simp only [Bool.and_eq_true, decide_eq_true_eq] at hok
      omega
    obtain ⟨W', rfl⟩ : ∃ W' : Nat, W = (W' : Int) := ⟨W.toNat, by omega⟩
    obtain ⟨Y, rfl⟩ : ∃ Y : Nat, y = (Y : Int) := ⟨y.toNat, by omega⟩
    obtain ⟨X0, rfl⟩ : ∃ X0 : Nat, x = (X0 : Int) := ⟨x.toNat, by omega⟩
    have hYn : Y < n := by omega
    have hW2 : 2 ≤ W' := by omega
    have hW4 : W' ≤ 400 := by omega
    obtain ⟨X, hX⟩ : ∃ X, X = min X0 1048576 := ⟨_, rfl⟩
    have hpi : placeI l (W' : Int) (X0 : Int) (Y : Int) = placeA W' X [] 0 Y l := by
      unfold placeI placeV
      rw [if_pos hok, Int.toNat_natCast, Int.toNat_natCast, Int.toNat_natCast]
      by_cases hc : X0 ≤ 1048576
      · rw [hX, Nat.min_eq_left hc]
      · rw [hX, Nat.min_eq_right (by omega)]
        exact place_cap W' X0 hW4 l [] 0 Y (by rw [List.length_nil]; omega) (by omega)
    have hXs : X ≤ 1048576 := by omega
    obtain ⟨PI, hPI⟩ : ∃ PI, PI = placeI l (W' : Int) (X0 : Int) (Y : Int) := ⟨_, rfl⟩
    rw [← hPI] at hpi ⊢
    have HPI := Lib.hid hpi
    clear hPI
    have HL := Lib.hid h
    have HN := Lib.hid hn
    have KP := Lib.hid (paras_any h (by rw [← hn]; exact hl) hs)
    have HS := Lib.hid hs
    have a1 : decide ((W' : Int) < 2) = false := decide_eq_false (by omega)
    have a2 : decide ((W' : Int) > 400) = false := decide_eq_false (by omega)
    have a3 : decide ((X0 : Int) < 0) = false := decide_eq_false (by omega)
    have a4 : decide ((Y : Int) < 0) = false := decide_eq_false (by omega)
    have a5 : decide ((Y : Int) ≥ (n : Int)) = false := decide_eq_false (by omega)
    clear hpi h hn hs hok hh
    have a5' : decide (n ≤ Y) = false := decide_eq_false (by omega)
    have hcap : (X0 > 1048576 ∧ X = 1048576) ∨ (¬ X0 > 1048576 ∧ X0 = X) := by
      by_cases hc : X0 > 1048576
      · exact Or.inl ⟨hc, by omega⟩
      · exact Or.inr ⟨hc, by omega⟩
    have hcap2 : (decide ((X0 : Int) > 1048576) = true ∧ (decide (X < X0) = true ∧ decide (1048576 < X0) = true) ∧ (1048576 : Int) = (X : Int)) ∨ (decide ((X0 : Int) > 1048576) = false ∧ decide (1048576 < X0) = false ∧ X = X0) := by
      rcases hcap with ⟨h1, h2⟩ | ⟨h1, h2⟩
      · exact Or.inl ⟨decide_eq_true (by omega), ⟨decide_eq_true (by omega), decide_eq_true (by omega)⟩, by omega⟩
      · exact Or.inr ⟨decide_eq_false (by omega), decide_eq_false (by omega), h2.symm⟩
    clear hX hcap
    rcases hcap2 with ⟨a6, ⟨a7, a8⟩, hX⟩ | ⟨a6, a7, rfl⟩
    all_goals
      go_enter Try.func16, Try.ntmps16
      go_wp2_with fail
      refine (show Calls _ _ _ _ _ from KP.out).mono ?_
      rintro e w1 ⟨t, fv, us, rfl, hst, hb1⟩
      have HB1 := Lib.hid hb1
      have hY0 : l ≠ [] := fun e => by have := HN.out; rw [e] at this; simp at this; omega
      have h00 : (startsB 0 l)[0]? = some 0 := by
        cases hl0 : l with
        | nil => exact absurd hl0 hY0
        | cons a r => rw [starts_cons]; rfl
      have H0 := Lib.hid (PlRel.mk (W := W') (X := X) hst (Below.refl _ _) h00 (Nat.zero_le Y) rfl (Nat.le_refl _))
      have HPs : Hid (∀ p ∈ paras blC l, p.length ≤ 100000) := Lib.hid fun p hp => by have h1 := para_small l [] p hp; have h2 := HS.out; rw [List.length_nil] at h1; omega
      obtain ⟨P, hP⟩ : ∃ P, P = (startsB 0 l).length := ⟨_, rfl⟩
      have hPn : P ≤ 100000 := by
        have h1 := paras_count l []
        have h2 := starts_len l
        have h3 : (paras blC l).length ≤ l.length := h1
        have h4 := HN.out
        omega
      obtain ⟨At, nt, ct, rfl⟩ : ∃ At nt ct, t = .slice At nt ct := by obtain ⟨a, b, e⟩ := ownG_slice hst.out; exact ⟨_, _, _, e⟩
      obtain ⟨Af, nf, cf, rfl⟩ : ∃ Af nf cf, fv = .slice Af nf cf := by obtain ⟨a, b, e⟩ := ownG_slice hst.fst; exact ⟨_, _, _, e⟩
      have hln := hst.lens
      rw [← starts_len, ← hP] at hln
      rw [hln.1, hln.2] at H0 ⊢
      have HP := Lib.hid hP
      have hP0 : 0 < P := by rw [hP]; exact (List.getElem?_eq_some_iff.1 h00).1
      clear KP hst hb1 hY0 h00 hP hln a1 a2 a3 a4 a5 a5' a6 a7
      go_wp2
      go_loopw [12, 13, 14, 15] (fun vk vd vm vq wr => ∃ (k d f : Nat) (wz : World), wz = wr ∧ vk = .int .i64 k ∧ vd = .int .i64 d ∧ k < P ∧ Hid (PlRel w.heap.size W' X Y l w1 wz (.slice At P ct) (.slice Af P cf) us k d f)) (fun vk _ _ _ _ => P - (RowKit.intOf vk).toNat)
      case atStart => exact ⟨0, 0, 0, _, rfl, rfl, rfl, hP0, H0⟩
      case round =>
        obtain ⟨k, d, f, wr, rfl, rfl, rfl, hkP, HR⟩ := hrel
        have zk : IntKind.i64.wrap ((k : Int) + 1) = ((k + 1 : Nat) : Int) := by rw [IntWalk.i64_in _ (by omega)]; omega
        obtain ⟨k1, hk1⟩ : ∃ k1, k1 = k + 1 := ⟨_, rfl⟩
        rw [← hk1] at zk
        have HK1 := Lib.hid hk1
        have hnx := starts_at l k f HR.out.beg
        by_cases hnext : ∃ f', (startsB 0 l)[k1]? = some f' ∧ f' ≤ Y
        · obtain ⟨f', hf', hle⟩ := hnext
          have hk1P : k1 < P := by rw [HP.out]; exact (List.getElem?_eq_some_iff.1 hf').1
          obtain ⟨g, rfl, hg, q0⟩ := HR.out.st.num_at hf'
          have i1 := idx_num g P cf k1 hk1P
          have e1 : decide ((k1 : Int) < (P : Int)) = true := decide_eq_true (by omega)
          have e1' : decide (k1 < P) = true := decide_eq_true hk1P
          have e2 : decide ((f' : Int) ≤ (Y : Int)) = true := decide_eq_true (by omega)
          have e2' : decide (f' ≤ Y) = true := decide_eq_true hle
          have hkl : k < (paras blC l).length := by rw [← starts_len, ← HP.out]; exact hkP
          obtain ⟨-, g2, A2, c2, rfl, hg2, q2, hli⟩ := HR.out.st.row_at hkl
          have i2 := idx_row g2 P ct k hkP
          have hpk : (paras blC l).getD k [] = paraHd [] (l.drop f) := by rw [List.getD_eq_getElem?_getD, hnx.2.1]; rfl
          obtain ⟨p, hp⟩ : ∃ p, p = (paras blC l).getD k [] := ⟨_, rfl⟩
          rw [← hp] at q2 hli hpk
          have hp5 : p.length ≤ 100000 := by
            refine HPs.out p ?_
            rw [hp, List.getD_eq_getElem?_getD, List.getElem?_eq_getElem hkl]
            exact List.getElem_mem hkl
          have KA := Lib.hid (at_any hli hp5 W' hW2 hW4)
          have HHd : Hid (f < f' ∧ (contA f (l.drop f)).head? = some f') := Lib.hid (by
            have h1 : (contA f (l.drop f)).head? = some f' := by rw [← hnx.2.2.1, ← hk1]; exact hf'
            have h2 : l.drop f ≠ [] := fun e => by rw [e] at h1; cases h1
            exact ⟨((cont_at (l.drop f) [] f h2).2.1 f' (List.mem_of_mem_head? (by rw [h1]; rfl))).1, h1⟩)
          have HPk := Lib.hid hpk
          have Hf' := Lib.hid (And.intro hf' hle)
          clear hnx hg hg2 hli hp hpk hf' hle hkl hk1
          go_wp2_with fail
          refine (show Calls _ _ _ _ _ from KA.out).mono ?_
          rintro e w2 ⟨o, va, rfl, hlo, hpo, hb2⟩
          obtain ⟨Ao, co, rfl, -⟩ := id hlo
          obtain ⟨q, hq⟩ : ∃ q, q = (lay blC wdC W' p).length := ⟨_, rfl⟩
          have hql : q ≤ 100001 := by rw [hq]; have := lay_len W' p.length p (Nat.le_refl _); omega
          have hdl : d ≤ k * 100001 := HR.out.sm
          have hkk : k ≤ 100000 := by omega
          have hd9 : d ≤ 100000 * 100001 := Nat.le_trans hdl (Nat.mul_le_mul_right _ hkk)
          have zd : IntKind.i64.wrap ((d : Int) + (q : Int)) = ((d + q : Nat) : Int) := by rw [IntWalk.i64_in _ (by omega)]; omega
          have H9 : Hid (PlRel w.heap.size W' X Y l w1 w2 (.slice (some ⟨g2, 0, none⟩) P ct) (.slice (some ⟨g, 0, none⟩) P cf) us k1 (d + q) f') := Lib.hid ⟨HR.out.st.below hb2, HR.out.old.trans (hb2.mono HR.out.old.size), Hf'.out.1, Hf'.out.2, by
            have h0 := place_past W' X (l.drop f) [] d (Y - f) f f' HHd.out.2 (by have := HR.out.le; have := Hf'.out.2; omega)
            have h1 := HR.out.le
            have h2 := HHd.out.1
            rw [HR.out.pl, h0, ← HPk.out, ← hq, List.drop_drop, show f + (Y - f) - f' = Y - f' by omega, show f + (f' - f) = f' by omega], by
            have := HK1.out
            rw [this, Nat.add_mul, Nat.one_mul]
            omega⟩
          rw [← hq]
          obtain ⟨d9, hd9'⟩ : ∃ d9, d9 = d + q := ⟨_, rfl⟩
          rw [← hd9'] at zd H9
          clear hq hql hdl hkk hd9 hd9' hlo hpo hb2 KA HHd HPk Hf' q0 q2
          go_wp2
          go_roundw
          case rel => exact ⟨k1, d9, f', _, rfl, by go_num, rfl, hk1P, H9⟩
          case measure => have := HK1.out; simp [RowKit.intOf]; omega
        · have HHere : Hid (∀ f', (contA f (l.drop f)).head? = some f' → f + (Y - f) < f') := Lib.hid fun f' h1 => by
            have h2 : (startsB 0 l)[k1]? = some f' := by rw [hk1, hnx.2.2.1]; exact h1
            have h3 : ¬ f' ≤ Y := fun e => hnext ⟨f', h2, e⟩
            have := HR.out.le
            omega
          go_upto_region 8 with fail
          go_cut [63] (fun s wc => s = .bool false ∧ wr = wc)
          case first =>
            by_cases hk1P : k1 < P
            · have e1 : decide ((k1 : Int) < (P : Int)) = true := decide_eq_true (by omega)
              have e1' : decide (k1 < P) = true := decide_eq_true hk1P
              obtain ⟨f', hf'⟩ : ∃ f', (startsB 0 l)[k1]? = some f' := ⟨_, List.getElem?_eq_getElem (by rw [← HP.out]; exact hk1P)⟩
              have hle : ¬ f' ≤ Y := fun e => hnext ⟨f', hf', e⟩
              obtain ⟨g, rfl, hg, q0⟩ := HR.out.st.num_at hf'
              have i1 := idx_num g P cf k1 hk1P
              have e2 : decide ((f' : Int) ≤ (Y : Int)) = false := decide_eq_false (by omega)
              have e2' : decide (f' ≤ Y) = false := decide_eq_false hle
              clear hnx hnext hg hk1 hf'
              go_wp2
              go_meet
              exact ⟨rfl, rfl⟩
            · have e1 : decide ((k1 : Int) < (P : Int)) = false := decide_eq_false (by omega)
              have e1' : decide (k1 < P) = false := decide_eq_false hk1P
              clear hnx hnext hk1
              go_wp2
              go_meet
              exact ⟨rfl, rfl⟩
          case rest =>
          obtain ⟨rfl, rfl⟩ := hcut
          obtain ⟨b, o, u, rfl, -, hb, q0, q1, q2, r0⟩ := HL.out.at_ hYn
          obtain ⟨A', c', rfl, -⟩ := id r0.1
          obtain ⟨N, hN⟩ : ∃ N, N = (l.getD Y noLn).cells.length := ⟨_, rfl⟩
          rw [← hN] at q0
          have i1 := idx_given b o n c Y hYn
          have HBw : Hid (Below w.heap.size w wr) := Lib.hid (HB1.out.trans (HR.out.old.mono HB1.out.size))
          have Q0 := fun (V : World) (hV : Below w.heap.size w V) => (hV.cell (p := ⟨b, o + Y * 3, none⟩) hb).trans q0
          have Q1 := fun (V : World) (hV : Below w.heap.size w V) => (hV.cell (p := ⟨b, o + Y * 3 + 1, none⟩) hb).trans q1
          have Q2 := fun (V : World) (hV : Below w.heap.size w V) => (hV.cell (p := ⟨b, o + Y * 3 + 2, none⟩) hb).trans q2
          have hN5 : N ≤ 100000 := by rw [hN]; exact Nat.le_trans (cells_le l Y) HS.out
          obtain ⟨C, hC⟩ : ∃ C, C = cntN (l.getD Y noLn) := ⟨_, rfl⟩
          have KC : Hid (∀ V, Calls Try.prog 31 #[.agg #[.slice A' N c', .bool (l.getD Y noLn).joined, .bool (l.getD Y noLn).short]] V fun e w' => e = .returned (.int .i64 (C : Int)) ∧ Below V.heap.size V w') := Lib.hid fun V => by
            refine (count_any (A := A') (c := c') (l.getD Y noLn).joined (l.getD Y noLn).short V (n := N) (by omega)).mono fun e w' ⟨he, hb⟩ => ⟨?_, hb⟩
            rw [he, hC, cntN, ← hN]
          obtain ⟨n1, hn1⟩ : ∃ n1, n = n1 + 1 := ⟨n - 1, by omega⟩
          have zn : IntKind.i64.wrap ((n : Int) - 1) = (n1 : Int) := by rw [IntWalk.i64_in _ (by omega)]; omega
          obtain ⟨XI, hXI⟩ : ∃ XI, XI = inLine (l.drop f) X (Y - f) := ⟨_, rfl⟩
          obtain ⟨a, ha⟩ : ∃ a, a = aheadV (l.drop f) (Y - f) := ⟨_, rfl⟩
          obtain ⟨p, hp⟩ : ∃ p, p = paraHd [] (l.drop f) := ⟨_, rfl⟩
          have hYf : f + (Y - f) = Y := by have := HR.out.le; omega
          have HT : Hid (PI = ((spot W' p (a + XI)).1, d + (spot W' p (a + XI)).2)) := Lib.hid (by
            have h0 := place_here W' X (l.drop f) [] d (Y - f) f (by rw [List.length_drop, ← HN.out]; have := HR.out.le; omega) HHere.out
            rw [List.length_nil, Nat.zero_add, ← ha, ← hXI, ← hp] at h0
            rw [HPI.out, HR.out.pl]
            exact h0)
          have hXc : XI = if (l.getD Y noLn).joined = true ∧ Y < n1 ∧ C < X then C else X := by
            rw [hXI, inLine, drop_getD, hYf, cntN_len, ← hC, List.length_drop, ← HN.out]
            have e : (Y - f + 1 < n - f) ↔ Y < n1 := by have := HR.out.le; omega
            simp only [e]
          have HXc := Lib.hid hXc
          obtain ⟨J, hJ⟩ : ∃ J, J = (l.getD Y noLn).joined := ⟨_, rfl⟩
          rw [← hJ] at Q1 KC hXc
          generalize (l.getD Y noLn).short = Sh at *
          have q0 := Q0 wr HBw.out
          have q1 := Q1 wr HBw.out
          have q2 := Q2 wr HBw.out
          have HA := Lib.hid ha
          have HPp := Lib.hid hp
          obtain ⟨b2, hb2⟩ : ∃ b2 : Bool, b2 = decide (J = true ∧ Y < n1 ∧ C < X) := ⟨_, rfl⟩
          have hX2 : XI = if b2 = true then C else X := by rw [hXc, hb2]; simp
          have HX2 := Lib.hid hX2
          have HN1 := Lib.hid hn1
          have hC5 : C ≤ 100000 := by rw [hC]; exact Nat.le_trans (cntN_le _) (by rw [← hN]; exact hN5)
          clear Q0 Q1 Q2 hC hN r0 hnx hnext hk1 hXI ha hp hXc HXc hJ hX2 hn1 HHere
          go_upto_region 12 with fail
          go_cut [99] (fun s wc => s = .bool b2 ∧ Below wr.heap.size wr wc)
          case first =>
            cases J with
            | false =>
              obtain rfl : b2 = false := by rw [hb2]; simp
              clear hb2
              go_wp2
              go_meet
              exact ⟨rfl, Below.refl _ _⟩
            | true =>
              by_cases hy : Y < n1
              · have e3 : decide ((Y : Int) < (n1 : Int)) = true := decide_eq_true (by omega)
                have e3' : decide (Y < n1) = true := decide_eq_true hy
                have e4 : decide (C < X) = b2 := by rw [hb2]; simp [hy]
                have e4' : decide ((X : Int) > (C : Int)) = b2 := by rw [← e4]; simp
                clear hb2 hy
                go_wp2_with fail
                refine (show Calls _ _ _ _ _ from KC.out _).mono ?_
                rintro e w3 ⟨rfl, hb3⟩
                go_wp2
                go_meet
                exact ⟨rfl, hb3⟩
              · have e3 : decide ((Y : Int) < (n1 : Int)) = false := decide_eq_false (by omega)
                have e3' : decide (Y < n1) = false := decide_eq_false hy
                obtain rfl : b2 = false := by rw [hb2]; simp [hy]
                clear hb2 hy
                go_wp2
                go_meet
                exact ⟨rfl, Below.refl _ _⟩
          case rest =>
          rename_i wc
          obtain ⟨rfl, hbc⟩ := hcut
          have hbl : b < wr.heap.size := Nat.lt_of_lt_of_le hb HBw.out.size
          have q0 := (hbc.cell (p := ⟨b, o + Y * 3, none⟩) hbl).trans q0
          have q1 := (hbc.cell (p := ⟨b, o + Y * 3 + 1, none⟩) hbl).trans q1
          have q2 := (hbc.cell (p := ⟨b, o + Y * 3 + 2, none⟩) hbl).trans q2
          have HBc := Lib.hid (HBw.out.trans (hbc.mono HBw.out.size))
          have HRc := Lib.hid (HR.out.st.below hbc)
          have hbeg := HR.out.beg
          have hpa := (starts_at l k f hbeg).2.1
          have hle := HR.out.le
          have hsm : d ≤ 100000 * 100001 := Nat.le_trans HR.out.sm (Nat.mul_le_mul_right _ (by omega))
          have Hpa := Lib.hid hpa
          obtain ⟨T, hT⟩ : ∃ T, f + T = Y := ⟨Y - f, by omega⟩
          have hTe : Y - f = T := by omega
          have ha := HA.out
          rw [hTe] at ha
          have HA2 := Lib.hid ha
          clear HA HR hbc hb2 hpa ha hTe hbl
          cases b2
          case' true =>
            have hxc : XI = C := by rw [HX2.out]; rfl
            subst hxc
            go_wp2_with fail
            refine (show Calls _ _ _ _ _ from KC.out _).mono ?_
            rintro e wc ⟨rfl, hb4⟩
            have HRc := Lib.hid (HRc.out.below hb4)
            have HBc := Lib.hid (HBc.out.trans (hb4.mono HBc.out.size))
            clear hb4
          case' false =>
            have hxc : XI = X := by rw [HX2.out]; rfl
            subst hxc
          all_goals
            obtain ⟨g, rfl, hg, k0⟩ := HRc.out.num_at hbeg
            have i2 := idx_num g P cf k hkP
            clear hg q0 q1 q2 HX2
            go_wp2
            go_loopw [16, 17] (fun va vi wr => ∃ (t : Nat) (wz : World), wz = wr ∧ t ≤ T ∧ vi = .int .i64 ((f + t : Nat) : Int) ∧ va = .int .i64 ((aheadV (l.drop f) t : Nat) : Int) ∧ Hid (Below wc.heap.size wc wz)) (fun _ vi _ => Y - (RowKit.intOf vi).toNat)
            case atStart => exact ⟨0, _, rfl, Nat.zero_le _, by rw [Nat.add_zero], rfl, Lib.hid (Below.refl _ _)⟩
            case round =>
              obtain ⟨t2, W2, rfl, ht, rfl, rfl, HB2⟩ := hrel
              obtain ⟨ii, hii⟩ : ∃ ii, f + t2 = ii := ⟨_, rfl⟩
              obtain ⟨aa, haa⟩ : ∃ aa, aheadV (l.drop f) t2 = aa := ⟨_, rfl⟩
              have ha5 : aa ≤ 100000 := by rw [← haa]; exact Nat.le_trans (ahead_le _ _) (Nat.le_trans (sum_drop l f) HS.out)
              rw [hii, haa]
              have HBw2 := Lib.hid (HBc.out.trans (HB2.out.mono HBc.out.size))
              by_cases hlt : ii < Y
              · have e5 : decide ((ii : Int) < (Y : Int)) = true := decide_eq_true (by omega)
                obtain ⟨b', o', u', e, -, hb', q0, q1, q2, r0⟩ := HL.out.at_ (k := ii) (by omega)
                cases e
                obtain ⟨A9, c9, rfl, -⟩ := id r0.1
                obtain ⟨N9, hN9⟩ : ∃ N, N = (l.getD ii noLn).cells.length := ⟨_, rfl⟩
                rw [← hN9] at q0
                have hN95 : N9 ≤ 100000 := by rw [hN9]; exact Nat.le_trans (cells_le l ii) HS.out
                have i3 := idx_given b o n c ii (by omega)
                have q0 := (HBw2.out.cell (p := ⟨b, o + ii * 3, none⟩) hb').trans q0
                have q1 := (HBw2.out.cell (p := ⟨b, o + ii * 3 + 1, none⟩) hb').trans q1
                have q2 := (HBw2.out.cell (p := ⟨b, o + ii * 3 + 2, none⟩) hb').trans q2
                obtain ⟨C9, hC9⟩ : ∃ C, C = cntN (l.getD ii noLn) := ⟨_, rfl⟩
                have KC9 : Hid (Calls Try.prog 31 #[.agg #[.slice A9 N9 c9, .bool (l.getD ii noLn).joined, .bool (l.getD ii noLn).short]] W2 fun e w' => e = .returned (.int .i64 (C9 : Int)) ∧ Below W2.heap.size W2 w') := Lib.hid (by
                  refine (count_any (A := A9) (c := c9) (l.getD ii noLn).joined (l.getD ii noLn).short W2 (n := N9) (by omega)).mono fun e w' ⟨he, hb⟩ => ⟨?_, hb⟩
                  rw [he, hC9, cntN, ← hN9])
                have hC95 : C9 ≤ 100000 := by rw [hC9]; exact Nat.le_trans (cntN_le _) (by rw [← hN9]; exact hN95)
                have ha9 : aheadV (l.drop f) (t2 + 1) = aa + C9 := by rw [aheadV, haa, drop_getD, hii, cntN_len, ← hC9]
                have za : IntKind.i64.wrap ((aa : Int) + (C9 : Int)) = ((aa + C9 : Nat) : Int) := by rw [IntWalk.i64_in _ (by omega)]; omega
                obtain ⟨a9, ha9'⟩ : ∃ a9, a9 = aa + C9 := ⟨_, rfl⟩
                rw [← ha9'] at za ha9
                have Ha9 := Lib.hid ha9
                have Hii := Lib.hid hii
                generalize (l.getD ii noLn).joined = J9 at *
                generalize (l.getD ii noLn).short = S9 at *
                clear r0 hb' hN9 hC9 haa ha9 ha9' hii
                go_wp2_with fail
                refine (show Calls _ _ _ _ _ from KC9.out).mono ?_
                rintro e W3 ⟨rfl, hb5⟩
                have HB3 := Lib.hid (HB2.out.trans (hb5.mono HB2.out.size))
                clear hb5 KC9 q0 q1 q2
                go_wp2
                go_roundw
                case rel => exact ⟨t2 + 1, _, rfl, by have := Hii.out; omega, by have := Hii.out; go_num, by rw [Ha9.out], HB3⟩
                case measure => have := Hii.out; simp [RowKit.intOf]; omega
              · have e5 : decide ((ii : Int) < (Y : Int)) = false := decide_eq_false (by omega)
                have haY : a = aa := by
                  have h0 := HA2.out
                  rw [← haa, show t2 = T by omega]
                  exact h0
                obtain rfl : a = aa := haY
                clear haa
                have HR2 := Lib.hid (HRc.out.below HB2.out)
                have hkl : k < (paras blC l).length := by rw [← starts_len, ← HP.out]; exact hkP
                obtain ⟨-, g2, A2, c2, rfl, hg2, r2, hli⟩ := HR2.out.row_at hkl
                have i4 := idx_row g2 P ct k hkP
                have hpk : (paras blC l).getD k [] = p := by rw [List.getD_eq_getElem?_getD, Hpa.out, HPp.out]; rfl
                rw [hpk] at r2 hli
                have hp5 : p.length ≤ 100000 := by
                  refine HPs.out p ?_
                  rw [← hpk, List.getD_eq_getElem?_getD, List.getElem?_eq_getElem hkl]
                  exact List.getElem_mem hkl
                have KA := Lib.hid (at_any hli hp5 W' hW2 hW4)
                obtain ⟨M, hM⟩ : ∃ M, M = p.length := ⟨_, rfl⟩
                have HM := Lib.hid hM
                rw [← hM] at r2 hp5
                clear hkl hg2 hli hpk
                rw [← hM] at KA
                clear hM
                go_wp2_with fail
                refine (show Calls _ _ _ _ _ from KA.out).mono ?_
                rintro e W3 ⟨o3, va3, rfl, hlo, hpo, hb6⟩
                obtain ⟨Ao, co, rfl, -⟩ := id hlo
                obtain ⟨Ap, Np, cp, rfl⟩ : ∃ Ap Np cp, va3 = .slice Ap Np cp := by obtain ⟨a, b, e⟩ := ownG_slice hpo; exact ⟨_, _, _, e⟩
                have hNp : Np = M := by
                  obtain ⟨_, _, e⟩ := ownG_slice hpo
                  injection e with _ e _
                  rw [e, pairsOf, List.length_map, posV_len, HM.out]
                obtain rfl := hNp
                have HPo := Lib.hid hpo
                have HB3 : Hid (Below w.heap.size w W3) := Lib.hid (HBw2.out.trans (hb6.mono HBw2.out.size))
                obtain ⟨q, hq⟩ : ∃ q, q = (lay blC wdC W' p).length := ⟨_, rfl⟩
                have hq5 : q ≤ 100001 := by have := lay_len W' p.length p (Nat.le_refl _); have := HM.out; omega
                have hq1 : 1 ≤ q := by rw [hq]; exact List.length_pos_iff.2 (lay_ne blC wdC W' p)
                rw [← hq]
                have Hq := Lib.hid hq
                clear hlo hpo hb6 hq KA HR2 r2
                by_cases hin : a + XI < Np
                · obtain ⟨m1, hm1⟩ : ∃ m1, m1 = Np - a := ⟨_, rfl⟩
                  have zA : IntKind.i64.wrap ((Np : Int) - (a : Int)) = (m1 : Int) := by rw [IntWalk.i64_in _ (by omega)]; omega
                  have e6 : decide ((XI : Int) < (m1 : Int)) = true := decide_eq_true (by omega)
                  have e6' : decide (XI < m1) = true := decide_eq_true (by omega)
                  have zS : IntKind.i64.wrap ((a : Int) + (XI : Int)) = ((a + XI : Nat) : Int) := by rw [IntWalk.i64_in _ (by omega)]; omega
                  obtain ⟨-, g9, rfl, hg9, s0, s1⟩ := pair_at HPo.out (k := a + XI) (by rw [posV_len, ← HM.out]; exact hin)
                  have i9 := idx_pair g9 Np cp (a + XI) hin
                  have hpg := posV_get W' p p.length (a + XI) (by rw [← HM.out]; exact hin)
                  rw [hpg] at s0 s1
                  have hsp : spot W' p (a + XI) = pos blC wdC W' p (a + XI) := by unfold spot; rw [if_pos (by rw [← HM.out]; exact hin)]
                  have hpc := pos_cell blC wdC W' hW2 p.length p (a + XI) (Nat.le_refl _) (by rw [← HM.out]; exact hin)
                  obtain ⟨sx, hsx⟩ : ∃ sx, sx = a + XI := ⟨_, rfl⟩
                  have HTv : Hid (PI = ((pos blC wdC W' p sx).1, d + (pos blC wdC W' p sx).2)) := Lib.hid (by rw [hsx]; have h0 := HT.out; rw [hsp] at h0; exact h0)
                  rw [← hsx] at zS i9 s0 s1 hpc
                  obtain ⟨py, hpy⟩ : ∃ py, py = (pos blC wdC W' p sx).2 := ⟨_, rfl⟩
                  obtain ⟨px, hpx⟩ : ∃ px, px = (pos blC wdC W' p sx).1 := ⟨_, rfl⟩
                  have hpy5 : py ≤ 100001 := by
                    obtain ⟨_, h1, _, _⟩ := hpc
                    have := (List.getElem?_eq_some_iff.1 h1).1
                    have := Hq.out
                    omega
                  rw [← hpx] at s0 HTv
                  rw [← hpy] at s1 HTv
                  have zd : IntKind.i64.wrap ((d : Int) + (py : Int)) = ((d + py : Nat) : Int) := by rw [IntWalk.i64_in _ (by omega)]; omega
                  obtain ⟨dy, hdy⟩ : ∃ dy, dy = d + py := ⟨_, rfl⟩
                  rw [← hdy] at zd HTv
                  clear hin hm1 hpg hsp hpc hsx hpy hpx hdy hg9
                  have hn4 := heap_alloc_new W3 (.cells #[.int .i64 (px : Int), .int .i64 (py : Int)] 73 (0, 0))
                  have hb4 := (Below.refl W3.heap.size W3).alloc (Nat.le_refl _) (.cells #[.int .i64 (px : Int), .int .i64 (py : Int)] 73 (0, 0))
                  have HB4 := Lib.hid (HB3.out.trans (hb4.mono HB3.out.size))
                  have hs4 : W3.heap.size < (W3.alloc (.cells #[.int .i64 (px : Int), .int .i64 (py : Int)] 73 (0, 0))).heap.size := by simp
                  go_wp2
                  generalize W3.alloc (.cells #[.int .i64 (px : Int), .int .i64 (py : Int)] 73 (0, 0)) = W4 at *
                  have c0 := fun (V : World) (hV : Below W4.heap.size W4 V) => cell_of ((hV.block _ hs4).trans hn4) 0
                  have c1 := fun (V : World) (hV : Below W4.heap.size W4 V) => cell_of ((hV.block _ hs4).trans hn4) 1
                  have kd := below_drew (Below.refl W4.heap.size W4) 1
                  have HBf := Lib.hid (below_drew HB4.out 1)
                  clear hn4 hb4 HB4 hs4
                  go_region_held3 (fun V => Below W4.heap.size W4 V) (assumption) (first | fail)
                  go_wp2
                  go_ret2
                  exact ⟨by rw [HTv.out]; rfl, HBf.out⟩
                · obtain ⟨Dn, hDn⟩ : ∃ Dn : Int, Dn = (Np : Int) - (a : Int) := ⟨_, rfl⟩
                  have zA : IntKind.i64.wrap ((Np : Int) - (a : Int)) = Dn := by rw [IntWalk.i64_in _ (by omega)]; exact hDn.symm
                  have e6 : decide ((XI : Int) < Dn) = false := decide_eq_false (by omega)
                  obtain ⟨mo, hmo⟩ : ∃ mo : Nat, mo = a + XI - Np := ⟨_, rfl⟩
                  have hXI5 : XI ≤ 1048576 := by omega
                  have zM : IntKind.i64.wrap ((XI : Int) - Dn) = (mo : Int) := by rw [IntWalk.i64_in _ (by omega)]; omega
                  obtain ⟨col, hcol⟩ : ∃ col, col = (if p.length = 0 then 0 else (pos blC wdC W' p (p.length - 1)).1 + 1) := ⟨_, rfl⟩
                  have hsp : spot W' p (a + XI) = (min (col + mo) (W' - 1), q - 1) := by
                    unfold spot
                    rw [if_neg (by rw [← HM.out]; omega), ← hcol, ← Hq.out, hmo, HM.out]
                  obtain ⟨W1, hW1⟩ : ∃ W1, W' = W1 + 1 := ⟨W' - 1, by omega⟩
                  have zW : IntKind.i64.wrap ((W' : Int) - 1) = (W1 : Int) := by rw [IntWalk.i64_in _ (by omega)]; omega
                  obtain ⟨dq, hdq⟩ : ∃ dq, dq = d + q := ⟨_, rfl⟩
                  obtain ⟨dr, hdr⟩ : ∃ dr, dr = d + (q - 1) := ⟨_, rfl⟩
                  have zq : IntKind.i64.wrap ((d : Int) + (q : Int)) = (dq : Int) := by rw [IntWalk.i64_in _ (by omega)]; omega
                  have zr : IntKind.i64.wrap ((dq : Int) - 1) = (dr : Int) := by rw [IntWalk.i64_in _ (by omega)]; omega
                  have HTv : Hid (PI = (min (col + mo) W1, dr)) := Lib.hid (by
                    have h0 := HT.out
                    rw [hsp] at h0
                    rw [h0, hdr, show W' - 1 = W1 by omega])
                  have hmo5 : mo ≤ 1148576 := by omega
                  by_cases h0 : Np = 0
                  · obtain rfl : col = 0 := by rw [hcol, if_pos (by rw [← HM.out]; exact h0)]
                    have e7 : decide ((Np : Int) > 0) = false := decide_eq_false (by omega)
                    have e7' : decide (0 < Np) = false := decide_eq_false (by omega)
                    have zR : IntKind.i64.wrap ((W1 : Int) - 0) = (W1 : Int) := by rw [IntWalk.i64_in _ (by omega)]; omega
                    have zR' : IntKind.i64.wrap (W1 : Int) = (W1 : Int) := by rw [IntWalk.i64_in _ (by omega)]
                    have zc : IntKind.i64.wrap ((0 : Int) + (mo : Int)) = (mo : Int) := by rw [IntWalk.i64_in _ (by omega)]; omega
                    have zc' : IntKind.i64.wrap (mo : Int) = (mo : Int) := by rw [IntWalk.i64_in _ (by omega)]
                    by_cases hm : mo > W1
                    · have e8 : decide ((mo : Int) > (W1 : Int)) = true := decide_eq_true (by omega)
                      have e8' : decide (W1 < mo) = true := decide_eq_true hm
                      have HTw : Hid (PI = (W1, dr)) := Lib.hid (by rw [HTv.out, show min (0 + mo) W1 = W1 by omega])
                      clear hDn hmo hcol hsp hW1 hdq hdr HTv hin h0 hm
                      go_wp2
                      go_ret2
                      exact ⟨by rw [HTw.out]; rfl, HB3.out⟩
                    · have e8 : decide ((mo : Int) > (W1 : Int)) = false := decide_eq_false (by omega)
                      have e8' : decide (W1 < mo) = false := decide_eq_false hm
                      have HTw : Hid (PI = (mo, dr)) := Lib.hid (by rw [HTv.out, show min (0 + mo) W1 = mo by omega])
                      clear hDn hmo hcol hsp hW1 hdq hdr HTv hin h0 hm
                      go_wp2
                      go_ret2
                      exact ⟨by rw [HTw.out]; rfl, HB3.out⟩
                  · have hpl0 : ¬ p.length = 0 := by rw [← HM.out]; exact h0
                    rw [if_neg hpl0] at hcol
                    obtain ⟨N1, hN1⟩ : ∃ N1, N1 = Np - 1 := ⟨_, rfl⟩
                    have e7 : decide ((Np : Int) > 0) = true := decide_eq_true (by omega)
                    have e7' : decide (0 < Np) = true := decide_eq_true (by omega)
                    have zN : IntKind.i64.wrap ((Np : Int) - 1) = (N1 : Int) := by rw [IntWalk.i64_in _ (by omega)]; omega
                    obtain ⟨-, g9, rfl, hg9, s0, s1⟩ := pair_at HPo.out (k := N1) (by rw [posV_len, ← HM.out]; omega)
                    have i9 := idx_pair g9 Np cp N1 (by omega)
                    rw [posV_get W' p p.length N1 (by rw [← HM.out]; omega)] at s0
                    obtain ⟨px, hpx⟩ : ∃ px, px = (pos blC wdC W' p N1).1 := ⟨_, rfl⟩
                    rw [← hpx] at s0
                    have hpc := pos_cell blC wdC W' hW2 p.length p N1 (Nat.le_refl _) (by rw [← HM.out]; omega)
                    have hpxW : px < W' := by obtain ⟨_, _, _, h3⟩ := hpc; rw [hpx]; exact h3
                    have hcp : col = px + 1 := by rw [hcol, hpx, hN1, HM.out]
                    have zp : IntKind.i64.wrap ((px : Int) + 1) = (col : Int) := by rw [IntWalk.i64_in _ (by omega)]; omega
                    obtain ⟨R, hR⟩ : ∃ R : Int, R = (W1 : Int) - (col : Int) := ⟨_, rfl⟩
                    have zR : IntKind.i64.wrap ((W1 : Int) - (col : Int)) = R := by rw [IntWalk.i64_in _ (by omega)]; exact hR.symm
                    obtain ⟨cm, hcm⟩ : ∃ cm, cm = col + mo := ⟨_, rfl⟩
                    have zc : IntKind.i64.wrap ((col : Int) + (mo : Int)) = (cm : Int) := by rw [IntWalk.i64_in _ (by omega)]; omega
                    by_cases hm : (mo : Int) > R
                    · have e8 : decide ((mo : Int) > R) = true := decide_eq_true hm
                      have HTw : Hid (PI = (W1, dr)) := Lib.hid (by rw [HTv.out, show min (col + mo) W1 = W1 by omega])
                      clear hDn hmo hcol hsp hW1 hdq hdr HTv hin h0 hm hN1 hg9 s1 hpx hpc hcp hR hcm hpl0
                      go_wp2
                      go_ret2
                      exact ⟨by rw [HTw.out]; rfl, HB3.out⟩
                    · have e8 : decide ((mo : Int) > R) = false := decide_eq_false hm
                      have HTw : Hid (PI = (cm, dr)) := Lib.hid (by rw [HTv.out, hcm, show min (col + mo) W1 = col + mo by omega])
                      clear hDn hmo hcol hsp hW1 hdq hdr HTv hin h0 hm hN1 hg9 s1 hpx hpc hcp hR hcm hpl0
                      go_wp2
                      go_ret2
                      exact ⟨by rw [HTw.out]; rfl, HB3.out⟩
  · have hpi : placeI l W x y = (0, 0) := by unfold placeI; rw [if_neg hok]
    rw [hpi]
    have hh : ¬ (2 ≤ W ∧ W ≤ 400 ∧ 0 ≤ x ∧ 0 ≤ y ∧ y < n) := by
      intro hh
      apply hok
      unfold okI
      simp only [Bool.and_eq_true, decide_eq_true_eq]
      omega
    have hg : decide (W < 2) = true ∨ decide (W < 2) = false ∧ (decide (W > 400) = true ∨ decide (W > 400) = false ∧ (decide (x < 0) = true ∨ decide (x < 0) = false ∧ (decide (y < 0) = true ∨ decide (y < 0) = false ∧ decide (y ≥ (n : Int)) = true))) := by
      simp only [decide_eq_true_eq, decide_eq_false_iff_not]
      omega
    clear h hn hs hok hpi hh hx
    rcases hg with a1 | ⟨a1, a2 | ⟨a2, a3 | ⟨a3, a4 | ⟨a4, a5⟩⟩⟩⟩
    all_goals
      go_enter Try.func16, Try.ntmps16
      go_wp2
      go_ret2
      exact ⟨rfl, Below.refl _ _⟩
end Go.Proofs.Ytifolcfnknlmdaa.Re
