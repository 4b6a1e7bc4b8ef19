/- Layer 11: RowBack's walk where the places are asked. -/
import Derived.Test.YthpnmhllgjibgaaRwU
set_option linter.unusedVariables false
namespace Go.Proofs.Ythpnmhllgjibgaa.Rw
open Go.RowKit

set_option maxRecDepth 100000 in
set_option maxHeartbeats 16000000 in
theorem back_yes (l : List Ce) (A : Option Addr) (N c X m : Nat) (xi ni : Int) (a : Aa) (w : World) (hxi : xi = (X : Int)) (hni : ni = (m : Int)) (hL : Lies w (.slice A N c) l) (h4 : N ≤ 400) (hw : wholeB l = true) (hm : 1 ≤ m) (hX : X + m ≤ N) :
    Calls Try.prog 5 #[.slice A N c, .int .i64 xi, .int .i64 ni, attrV a] w fun e w' => e = .returned (.bool true) ∧ Below w.heap.size w w' := by
  obtain ⟨W, hW, hB, _, hat⟩ := box_at w a
  have hLW := hL.below hB
  obtain ⟨hN, -, -, hR⟩ := hLW.row
  obtain ⟨b, o, rfl, hb, _⟩ := hR.at_ (k := X) (by omega)
  have HWk : Hid (∀ V, Calls Try.prog 9 #[] V fun e w' => e = .returned (.bool true) ∧ Below V.heap.size V w') := Lib.hid fun V => wakes_any V
  have HRW : Hid (Calls Try.prog 19 #[.slice (some ⟨b, o, none⟩) N c] W fun e w' => e = .returned (.bool true) ∧ Below W.heap.size W w') := Lib.hid (by
    have := rwhole_any l (some ⟨b, o, none⟩) N c W hLW (by omega)
    rwa [hw] at this)
  have hroom : roomV l.length (X : Int) (m : Int) = m := by unfold roomV; rw [if_neg (by omega)]; omega
  have hins : insV l (X : Int) (m : Int) a = insN l X m a := by unfold insV; rw [hroom, if_neg (by omega), Int.toNat_natCast]
  have hil : (insN l X m a).length = l.length := ins_len (by omega) a
  have hdel : delV (insN l X m a) (X : Int) (m : Int) a = delN (insN l X m a) X m a := by unfold delV; rw [hil, hroom, if_neg (by omega), Int.toNat_natCast]
  have hera : eraV l (X : Int) (m : Int) a = eraN l X m a := by unfold eraV; rw [hroom, if_neg (by omega), Int.toNat_natCast]
  have hIn : IntIn (m : Int) := by unfold IntIn; omega
  have HLu : Hid (∀ V, Below W.heap.size W V → Lies V (.slice (some ⟨b, o, none⟩) N c) l) := Lib.hid fun V hV => hLW.below hV
  have K1 : Hid (∀ V, Below W.heap.size W V → Calls Try.prog 15 #[.slice (some ⟨b, o, none⟩) N c, .int .i64 xi, .int .i64 ni, attrV a] V fun e w' => ∃ v, e = .returned v ∧ Lies w' v (insN l X m a) ∧ Below W.heap.size W w') := Lib.hid fun V hV => by
    have := pins_any _ l (X : Int) (m : Int) a V (HLu.out V hV) (by omega) hIn
    rw [hins, ← hxi, ← hni] at this
    exact this.mono fun _ _ ⟨v, he, ho, hbb⟩ => ⟨v, he, own_lies ho, hV.trans (hbb.mono hV.size)⟩
  have K2 : Hid (∀ V v, Below W.heap.size W V → Lies V v (insN l X m a) → Calls Try.prog 16 #[v, .int .i64 xi, .int .i64 ni, attrV a] V fun e w' => ∃ v, e = .returned v ∧ OwnC w' W.heap.size v (delN (insN l X m a) X m a) ∧ Below W.heap.size W w') := Lib.hid fun V v hV hv => by
    have := pdel_any v (insN l X m a) (X : Int) (m : Int) a V hv (by rw [hil]; omega) hIn
    rw [hdel, ← hxi, ← hni] at this
    exact this.mono fun _ _ ⟨v, he, ho, hbb⟩ => ⟨v, he, own_less ho hV.size, hV.trans (hbb.mono hV.size)⟩
  have K3 : Hid (∀ V, Below W.heap.size W V → Calls Try.prog 17 #[.slice (some ⟨b, o, none⟩) N c, .int .i64 xi, .int .i64 ni, attrV a] V (RowPost V (eraN l X m a))) := Lib.hid fun V hV => by
    have := pera_any _ l (X : Int) (m : Int) a V (HLu.out V hV) (by omega) hIn
    rwa [hera, ← hxi, ← hni] at this
  have HBl : Hid ((delN (insN l X m a) X m a).length = N) := Lib.hid (by rw [del_len (by omega) a, hil, hN])
  have HEl : Hid ((eraN l X m a).length = N) := Lib.hid (by rw [era_len (by omega) a, hN])
  have HBk : Hid (∀ k, k < N → cellV (delN (insN l X m a) X m a) k = if N - m ≤ k then blankC a else if cutK l X k = true ∨ lateK l (N - m) k = true then blankC (cellV l k).a else cellV l k) := Lib.hid fun k hk => by
    have := back_at hw (by omega : X + m ≤ l.length) hm a (k := k) (by omega)
    rwa [← hN] at this
  have HEk : Hid (∀ k, k < N → cellV (eraN l X m a) k = if X ≤ k ∧ k < X + m then blankC a else if (k + 1 = X ∧ wideV l X = 2) ∨ farK l (X + m) k = true then blankC (cellV l k).a else cellV l k) := Lib.hid fun k hk => erase_at hw (by omega) hm a (by omega)
  have HAt := Lib.hid hat
  have HR := Lib.hid hR
  have HN := Lib.hid hN
  have HW := Lib.hid hW
  have HB := Lib.hid hB
  have g1 : decide ((N : Int) > 400) = false := by simp; omega
  have g2 : decide (xi < 0) = false := by simp; omega
  have g3 : decide (xi ≥ (N : Int)) = false := by simp; omega
  have g4 : decide (ni < 1) = false := by simp; omega
  have g5 : decide (ni > (N : Int) - xi) = false := by simp; omega
  have z0 : IntKind.i64.wrap ((N : Int) - xi) = (N : Int) - xi := IntWalk.i64_in _ (by omega)
  have HXi := Lib.hid (And.intro hxi hni)
  have HXm := Lib.hid (And.intro hX (And.intro hm h4))
  generalize delN (insN l X m a) X m a = Bc at *
  generalize insN l X m a = Ic at *
  generalize eraN l X m a = Ec at *
  clear hxi hni hL hLW hB hW hat hR hN hw hm hX hroom hins hil hdel hera hIn hb
  go_enter Try.func5, Try.ntmps5
  go_wp2_with fail
  rw [← HW.out]
  refine (show Calls _ _ _ _ _ from HRW.out).mono ?_
  rintro e w0 ⟨rfl, b0⟩
  have B0 := Lib.hid b0
  have k0 : Below W.heap.size W w0 := b0
  have kd : Below W.heap.size W w0.drew := below_drew b0 1
  have a0 := fun V hV => cell_of (HAt.out V hV) 0
  have a1 := fun V hV => cell_of (HAt.out V hV) 1
  have a2 := fun V hV => cell_of (HAt.out V hV) 2
  have a3 := fun V hV => cell_of (HAt.out V hV) 3
  have a4 := fun V hV => cell_of (HAt.out V hV) 4
  clear b0 HRW
  go_wp2_with fail
  go_region_held3 (fun V => Below W.heap.size W V) (assumption)
    (first | (go_at_call 15; (with_reducible refine (K1.out _ (by assumption)).mono ?_); rintro e y1 ⟨v1, rfl, li, j1⟩) | (go_at_call 16; (with_reducible refine (K2.out _ _ (by assumption) (by assumption)).mono ?_); rintro e w3 ⟨v3, rfl, ho3, j3⟩))
  obtain ⟨gb, cb, rfl, _⟩ := own_somek ho3 (k := N) HBl.out.symm (by have := HXm.out; omega)
  have RB : Hid (∀ V, Below w3.heap.size w3 V → RowR V V.heap.size (some ⟨gb, 0, none⟩) Bc) := Lib.hid fun V hV => ((own_lies ho3).below hV).row.2.2.2
  have HE3 := Lib.hid (K3.out w3 j3)
  have B3 := Lib.hid j3
  have c0 := a0 w3 j3
  have c1 := a1 w3 j3
  have c2 := a2 w3 j3
  have c3 := a3 w3 j3
  have c4 := a4 w3 j3
  clear ho3 j3 li k0 kd K1 K2 K3 a0 a1 a2 a3 a4
  go_wp2_with fail
  refine (show Calls _ _ _ _ _ from HE3.out).mono ?_
  rintro e w4 ⟨v4, rfl, ho4, b4⟩
  obtain ⟨ge, ce, rfl, _⟩ := own_somek ho4 (k := N) HEl.out.symm (by have := HXm.out; omega)
  have RE : Hid (∀ V, Below w4.heap.size w4 V → RowR V V.heap.size (some ⟨ge, 0, none⟩) Ec) := Lib.hid fun V hV => ((own_lies ho4).below hV).row.2.2.2
  have B34 := Lib.hid b4
  have B4 := Lib.hid (B3.out.trans (b4.mono B3.out.size))
  have hat := HAt.out w4 B4.out
  have d0 := cell_of hat 0
  have d1 := cell_of hat 1
  have d2 := cell_of hat 2
  have d3 := cell_of hat 3
  have d4 := cell_of hat 4
  clear ho4 b4 hat HE3 c0 c1 c2 c3 c4
  obtain ⟨W5, hW5⟩ : ∃ W5, W5 = w4.alloc (cellO (blankC a)) := ⟨_, rfl⟩
  have hB5 : Below w4.heap.size w4 W5 := by rw [hW5]; exact (Below.refl _ _).alloc (Nat.le_refl _) _
  have hbl : W5.heap[w4.heap.size]? = some (cellO (blankC a)) := by rw [hW5]; exact heap_alloc_new w4 _
  have B5 := Lib.hid (B4.out.trans (hB5.mono B4.out.size))
  have B45 := Lib.hid hB5
  have HBlk : Hid (∀ V, Below W5.heap.size W5 V → V.heap[w4.heap.size]? = some (cellO (blankC a))) := Lib.hid fun V hV => (hV.block _ (blk_lt hbl)).trans hbl
  have RB5 : Hid (∀ V, Below W5.heap.size W5 V → RowR V V.heap.size (some ⟨gb, 0, none⟩) Bc) := Lib.hid fun V hV => RB.out V (B34.out.trans ((B45.out.trans (hV.mono B45.out.size)).mono B34.out.size))
  have RE5 : Hid (∀ V, Below W5.heap.size W5 V → RowR V V.heap.size (some ⟨ge, 0, none⟩) Ec) := Lib.hid fun V hV => RE.out V (B45.out.trans (hV.mono B45.out.size))
  have RL5 : Hid (∀ V, Below W5.heap.size W5 V → RowR V V.heap.size (some ⟨b, o, none⟩) l) := Lib.hid fun V hV => (HLu.out V (B5.out.trans (hV.mono B5.out.size))).row.2.2.2
  obtain ⟨pb, hpb⟩ : ∃ pb, pb = w4.heap.size := ⟨_, rfl⟩
  rw [← hpb] at HBlk
  have HP := Lib.hid hpb
  have HW5 := Lib.hid hW5
  clear hB5 hbl hW5 hpb
  go_upto_region 8 with fail
  change Code.wp _ _ _ _ (w4.alloc (cellO (blankC a)))
  rw [← HW5.out, ← HP.out]
  clear HP HW5 d0 d1 d2 d3 d4
  obtain ⟨E0, hE0⟩ : ∃ E0, E0 = N - m := ⟨_, rfl⟩
  obtain ⟨Y, hY⟩ : ∃ Y, Y = X + m := ⟨_, rfl⟩
  have HY := Lib.hid (And.intro hE0 hY)
  obtain ⟨ei, hei⟩ : ∃ ei : Int, ei = (E0 : Int) := ⟨_, rfl⟩
  obtain ⟨yi, hyi⟩ : ∃ yi : Int, yi = (Y : Int) := ⟨_, rfl⟩
  have HEi := Lib.hid (And.intro hei hyi)
  rw [← hE0] at HBk
  rw [← hY] at HEk
  have z1 : IntKind.i64.wrap (xi - 1) = xi - 1 := IntWalk.i64_in _ (by have := HXm.out; have := HXi.out; omega)
  have z2 : IntKind.i64.wrap ((N : Int) - ni) = ei := by rw [IntWalk.i64_in _ (by have := HXm.out; have := HXi.out; omega)]; have := HXm.out; have := HXi.out; omega
  have z3 : IntKind.i64.wrap (ei - 1) = ei - 1 := IntWalk.i64_in _ (by have := HXm.out; omega)
  have z4 : IntKind.i64.wrap (xi + ni) = yi := by rw [IntWalk.i64_in _ (by have := HXm.out; have := HXi.out; omega)]; have := HXi.out; omega
  clear hE0 hY hei hyi
  go_wp2
  go_loopw [12] (fun i wr => ∃ k : Nat, k ≤ N ∧ i = .int .i64 k ∧ Hid (Below W5.heap.size W5 wr)) (fun i _ => N - (RowKit.intOf i).toNat)
  case atStart => exact ⟨0, Nat.zero_le _, rfl, Lib.hid (Below.refl _ _)⟩
  case round =>
    obtain ⟨k, hk, rfl, HBr⟩ := hrel
    rename_i wr
    by_cases hlt : k < N
    · have glt : decide ((k : Int) < (N : Int)) = true := by simp; omega
      have HK := Lib.hid hlt
      obtain ⟨b', o', e', hbL, lc⟩ := (RL5.out wr HBr.out).at_ (k := k) (by rw [← HN.out]; exact hlt)
      cases e'
      have i1 := idx_cell b o N c k hlt
      have l2 := lc.2.2.1
      have l3 := lc.2.2.2.1
      have l4 := lc.2.2.2.2.1
      have l5 := lc.2.2.2.2.2.1
      have l6 := lc.2.2.2.2.2.2
      obtain ⟨q, hq⟩ : ∃ q, q = cellV l k := ⟨_, rfl⟩
      have HQ := Lib.hid hq
      rw [← hq] at l2 l3 l4 l5 l6
      obtain ⟨W1, hW1⟩ : ∃ W1, W1 = wr.alloc (cellO (blankC q.a)) := ⟨_, rfl⟩
      have hA1 : Below wr.heap.size wr W1 := by rw [hW1]; exact (Below.refl _ _).alloc (Nat.le_refl _) _
      have hob : W1.heap[wr.heap.size]? = some (cellO (blankC q.a)) := by rw [hW1]; exact heap_alloc_new wr _
      obtain ⟨po, hpo⟩ : ∃ po, po = wr.heap.size := ⟨_, rfl⟩
      rw [← hpo] at hob
      have HOw : Hid (∀ V, Below W1.heap.size W1 V → V.heap[po]? = some (cellO (blankC q.a))) := Lib.hid fun V hV => (hV.block _ (blk_lt hob)).trans hob
      have B1 : Hid (∀ V, Below W1.heap.size W1 V → Below W5.heap.size W5 V) := Lib.hid fun V hV => HBr.out.trans ((hA1.trans (hV.mono hA1.size)).mono HBr.out.size)
      have HW1 := Lib.hid hW1
      have HPo := Lib.hid hpo
      clear lc hbL hq hA1 hob hpo hW1
      go_upto_region 12 with fail
      change Code.wp _ _ _ _ (wr.alloc (cellO (blankC q.a)))
      rw [← HW1.out, ← HPo.out]
      clear l2 l3 l4 l5 l6 HW1 HPo
      have wX := ((RL5.out W1 (B1.out W1 (Below.refl _ _))).at_ (k := X) (by rw [← HN.out]; have := HXm.out; omega))
      have ix : ∀ V, (Instr.indexAt 28 (.slice (some ⟨b, o, none⟩) N c) (.int .i64 xi)).run Try.prog V = .ok (.pointer (some ⟨b, o + X * 7, none⟩)) V := fun V => by rw [HXi.out.1]; exact idx_cell b o N c X (by have := HXm.out; omega) V
      obtain ⟨cu, hcu⟩ : ∃ cu, cu = cutK l X k := ⟨_, rfl⟩
      have HCu := Lib.hid hcu
      obtain ⟨lt, hlt2⟩ : ∃ lt, lt = lateK l E0 k := ⟨_, rfl⟩
      have HLt := Lib.hid hlt2
      obtain ⟨fr, hfr⟩ : ∃ fr, fr = farK l Y k := ⟨_, rfl⟩
      have HFr := Lib.hid hfr
      have HKX : Hid ((k : Int) = xi - 1 ↔ k + 1 = X) := Lib.hid (by have := HXi.out.1; omega)
      have HKX2 : Hid ((k : Int) = xi ↔ k = X) := Lib.hid (by have := HXi.out.1; omega)
      have HKE : Hid ((k : Int) = ei - 1 ↔ k + 1 = E0) := Lib.hid (by have := HEi.out.1; omega)
      have HKY : Hid ((k : Int) = yi ↔ k = Y) := Lib.hid (by have := HEi.out.2; omega)
      obtain ⟨b2, o2, e2, hbX, _, wX, _⟩ := wX
      cases e2
      obtain ⟨zx, hzx⟩ : ∃ zx, zx = (cellV l X).w := ⟨_, rfl⟩
      rw [← hzx] at wX
      have HZx : Hid (zx = wideV l X) := Lib.hid hzx
      clear hcu hlt2 hfr hbX hzx
      go_cut [14] (fun s wc => s = .bool cu ∧ W1 = wc)
      case first => as_aux_lemma =>
        by_cases hW : zx = 2
        · have tw : ((zx : Int) == 2) = true := by simp; omega
          by_cases c1 : (k : Int) = xi - 1
          · have t1 : ((k : Int) == xi - 1) = true := by simpa using c1
            have R : Hid (true = cu) := Lib.hid (by rw [HCu.out]; unfold cutK; exact (decide_eq_true ⟨Or.inl (HKX.out.1 c1), HZx.out.symm.trans hW⟩).symm)
            clear c1 hW
            go_wp2
            go_meet
            exact ⟨congrArg Value.bool R.out, rfl⟩
          · have t1 : ((k : Int) == xi - 1) = false := by simpa using c1
            by_cases c3 : (k : Int) = xi
            · have t3 : ((k : Int) == xi) = true := by simpa using c3
              have R : Hid (true = cu) := Lib.hid (by rw [HCu.out]; unfold cutK; exact (decide_eq_true ⟨Or.inr (HKX2.out.1 c3), HZx.out.symm.trans hW⟩).symm)
              clear c1 c3 hW
              go_wp2
              go_meet
              exact ⟨congrArg Value.bool R.out, rfl⟩
            · have t3 : ((k : Int) == xi) = false := by simpa using c3
              have R : Hid (false = cu) := Lib.hid (by rw [HCu.out]; unfold cutK; exact (decide_eq_false fun hh => hh.1.elim (fun h => c1 (HKX.out.2 h)) (fun h => c3 (HKX2.out.2 h))).symm)
              clear c1 c3 hW
              go_wp2
              go_meet
              exact ⟨congrArg Value.bool R.out, rfl⟩
        · have tw : ((zx : Int) == 2) = false := by simp; omega
          have R : Hid (false = cu) := Lib.hid (by rw [HCu.out]; unfold cutK; exact (decide_eq_false fun hh => hW (HZx.out.trans hh.2)).symm)
          by_cases c1 : (k : Int) = xi - 1
          · have t1 : ((k : Int) == xi - 1) = true := by simpa using c1
            have t3 : ((k : Int) == xi) = false := by simp; omega
            clear c1 hW
            go_wp2
            go_meet
            exact ⟨congrArg Value.bool R.out, rfl⟩
          · have t1 : ((k : Int) == xi - 1) = false := by simpa using c1
            by_cases c3 : (k : Int) = xi
            · have t3 : ((k : Int) == xi) = true := by simpa using c3
              clear c1 c3 hW
              go_wp2
              go_meet
              exact ⟨congrArg Value.bool R.out, rfl⟩
            · have t3 : ((k : Int) == xi) = false := by simpa using c3
              clear c1 c3 hW
              go_wp2
              go_meet
              exact ⟨congrArg Value.bool R.out, rfl⟩
      case rest =>
        obtain ⟨rfl, rfl⟩ := hcut
        go_upto_region 14 with fail
        go_cut [16] (fun s wc => s = .bool lt ∧ W1 = wc)
        case first => as_aux_lemma =>
          by_cases hE : E0 = 0
          · have u1 : decide (ei > 0) = false := by have := HEi.out.1; simp; omega
            have R : Hid (false = lt) := Lib.hid (by rw [HLt.out]; unfold lateK; exact (decide_eq_false fun hh => by omega).symm)
            clear hE
            go_wp2
            go_meet
            exact ⟨congrArg Value.bool R.out, rfl⟩
          have u1 : decide (ei > 0) = true := by have := HEi.out.1; simp; omega
          have u2 : decide (ei < (N : Int)) = true := by have := HEi.out.1; have := HY.out.1; have := HXm.out; simp; omega
          obtain ⟨b3, o3, e3, hbE, _, wE, _⟩ := (RL5.out W1 (B1.out W1 (Below.refl _ _))).at_ (k := E0) (by rw [← HN.out]; have := HY.out.1; have := HXm.out; omega)
          cases e3
          have iE : ∀ V, (Instr.indexAt 28 (.slice (some ⟨b, o, none⟩) N c) (.int .i64 ei)).run Try.prog V = .ok (.pointer (some ⟨b, o + E0 * 7, none⟩)) V := fun V => by rw [HEi.out.1]; exact idx_cell b o N c E0 (by have := HY.out.1; have := HXm.out; omega) V
          obtain ⟨ze, hze⟩ : ∃ ze, ze = (cellV l E0).w := ⟨_, rfl⟩
          rw [← hze] at wE
          have HZe : Hid (ze = wideV l E0) := Lib.hid hze
          clear hbE hze
          by_cases hW : ze = 2
          · have tw : ((ze : Int) == 2) = true := by simp; omega
            by_cases c1 : (k : Int) = ei - 1
            · have t1 : ((k : Int) == ei - 1) = true := by simpa using c1
              have R : Hid (true = lt) := Lib.hid (by rw [HLt.out]; unfold lateK; exact (decide_eq_true ⟨by omega, HZe.out.symm.trans hW, HKE.out.1 c1⟩).symm)
              clear c1 hW hE
              go_wp2
              go_meet
              exact ⟨congrArg Value.bool R.out, rfl⟩
            · have t1 : ((k : Int) == ei - 1) = false := by simpa using c1
              have R : Hid (false = lt) := Lib.hid (by rw [HLt.out]; unfold lateK; exact (decide_eq_false fun hh => c1 (HKE.out.2 hh.2.2)).symm)
              clear c1 hW hE
              go_wp2
              go_meet
              exact ⟨congrArg Value.bool R.out, rfl⟩
          · have tw : ((ze : Int) == 2) = false := by simp; omega
            have R : Hid (false = lt) := Lib.hid (by rw [HLt.out]; unfold lateK; exact (decide_eq_false fun hh => hW (HZe.out.trans hh.2.1)).symm)
            clear hW hE
            go_wp2
            go_meet
            exact ⟨congrArg Value.bool R.out, rfl⟩
        case rest =>
          obtain ⟨rfl, rfl⟩ := hcut
          go_upto_block 2 with fail
          go_cut [12] (fun s wc => s = .int .i64 (k : Int) ∧ Below W1.heap.size W1 wc)
          case first => as_aux_lemma =>
            have kd : Below W1.heap.size W1 W1.drew := below_drew (Below.refl _ _) 1
            by_cases hge : E0 ≤ k
            · have s1 : decide ((k : Int) ≥ ei) = true := by have := HEi.out.1; simp; omega
              obtain ⟨z, hz⟩ : ∃ z, z = blankC a := ⟨_, rfl⟩
              have hcell : cellV Bc k = z := by rw [hz]; rw [HBk.out k HK.out, if_pos hge]
              have NB : ∀ V, Below W1.heap.size W1 V → CellAt V gb (k * 7) z := fun V hV => by
                have := ((RB5.out V (B1.out V hV)).at0 (k := k) (by rw [HBl.out]; exact HK.out)).2
                rwa [hcell] at this
              have nb0 := fun V hV => (NB V hV).1
              have nb1 := fun V hV => (NB V hV).2.1
              have nb2 := fun V hV => (NB V hV).2.2.1
              have nb3 := fun V hV => (NB V hV).2.2.2.1
              have nb4 := fun V hV => (NB V hV).2.2.2.2.1
              have nb5 := fun V hV => (NB V hV).2.2.2.2.2.1
              have nb6 := fun V hV => (NB V hV).2.2.2.2.2.2
              have NS : ∀ V, Below W1.heap.size W1 V → V.heap[pb]? = some (cellO z) := fun V hV => by rw [hz]; exact HBlk.out V (B1.out V hV)
              have ns0 := fun V hV => cell_of (NS V hV) 0
              have ns1 := fun V hV => cell_of (NS V hV) 1
              have ns2 := fun V hV => cell_of (NS V hV) 2
              have ns3 := fun V hV => cell_of (NS V hV) 3
              have ns4 := fun V hV => cell_of (NS V hV) 4
              have ns5 := fun V hV => cell_of (NS V hV) 5
              have ns6 := fun V hV => cell_of (NS V hV) 6
              have NE := neq_no z
              have j1 := idx_own gb N cb k HK.out
              clear hcell NB NS hz
              go_wp2_with fail
              go_region_held3 (fun V => Below W1.heap.size W1 V) (assumption) (fail)
              go_wp2
              go_meet
              exact ⟨rfl, kd⟩
            have s1 : decide ((k : Int) ≥ ei) = false := by have := HEi.out.1; simp; omega
            cases cu with
            | true =>
              obtain ⟨z, hz⟩ : ∃ z, z = blankC q.a := ⟨_, rfl⟩
              have hcell : cellV Bc k = z := by rw [hz]; rw [HBk.out k HK.out, if_neg hge, if_pos (Or.inl HCu.out.symm), ← HQ.out]
              have NB : ∀ V, Below W1.heap.size W1 V → CellAt V gb (k * 7) z := fun V hV => by
                have := ((RB5.out V (B1.out V hV)).at0 (k := k) (by rw [HBl.out]; exact HK.out)).2
                rwa [hcell] at this
              have nb0 := fun V hV => (NB V hV).1
              have nb1 := fun V hV => (NB V hV).2.1
              have nb2 := fun V hV => (NB V hV).2.2.1
              have nb3 := fun V hV => (NB V hV).2.2.2.1
              have nb4 := fun V hV => (NB V hV).2.2.2.2.1
              have nb5 := fun V hV => (NB V hV).2.2.2.2.2.1
              have nb6 := fun V hV => (NB V hV).2.2.2.2.2.2
              have NS : ∀ V, Below W1.heap.size W1 V → V.heap[po]? = some (cellO z) := fun V hV => by rw [hz]; exact HOw.out V hV
              have ns0 := fun V hV => cell_of (NS V hV) 0
              have ns1 := fun V hV => cell_of (NS V hV) 1
              have ns2 := fun V hV => cell_of (NS V hV) 2
              have ns3 := fun V hV => cell_of (NS V hV) 3
              have ns4 := fun V hV => cell_of (NS V hV) 4
              have ns5 := fun V hV => cell_of (NS V hV) 5
              have ns6 := fun V hV => cell_of (NS V hV) 6
              have NE := neq_no z
              have j1 := idx_own gb N cb k HK.out
              clear hcell NB NS hz
              go_wp2_with fail
              go_region_held3 (fun V => Below W1.heap.size W1 V) (assumption) (fail)
              go_wp2
              go_meet
              exact ⟨rfl, kd⟩
            | false =>
              cases lt with
              | true =>
                obtain ⟨z, hz⟩ : ∃ z, z = blankC q.a := ⟨_, rfl⟩
                have hcell : cellV Bc k = z := by rw [hz]; rw [HBk.out k HK.out, if_neg hge, if_pos (Or.inr HLt.out.symm), ← HQ.out]
                have NB : ∀ V, Below W1.heap.size W1 V → CellAt V gb (k * 7) z := fun V hV => by
                  have := ((RB5.out V (B1.out V hV)).at0 (k := k) (by rw [HBl.out]; exact HK.out)).2
                  rwa [hcell] at this
                have nb0 := fun V hV => (NB V hV).1
                have nb1 := fun V hV => (NB V hV).2.1
                have nb2 := fun V hV => (NB V hV).2.2.1
                have nb3 := fun V hV => (NB V hV).2.2.2.1
                have nb4 := fun V hV => (NB V hV).2.2.2.2.1
                have nb5 := fun V hV => (NB V hV).2.2.2.2.2.1
                have nb6 := fun V hV => (NB V hV).2.2.2.2.2.2
                have NS : ∀ V, Below W1.heap.size W1 V → V.heap[po]? = some (cellO z) := fun V hV => by rw [hz]; exact HOw.out V hV
                have ns0 := fun V hV => cell_of (NS V hV) 0
                have ns1 := fun V hV => cell_of (NS V hV) 1
                have ns2 := fun V hV => cell_of (NS V hV) 2
                have ns3 := fun V hV => cell_of (NS V hV) 3
                have ns4 := fun V hV => cell_of (NS V hV) 4
                have ns5 := fun V hV => cell_of (NS V hV) 5
                have ns6 := fun V hV => cell_of (NS V hV) 6
                have NE := neq_no z
                have j1 := idx_own gb N cb k HK.out
                clear hcell NB NS hz
                go_wp2_with fail
                go_region_held3 (fun V => Below W1.heap.size W1 V) (assumption) (fail)
                go_wp2
                go_meet
                exact ⟨rfl, kd⟩
              | false =>
                obtain ⟨z, hz⟩ : ∃ z, z = q := ⟨_, rfl⟩
                have hcell : cellV Bc k = z := by rw [hz]; rw [HBk.out k HK.out, if_neg hge, if_neg (fun hh => hh.elim (fun h => by rw [← HCu.out] at h; cases h) (fun h => by rw [← HLt.out] at h; cases h)), ← HQ.out]
                have NB : ∀ V, Below W1.heap.size W1 V → CellAt V gb (k * 7) z := fun V hV => by
                  have := ((RB5.out V (B1.out V hV)).at0 (k := k) (by rw [HBl.out]; exact HK.out)).2
                  rwa [hcell] at this
                have nb0 := fun V hV => (NB V hV).1
                have nb1 := fun V hV => (NB V hV).2.1
                have nb2 := fun V hV => (NB V hV).2.2.1
                have nb3 := fun V hV => (NB V hV).2.2.2.1
                have nb4 := fun V hV => (NB V hV).2.2.2.2.1
                have nb5 := fun V hV => (NB V hV).2.2.2.2.2.1
                have nb6 := fun V hV => (NB V hV).2.2.2.2.2.2
                have NS : ∀ V, Below W1.heap.size W1 V → CellAt V b (o + k * 7) z := fun V hV => by
                  have := (RL5.out V (B1.out V hV)).atA (k := k) (by rw [← HN.out]; exact HK.out)
                  rwa [← HQ.out, ← hz] at this
                have ns0 := fun V hV => (NS V hV).1
                have ns1 := fun V hV => (NS V hV).2.1
                have ns2 := fun V hV => (NS V hV).2.2.1
                have ns3 := fun V hV => (NS V hV).2.2.2.1
                have ns4 := fun V hV => (NS V hV).2.2.2.2.1
                have ns5 := fun V hV => (NS V hV).2.2.2.2.2.1
                have ns6 := fun V hV => (NS V hV).2.2.2.2.2.2
                have NE := neq_no z
                have j1 := idx_own gb N cb k HK.out
                clear hcell NB NS hz
                go_wp2_with fail
                go_region_held3 (fun V => Below W1.heap.size W1 V) (assumption) (fail)
                go_wp2
                go_meet
                exact ⟨rfl, kd⟩
          case rest =>
            obtain ⟨rfl, hbw⟩ := hcut
            obtain ⟨W2, hW2⟩ : ∃ W2, W2 = wc := ⟨_, rfl⟩
            subst hW2
            have B2 : Hid (∀ V, Below W2.heap.size W2 V → Below W1.heap.size W1 V) := Lib.hid fun V hV => hbw.trans (hV.mono hbw.size)
            clear hbw
            go_upto_region 23 with fail
            go_cut [17] (fun s wc => s = .bool fr ∧ W2 = wc)
            case first => as_aux_lemma =>
              by_cases hYN : Y < N
              · have v1 : decide (yi < (N : Int)) = true := by have := HEi.out.2; simp; omega
                obtain ⟨b3, o3, e3, hbE, _, wE, _⟩ := (RL5.out W2 (B1.out W2 (B2.out W2 (Below.refl _ _)))).at_ (k := Y) (by rw [← HN.out]; exact hYN)
                cases e3
                have iE : ∀ V, (Instr.indexAt 28 (.slice (some ⟨b, o, none⟩) N c) (.int .i64 yi)).run Try.prog V = .ok (.pointer (some ⟨b, o + Y * 7, none⟩)) V := fun V => by rw [HEi.out.2]; exact idx_cell b o N c Y hYN V
                obtain ⟨ze, hze⟩ : ∃ ze, ze = (cellV l Y).w := ⟨_, rfl⟩
                rw [← hze] at wE
                have HZe : Hid (ze = wideV l Y) := Lib.hid hze
                clear hbE hze
                by_cases hW : ze = 2
                · have tw : ((ze : Int) == 2) = true := by simp; omega
                  by_cases c1 : (k : Int) = yi
                  · have t1 : ((k : Int) == yi) = true := by simpa using c1
                    have R : Hid (true = fr) := Lib.hid (by rw [HFr.out]; unfold farK; exact (decide_eq_true ⟨by rw [← HN.out]; exact hYN, HZe.out.symm.trans hW, HKY.out.1 c1⟩).symm)
                    clear c1 hW
                    go_wp2
                    go_meet
                    exact ⟨congrArg Value.bool R.out, rfl⟩
                  · have t1 : ((k : Int) == yi) = false := by simpa using c1
                    have R : Hid (false = fr) := Lib.hid (by rw [HFr.out]; unfold farK; exact (decide_eq_false fun hh => c1 (HKY.out.2 hh.2.2)).symm)
                    clear c1 hW
                    go_wp2
                    go_meet
                    exact ⟨congrArg Value.bool R.out, rfl⟩
                · have tw : ((ze : Int) == 2) = false := by simp; omega
                  have R : Hid (false = fr) := Lib.hid (by rw [HFr.out]; unfold farK; exact (decide_eq_false fun hh => hW (HZe.out.trans hh.2.1)).symm)
                  clear hW
                  go_wp2
                  go_meet
                  exact ⟨congrArg Value.bool R.out, rfl⟩
              · have v1 : decide (yi < (N : Int)) = false := by have := HEi.out.2; simp; omega
                have R : Hid (false = fr) := Lib.hid (by rw [HFr.out]; unfold farK; exact (decide_eq_false fun hh => hYN (by rw [HN.out]; exact hh.1)).symm)
                clear hYN
                go_wp2
                go_meet
                exact ⟨congrArg Value.bool R.out, rfl⟩
            case rest =>
              obtain ⟨rfl, rfl⟩ := hcut
              go_upto_block 3 with fail
              have kd2 : Below W2.heap.size W2 W2.drew := below_drew (Below.refl _ _) 1
              by_cases hXk : X ≤ k
              · have s1 : decide ((k : Int) ≥ xi) = true := by have := HXi.out.1; simp; omega
                by_cases hkY : k < Y
                · have s2 : decide ((k : Int) < yi) = true := by have := HEi.out.2; simp; omega
                  obtain ⟨z, hz⟩ : ∃ z, z = blankC a := ⟨_, rfl⟩
                  have hcell : cellV Ec k = z := by rw [hz]; rw [HEk.out k HK.out, if_pos ⟨hXk, hkY⟩]
                  have NB : ∀ V, Below W2.heap.size W2 V → CellAt V ge (k * 7) z := fun V hV => by
                    have := ((RE5.out V (B1.out V (B2.out V hV))).at0 (k := k) (by rw [HEl.out]; exact HK.out)).2
                    rwa [hcell] at this
                  have nb0 := fun V hV => (NB V hV).1
                  have nb1 := fun V hV => (NB V hV).2.1
                  have nb2 := fun V hV => (NB V hV).2.2.1
                  have nb3 := fun V hV => (NB V hV).2.2.2.1
                  have nb4 := fun V hV => (NB V hV).2.2.2.2.1
                  have nb5 := fun V hV => (NB V hV).2.2.2.2.2.1
                  have nb6 := fun V hV => (NB V hV).2.2.2.2.2.2
                  have NS : ∀ V, Below W2.heap.size W2 V → V.heap[pb]? = some (cellO z) := fun V hV => by rw [hz]; exact HBlk.out V (B1.out V (B2.out V hV))
                  have ns0 := fun V hV => cell_of (NS V hV) 0
                  have ns1 := fun V hV => cell_of (NS V hV) 1
                  have ns2 := fun V hV => cell_of (NS V hV) 2
                  have ns3 := fun V hV => cell_of (NS V hV) 3
                  have ns4 := fun V hV => cell_of (NS V hV) 4
                  have ns5 := fun V hV => cell_of (NS V hV) 5
                  have ns6 := fun V hV => cell_of (NS V hV) 6
                  have NE := neq_no z
                  have j1 := idx_own ge N ce k HK.out
                  clear hcell NB NS hz
                  as_aux_lemma =>
                    go_wp2_with fail
                    go_region_held3 (fun V => Below W2.heap.size W2 V) (assumption) (fail)
                    go_wp2
                    go_roundw
                    case rel => exact ⟨k + 1, by have := HK.out; omega, by go_num, Lib.hid (B1.out _ (B2.out _ kd2))⟩
                    case measure => have := HK.out; simp [RowKit.intOf]; omega
                · have s2 : decide ((k : Int) < yi) = false := by have := HEi.out.2; simp; omega
                  have c1 : ¬ (k : Int) = xi - 1 := by have := HXi.out.1; omega
                  have t1 : ((k : Int) == xi - 1) = false := by simpa using c1
                  have C1 := Lib.hid c1
                  clear c1
                  cases fr with
                  | true =>
                    obtain ⟨z, hz⟩ : ∃ z, z = blankC q.a := ⟨_, rfl⟩
                    have hcell : cellV Ec k = z := by rw [hz]; rw [HEk.out k HK.out, if_neg (fun hh => hkY hh.2), if_pos (Or.inr HFr.out.symm), ← HQ.out]
                    have NB : ∀ V, Below W2.heap.size W2 V → CellAt V ge (k * 7) z := fun V hV => by
                      have := ((RE5.out V (B1.out V (B2.out V hV))).at0 (k := k) (by rw [HEl.out]; exact HK.out)).2
                      rwa [hcell] at this
                    have nb0 := fun V hV => (NB V hV).1
                    have nb1 := fun V hV => (NB V hV).2.1
                    have nb2 := fun V hV => (NB V hV).2.2.1
                    have nb3 := fun V hV => (NB V hV).2.2.2.1
                    have nb4 := fun V hV => (NB V hV).2.2.2.2.1
                    have nb5 := fun V hV => (NB V hV).2.2.2.2.2.1
                    have nb6 := fun V hV => (NB V hV).2.2.2.2.2.2
                    have NS : ∀ V, Below W2.heap.size W2 V → V.heap[po]? = some (cellO z) := fun V hV => by rw [hz]; exact HOw.out V (B2.out V hV)
                    have ns0 := fun V hV => cell_of (NS V hV) 0
                    have ns1 := fun V hV => cell_of (NS V hV) 1
                    have ns2 := fun V hV => cell_of (NS V hV) 2
                    have ns3 := fun V hV => cell_of (NS V hV) 3
                    have ns4 := fun V hV => cell_of (NS V hV) 4
                    have ns5 := fun V hV => cell_of (NS V hV) 5
                    have ns6 := fun V hV => cell_of (NS V hV) 6
                    have NE := neq_no z
                    have j1 := idx_own ge N ce k HK.out
                    clear hcell NB NS hz
                    as_aux_lemma =>
                      go_wp2_with fail
                      go_region_held3 (fun V => Below W2.heap.size W2 V) (assumption) (fail)
                      go_wp2
                      go_roundw
                      case rel => exact ⟨k + 1, by have := HK.out; omega, by go_num, Lib.hid (B1.out _ (B2.out _ kd2))⟩
                      case measure => have := HK.out; simp [RowKit.intOf]; omega
                  | false =>
                    obtain ⟨z, hz⟩ : ∃ z, z = q := ⟨_, rfl⟩
                    have hcell : cellV Ec k = z := by rw [hz]; rw [HEk.out k HK.out, if_neg (fun hh => hkY hh.2), if_neg (fun hh => hh.elim (fun h => C1.out (HKX.out.2 h.1)) (fun h => by rw [← HFr.out] at h; cases h)), ← HQ.out]
                    have NB : ∀ V, Below W2.heap.size W2 V → CellAt V ge (k * 7) z := fun V hV => by
                      have := ((RE5.out V (B1.out V (B2.out V hV))).at0 (k := k) (by rw [HEl.out]; exact HK.out)).2
                      rwa [hcell] at this
                    have nb0 := fun V hV => (NB V hV).1
                    have nb1 := fun V hV => (NB V hV).2.1
                    have nb2 := fun V hV => (NB V hV).2.2.1
                    have nb3 := fun V hV => (NB V hV).2.2.2.1
                    have nb4 := fun V hV => (NB V hV).2.2.2.2.1
                    have nb5 := fun V hV => (NB V hV).2.2.2.2.2.1
                    have nb6 := fun V hV => (NB V hV).2.2.2.2.2.2
                    have NS : ∀ V, Below W2.heap.size W2 V → CellAt V b (o + k * 7) z := fun V hV => by
                      have := (RL5.out V (B1.out V (B2.out V hV))).atA (k := k) (by rw [← HN.out]; exact HK.out)
                      rwa [← HQ.out, ← hz] at this
                    have ns0 := fun V hV => (NS V hV).1
                    have ns1 := fun V hV => (NS V hV).2.1
                    have ns2 := fun V hV => (NS V hV).2.2.1
                    have ns3 := fun V hV => (NS V hV).2.2.2.1
                    have ns4 := fun V hV => (NS V hV).2.2.2.2.1
                    have ns5 := fun V hV => (NS V hV).2.2.2.2.2.1
                    have ns6 := fun V hV => (NS V hV).2.2.2.2.2.2
                    have NE := neq_no z
                    have j1 := idx_own ge N ce k HK.out
                    clear hcell NB NS hz
                    as_aux_lemma =>
                      go_wp2_with fail
                      go_region_held3 (fun V => Below W2.heap.size W2 V) (assumption) (fail)
                      go_wp2
                      go_roundw
                      case rel => exact ⟨k + 1, by have := HK.out; omega, by go_num, Lib.hid (B1.out _ (B2.out _ kd2))⟩
                      case measure => have := HK.out; simp [RowKit.intOf]; omega
              · have s1 : decide ((k : Int) ≥ xi) = false := by have := HXi.out.1; simp; omega
                by_cases c1 : (k : Int) = xi - 1
                · have t1 : ((k : Int) == xi - 1) = true := by simpa using c1
                  have C1 := Lib.hid c1
                  clear c1
                  have wX2 := ((RL5.out W2 (B1.out W2 (B2.out W2 (Below.refl _ _)))).atA (k := X) (by rw [← HN.out]; have := HXm.out; omega)).2.1
                  rw [show ((cellV l X).w : Int) = (zx : Int) by rw [HZx.out]; rfl] at wX2
                  by_cases hW : zx = 2
                  · have tw : ((zx : Int) == 2) = true := by simp; omega
                    have HWz := Lib.hid hW
                    clear hW
                    obtain ⟨z, hz⟩ : ∃ z, z = blankC q.a := ⟨_, rfl⟩
                    have hcell : cellV Ec k = z := by rw [hz]; rw [HEk.out k HK.out, if_neg (fun hh => hXk hh.1), if_pos (Or.inl ⟨HKX.out.1 C1.out, HZx.out.symm.trans HWz.out⟩), ← HQ.out]
                    have NB : ∀ V, Below W2.heap.size W2 V → CellAt V ge (k * 7) z := fun V hV => by
                      have := ((RE5.out V (B1.out V (B2.out V hV))).at0 (k := k) (by rw [HEl.out]; exact HK.out)).2
                      rwa [hcell] at this
                    have nb0 := fun V hV => (NB V hV).1
                    have nb1 := fun V hV => (NB V hV).2.1
                    have nb2 := fun V hV => (NB V hV).2.2.1
                    have nb3 := fun V hV => (NB V hV).2.2.2.1
                    have nb4 := fun V hV => (NB V hV).2.2.2.2.1
                    have nb5 := fun V hV => (NB V hV).2.2.2.2.2.1
                    have nb6 := fun V hV => (NB V hV).2.2.2.2.2.2
                    have NS : ∀ V, Below W2.heap.size W2 V → V.heap[po]? = some (cellO z) := fun V hV => by rw [hz]; exact HOw.out V (B2.out V hV)
                    have ns0 := fun V hV => cell_of (NS V hV) 0
                    have ns1 := fun V hV => cell_of (NS V hV) 1
                    have ns2 := fun V hV => cell_of (NS V hV) 2
                    have ns3 := fun V hV => cell_of (NS V hV) 3
                    have ns4 := fun V hV => cell_of (NS V hV) 4
                    have ns5 := fun V hV => cell_of (NS V hV) 5
                    have ns6 := fun V hV => cell_of (NS V hV) 6
                    have NE := neq_no z
                    have j1 := idx_own ge N ce k HK.out
                    clear hcell NB NS hz
                    as_aux_lemma =>
                      go_wp2_with fail
                      go_region_held3 (fun V => Below W2.heap.size W2 V) (assumption) (fail)
                      go_wp2
                      go_roundw
                      case rel => exact ⟨k + 1, by have := HK.out; omega, by go_num, Lib.hid (B1.out _ (B2.out _ kd2))⟩
                      case measure => have := HK.out; simp [RowKit.intOf]; omega
                  · have tw : ((zx : Int) == 2) = false := by simp; omega
                    have HWz := Lib.hid hW
                    clear hW
                    cases fr with
                    | true =>
                      obtain ⟨z, hz⟩ : ∃ z, z = blankC q.a := ⟨_, rfl⟩
                      have hcell : cellV Ec k = z := by rw [hz]; rw [HEk.out k HK.out, if_neg (fun hh => hXk hh.1), if_pos (Or.inr HFr.out.symm), ← HQ.out]
                      have NB : ∀ V, Below W2.heap.size W2 V → CellAt V ge (k * 7) z := fun V hV => by
                        have := ((RE5.out V (B1.out V (B2.out V hV))).at0 (k := k) (by rw [HEl.out]; exact HK.out)).2
                        rwa [hcell] at this
                      have nb0 := fun V hV => (NB V hV).1
                      have nb1 := fun V hV => (NB V hV).2.1
                      have nb2 := fun V hV => (NB V hV).2.2.1
                      have nb3 := fun V hV => (NB V hV).2.2.2.1
                      have nb4 := fun V hV => (NB V hV).2.2.2.2.1
                      have nb5 := fun V hV => (NB V hV).2.2.2.2.2.1
                      have nb6 := fun V hV => (NB V hV).2.2.2.2.2.2
                      have NS : ∀ V, Below W2.heap.size W2 V → V.heap[po]? = some (cellO z) := fun V hV => by rw [hz]; exact HOw.out V (B2.out V hV)
                      have ns0 := fun V hV => cell_of (NS V hV) 0
                      have ns1 := fun V hV => cell_of (NS V hV) 1
                      have ns2 := fun V hV => cell_of (NS V hV) 2
                      have ns3 := fun V hV => cell_of (NS V hV) 3
                      have ns4 := fun V hV => cell_of (NS V hV) 4
                      have ns5 := fun V hV => cell_of (NS V hV) 5
                      have ns6 := fun V hV => cell_of (NS V hV) 6
                      have NE := neq_no z
                      have j1 := idx_own ge N ce k HK.out
                      clear hcell NB NS hz
                      as_aux_lemma =>
                        go_wp2_with fail
                        go_region_held3 (fun V => Below W2.heap.size W2 V) (assumption) (fail)
                        go_wp2
                        go_roundw
                        case rel => exact ⟨k + 1, by have := HK.out; omega, by go_num, Lib.hid (B1.out _ (B2.out _ kd2))⟩
                        case measure => have := HK.out; simp [RowKit.intOf]; omega
                    | false =>
                      obtain ⟨z, hz⟩ : ∃ z, z = q := ⟨_, rfl⟩
                      have hcell : cellV Ec k = z := by rw [hz]; rw [HEk.out k HK.out, if_neg (fun hh => hXk hh.1), if_neg (fun hh => hh.elim (fun h => HWz.out (HZx.out.trans h.2)) (fun h => by rw [← HFr.out] at h; cases h)), ← HQ.out]
                      have NB : ∀ V, Below W2.heap.size W2 V → CellAt V ge (k * 7) z := fun V hV => by
                        have := ((RE5.out V (B1.out V (B2.out V hV))).at0 (k := k) (by rw [HEl.out]; exact HK.out)).2
                        rwa [hcell] at this
                      have nb0 := fun V hV => (NB V hV).1
                      have nb1 := fun V hV => (NB V hV).2.1
                      have nb2 := fun V hV => (NB V hV).2.2.1
                      have nb3 := fun V hV => (NB V hV).2.2.2.1
                      have nb4 := fun V hV => (NB V hV).2.2.2.2.1
                      have nb5 := fun V hV => (NB V hV).2.2.2.2.2.1
                      have nb6 := fun V hV => (NB V hV).2.2.2.2.2.2
                      have NS : ∀ V, Below W2.heap.size W2 V → CellAt V b (o + k * 7) z := fun V hV => by
                        have := (RL5.out V (B1.out V (B2.out V hV))).atA (k := k) (by rw [← HN.out]; exact HK.out)
                        rwa [← HQ.out, ← hz] at this
                      have ns0 := fun V hV => (NS V hV).1
                      have ns1 := fun V hV => (NS V hV).2.1
                      have ns2 := fun V hV => (NS V hV).2.2.1
                      have ns3 := fun V hV => (NS V hV).2.2.2.1
                      have ns4 := fun V hV => (NS V hV).2.2.2.2.1
                      have ns5 := fun V hV => (NS V hV).2.2.2.2.2.1
                      have ns6 := fun V hV => (NS V hV).2.2.2.2.2.2
                      have NE := neq_no z
                      have j1 := idx_own ge N ce k HK.out
                      clear hcell NB NS hz
                      as_aux_lemma =>
                        go_wp2_with fail
                        go_region_held3 (fun V => Below W2.heap.size W2 V) (assumption) (fail)
                        go_wp2
                        go_roundw
                        case rel => exact ⟨k + 1, by have := HK.out; omega, by go_num, Lib.hid (B1.out _ (B2.out _ kd2))⟩
                        case measure => have := HK.out; simp [RowKit.intOf]; omega
                · have t1 : ((k : Int) == xi - 1) = false := by simpa using c1
                  have C1 := Lib.hid c1
                  clear c1
                  cases fr with
                  | true =>
                    obtain ⟨z, hz⟩ : ∃ z, z = blankC q.a := ⟨_, rfl⟩
                    have hcell : cellV Ec k = z := by rw [hz]; rw [HEk.out k HK.out, if_neg (fun hh => hXk hh.1), if_pos (Or.inr HFr.out.symm), ← HQ.out]
                    have NB : ∀ V, Below W2.heap.size W2 V → CellAt V ge (k * 7) z := fun V hV => by
                      have := ((RE5.out V (B1.out V (B2.out V hV))).at0 (k := k) (by rw [HEl.out]; exact HK.out)).2
                      rwa [hcell] at this
                    have nb0 := fun V hV => (NB V hV).1
                    have nb1 := fun V hV => (NB V hV).2.1
                    have nb2 := fun V hV => (NB V hV).2.2.1
                    have nb3 := fun V hV => (NB V hV).2.2.2.1
                    have nb4 := fun V hV => (NB V hV).2.2.2.2.1
                    have nb5 := fun V hV => (NB V hV).2.2.2.2.2.1
                    have nb6 := fun V hV => (NB V hV).2.2.2.2.2.2
                    have NS : ∀ V, Below W2.heap.size W2 V → V.heap[po]? = some (cellO z) := fun V hV => by rw [hz]; exact HOw.out V (B2.out V hV)
                    have ns0 := fun V hV => cell_of (NS V hV) 0
                    have ns1 := fun V hV => cell_of (NS V hV) 1
                    have ns2 := fun V hV => cell_of (NS V hV) 2
                    have ns3 := fun V hV => cell_of (NS V hV) 3
                    have ns4 := fun V hV => cell_of (NS V hV) 4
                    have ns5 := fun V hV => cell_of (NS V hV) 5
                    have ns6 := fun V hV => cell_of (NS V hV) 6
                    have NE := neq_no z
                    have j1 := idx_own ge N ce k HK.out
                    clear hcell NB NS hz
                    as_aux_lemma =>
                      go_wp2_with fail
                      go_region_held3 (fun V => Below W2.heap.size W2 V) (assumption) (fail)
                      go_wp2
                      go_roundw
                      case rel => exact ⟨k + 1, by have := HK.out; omega, by go_num, Lib.hid (B1.out _ (B2.out _ kd2))⟩
                      case measure => have := HK.out; simp [RowKit.intOf]; omega
                  | false =>
                    obtain ⟨z, hz⟩ : ∃ z, z = q := ⟨_, rfl⟩
                    have hcell : cellV Ec k = z := by rw [hz]; rw [HEk.out k HK.out, if_neg (fun hh => hXk hh.1), if_neg (fun hh => hh.elim (fun h => C1.out (HKX.out.2 h.1)) (fun h => by rw [← HFr.out] at h; cases h)), ← HQ.out]
                    have NB : ∀ V, Below W2.heap.size W2 V → CellAt V ge (k * 7) z := fun V hV => by
                      have := ((RE5.out V (B1.out V (B2.out V hV))).at0 (k := k) (by rw [HEl.out]; exact HK.out)).2
                      rwa [hcell] at this
                    have nb0 := fun V hV => (NB V hV).1
                    have nb1 := fun V hV => (NB V hV).2.1
                    have nb2 := fun V hV => (NB V hV).2.2.1
                    have nb3 := fun V hV => (NB V hV).2.2.2.1
                    have nb4 := fun V hV => (NB V hV).2.2.2.2.1
                    have nb5 := fun V hV => (NB V hV).2.2.2.2.2.1
                    have nb6 := fun V hV => (NB V hV).2.2.2.2.2.2
                    have NS : ∀ V, Below W2.heap.size W2 V → CellAt V b (o + k * 7) z := fun V hV => by
                      have := (RL5.out V (B1.out V (B2.out V hV))).atA (k := k) (by rw [← HN.out]; exact HK.out)
                      rwa [← HQ.out, ← hz] at this
                    have ns0 := fun V hV => (NS V hV).1
                    have ns1 := fun V hV => (NS V hV).2.1
                    have ns2 := fun V hV => (NS V hV).2.2.1
                    have ns3 := fun V hV => (NS V hV).2.2.2.1
                    have ns4 := fun V hV => (NS V hV).2.2.2.2.1
                    have ns5 := fun V hV => (NS V hV).2.2.2.2.2.1
                    have ns6 := fun V hV => (NS V hV).2.2.2.2.2.2
                    have NE := neq_no z
                    have j1 := idx_own ge N ce k HK.out
                    clear hcell NB NS hz
                    as_aux_lemma =>
                      go_wp2_with fail
                      go_region_held3 (fun V => Below W2.heap.size W2 V) (assumption) (fail)
                      go_wp2
                      go_roundw
                      case rel => exact ⟨k + 1, by have := HK.out; omega, by go_num, Lib.hid (B1.out _ (B2.out _ kd2))⟩
                      case measure => have := HK.out; simp [RowKit.intOf]; omega
    · have hkN : k = N := by omega
      subst hkN
      have B9 := Lib.hid (B5.out.trans (HBr.out.mono B5.out.size))
      go_wp2_with fail
      refine (HWk.out _).mono ?_
      rintro e w9 ⟨rfl, b9⟩
      have B10 := Lib.hid (B9.out.trans (b9.mono B9.out.size))
      clear b9
      go_wp2
      go_ret
      exact ⟨rfl, HB.out.trans (B10.out.mono HB.out.size)⟩

theorem back_law (u : Value) (l : List Ce) (x n : Int) (a : Aa) (w : World) (hL : Lies w u l) (hM : l.length ≤ 9223372036854775807) (hx : IntIn x) (hn : IntIn n) : Calls Try.prog 5 #[u, .int .i64 x, .int .i64 n, attrV a] w fun e w' => e = .returned (.bool true) ∧ Below w.heap.size w w' := by
  by_cases h : 400 < l.length ∨ l.length ≤ 400 ∧ (wholeB l = false ∨ wholeB l = true ∧ (x < 0 ∨ 0 ≤ x ∧ ((l.length : Int) ≤ x ∨ x < (l.length : Int) ∧ (n < 1 ∨ 1 ≤ n ∧ (l.length : Int) - x < n))))
  · exact back_no u l x n a w hL hM hx hn h
  · have h4 : l.length ≤ 400 := Nat.le_of_not_lt fun hh => h (Or.inl hh)
    have hw : wholeB l = true := by
      cases e : wholeB l
      · exact absurd (Or.inr ⟨h4, Or.inl e⟩) h
      · rfl
    have h0 : 0 ≤ x := Int.not_lt.1 fun hh => h (Or.inr ⟨h4, Or.inr ⟨hw, Or.inl hh⟩⟩)
    have h1 : x < (l.length : Int) := Int.not_le.1 fun hh => h (Or.inr ⟨h4, Or.inr ⟨hw, Or.inr ⟨h0, Or.inl hh⟩⟩⟩)
    have h2 : 1 ≤ n := by
      by_cases e : n < 1
      · exact absurd (Or.inr ⟨h4, Or.inr ⟨hw, Or.inr ⟨h0, Or.inr ⟨h1, Or.inl e⟩⟩⟩⟩) h
      · omega
    have h3 : n ≤ (l.length : Int) - x := Int.not_lt.1 fun hh => h (Or.inr ⟨h4, Or.inr ⟨hw, Or.inr ⟨h0, Or.inr ⟨h1, Or.inr ⟨h2, hh⟩⟩⟩⟩⟩)
    obtain ⟨A, c, rfl, _⟩ := id hL
    exact back_yes l A l.length c x.toNat n.toNat x n a w (by omega) (by omega) hL h4 hw (by omega) (by omega)
end Go.Proofs.Ythpnmhllgjibgaa.Rw
