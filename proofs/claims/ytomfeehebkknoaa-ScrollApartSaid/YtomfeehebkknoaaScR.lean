/- Layer 13: ScrollApart, at lines that are calm. -/
import Derived.Test.YtomfeehebkknoaaScT
set_option linter.unusedVariables false
namespace Go.Proofs.Ytomfeehebkknoaa.Rw
open Go.RowKit

theorem own_at {w : World} {base : Nat} {v : Value} {l : List Ce} (h : OwnC w base v l) : RowAt (Fc base w) w v l := by
  rcases own_shape h with ⟨rfl, rfl⟩ | ⟨g, c, cur, rfl, hb, hl, hh, hc, hm, _⟩
  · exact ⟨none, 0, rfl, fun _ => rfl, by decide, fun h => absurd h (by simp)⟩
  · refine ⟨some ⟨g, 0, none⟩, c, rfl, fun e => (by cases e), ⟨hc, Nat.le_trans hm (by unfold maxLen; omega)⟩, fun hp => ?_⟩
    obtain ⟨b', o', e, hb', hr⟩ := own_row h hp
    cases e
    exact ⟨g, 0, rfl, ⟨hb, cur, hh⟩, hl, hr⟩
theorem row_old {w w' : World} {B B' : Nat} {u : Value} {l : List Ce} (h : RowAt (Fc B w) w u l) (hb : Below w.heap.size w w') (hB : B' ≤ B) : RowAt (Fc B' w') w' u l :=
  (h.keep (fun b _ hl => hb.block b hl) hb.size).more fun b ⟨h1, cs, hc⟩ => ⟨Nat.le_trans hB h1, cs, (hb.block b (blk_lt hc)).trans hc⟩
theorem RowAt.lt_ {F : Nat → Prop} {w : World} {u : Value} {l : List Ce} (h : RowAt F w u l) : RowAt (fun b => b < w.heap.size) w u l := by
  obtain ⟨A, c, e, h0, h1, h2⟩ := h
  refine ⟨A, c, e, h0, h1, fun hl => ?_⟩
  obtain ⟨b, o, e2, hf, hb, hc⟩ := h2 hl
  exact ⟨b, o, e2, hb, hb, hc⟩
theorem TabAt.lt_ {F : Nat → Prop} {w : World} {v : Value} {ls : Ls} (h : TabAt F w v ls) : TabAt (fun b => b < w.heap.size) w v ls := by
  obtain ⟨A, c, e, h0, h1, h2⟩ := h
  refine ⟨A, c, e, h0, h1, fun hl => ?_⟩
  obtain ⟨b, o, e2, hf, hb, hc⟩ := h2 hl
  refine ⟨b, o, e2, hb, hb, fun k hk => ?_⟩
  obtain ⟨u, hu, hr⟩ := hc k hk
  exact ⟨u, hu, hr.lt_⟩
theorem take_line (ls : Ls) (k : Nat) (h : k < ls.length) : ls.take (k + 1) = ls.take k ++ [lineV ls k] := by
  rw [List.take_add_one, List.getElem?_eq_getElem h, line_lt h]
  rfl
/-- One field of a cell of a row. -/
theorem RowAt.wide {F : Nat → Prop} {w : World} {A : Option Addr} {n c : Nat} {l : List Ce} (h : RowAt F w (.slice A n c) l) {i : Nat} (hi : i < n) : ∃ b o, A = some ⟨b, o, none⟩ ∧ b < w.heap.size ∧ w.cell? ⟨b, o + i * 7 + 1, none⟩ = some (.int .u8 ((cellV l i).w : Int)) := by
  obtain ⟨A', c', e, h0, h1, h2⟩ := h
  injection e with e1 e2 e3
  subst e1 e3
  obtain ⟨b, o, e2', hf, hb, hc⟩ := h2 (by omega)
  refine ⟨b, o, e2', hb, ?_⟩
  have := hc i (by omega) 1 _ rfl
  rwa [← Nat.add_assoc] at this

set_option maxRecDepth 100000 in
set_option maxHeartbeats 8000000 in
theorem apart_yes {F : Nat → Prop} {w : World} {v : Value} {ls : Ls} (h : TabAt F w v ls) (Y T B N W : Int) (a : Aa) (hY : IntIn Y) (hT : IntIn T) (hB : IntIn B) (hN : IntIn N) (hWi : IntIn W) (hg : greatB ls = false) (hW : W ≤ 60) : Calls Try.prog 4 #[v, moveV Y T B N W a] w fun e w' => e = .returned (.bool true) ∧ Below w.heap.size w w' := by
  have HWk : Hid (∀ V, Calls Try.prog 7 #[] V fun e w' => e = .returned (.bool true) ∧ Below V.heap.size V w') := Lib.hid fun V => wakes_any V
  obtain ⟨A, lc, rfl, -, hc, -⟩ := id h
  obtain ⟨m, hm⟩ : ∃ m, ls.length = m := ⟨_, rfl⟩
  rw [hm] at h hc ⊢
  have hgr := great_no hg
  have hwl := great_wide hg
  rw [hm] at hgr
  have hm60 : m ≤ 60 := hgr.1
  obtain ⟨W0, hW0, hb, hs, hp⟩ := box_move w Y T B N W a
  have hGr := great_any (h.below hb)
  rw [hg] at hGr
  have HGr := Lib.hid hGr
  have HW0 := Lib.hid hW0
  have HQ : Hid (∀ V, Below W0.heap.size W0 V → V.heap[w.heap.size]? = some (moveO Y T B N W a)) := Lib.hid fun V hV => (hV.block _ (by omega)).trans hp
  have HBl := Lib.hid hb
  have Tl := Lib.hid (fun (V : World) (hV : Below W0.heap.size W0 V) => (h.below hb).below hV)
  have HM := Lib.hid hm
  have HG60 := Lib.hid hgr
  have HWL := Lib.hid hwl
  have g5 : decide (W > 60) = false := by simp; omega
  have c4 := cell_of hp 4
  clear hGr hgr hwl hg hW0 hb hp hs hc h hm hW
  go_enter Try.func4, Try.ntmps4
  go_upto_region 1 with fail
  change Code.wp _ _ _ _ (w.alloc (moveO Y T B N W a))
  rw [← HW0.out]
  go_wp2_with fail
  refine (show Calls _ _ _ _ _ from HGr.out).mono ?_
  rintro e _ ⟨rfl, rfl⟩
  clear HGr
  go_wp2_with fail
  clear c4 g5
  go_loop [5] (fun i => ∃ k : Nat, k ≤ m ∧ i = .int .i64 k ∧ Hid (∀ j, j < k → calmR (lineV ls j))) (fun i => m - (RowKit.intOf i).toNat)
  case atStart => exact ⟨0, Nat.zero_le _, rfl, Lib.hid fun j hj => absurd hj (Nat.not_lt_zero _)⟩
  case round =>
    obtain ⟨k, hk, rfl, HC⟩ := hrel
    by_cases hlt : k < m
    · have glt : decide ((k : Int) < (m : Int)) = true := by simp; omega
      obtain ⟨b1, o1, u1, rfl, _, hb1, q1, r1⟩ := (Tl.out W0 (Below.refl _ _)).at_ hlt
      have i1 := idx_tab b1 o1 m lc k hlt
      obtain ⟨B1, d1, rfl, -⟩ := id r1
      have HR := Lib.hid r1
      obtain ⟨n1, hn1⟩ : ∃ n1, (lineV ls k).length = n1 := ⟨_, rfl⟩
      rw [hn1] at HR q1
      have HN1 := Lib.hid hn1
      have hn60 : n1 ≤ 60 := by have := HG60.out.2 k; omega
      clear r1 hn1
      go_wp2_with fail
      go_loop [6] (fun i => ∃ j : Nat, j ≤ n1 ∧ i = .int .i64 j ∧ Hid (∀ x, x < j → (cellV (lineV ls k) x).w ≠ 99)) (fun i => n1 - (RowKit.intOf i).toNat)
      case atStart => exact ⟨0, Nat.zero_le _, rfl, Lib.hid fun j hj => absurd hj (Nat.not_lt_zero _)⟩
      case round =>
        obtain ⟨j, hj, rfl, HX⟩ := hrel
        by_cases hlt2 : j < n1
        · have glt2 : decide ((j : Int) < (n1 : Int)) = true := by simp; omega
          obtain ⟨b2, o2, rfl, hb2, q2⟩ := HR.out.wide hlt2
          have i2 := idx_cell b2 o2 n1 d1 j hlt2
          by_cases h99 : (cellV (lineV ls k) j).w = 99
          · rw [h99] at q2
            clear h99
            go_wp2_with fail
            refine (HWk.out _).mono ?_
            rintro e w1 ⟨rfl, b1⟩
            go_wp2
            go_ret
            exact ⟨rfl, HBl.out.trans (b1.mono HBl.out.size)⟩
          · have HX2 : Hid (∀ x, x < j + 1 → (cellV (lineV ls k) x).w ≠ 99) := Lib.hid fun x hx => by
              by_cases e : x = j
              · rw [e]; exact h99
              · exact HX.out x (by omega)
            have g99 : (((cellV (lineV ls k) j).w : Int) == 99) = false := by simp; omega
            generalize (cellV (lineV ls k) j).w = wd at *
            go_wp2_with fail
            go_round
            case rel => exact ⟨j + 1, by omega, by go_num, HX2⟩
            case measure => simp [RowKit.intOf]; omega
        · have glt2 : decide ((j : Int) < (n1 : Int)) = false := by simp; omega
          have HC2 : Hid (∀ x, x < k + 1 → calmR (lineV ls x)) := Lib.hid fun x hx => by
            by_cases e : x = k
            · rw [e]; exact calm_cells fun y hy => HX.out y (by have := HN1.out; omega)
            · exact HC.out x (by omega)
          go_wp2_with fail
          go_round
          case rel => exact ⟨k + 1, by omega, by go_num, HC2⟩
          case measure => simp [RowKit.intOf]; omega
    · have glt : decide ((k : Int) < (m : Int)) = false := by simp; omega
      have HCalm : Hid (calmL ls) := Lib.hid (calm_lines fun x hx => HC.out x (by have := HM.out; omega))
      clear HC
      go_wp2_with fail
      go_loopw [8, 7] (fun i v wr => ∃ (k : Nat) (us : List Value), k ≤ m ∧ i = .int .i64 k ∧ Hid (us.length = k) ∧ Hid (GrowT W0 wr v us (ls.take k))) (fun i _ _ => m - (RowKit.intOf i).toNat)
      case atStart => exact ⟨0, [], Nat.zero_le _, rfl, Lib.hid rfl, Lib.hid (grow_nil W0 W0 (Below.refl _ _))⟩
      case round =>
        obtain ⟨k, us, hk, rfl, HL, HG⟩ := hrel
        rename_i wr
        by_cases hlt : k < m
        · have glt : decide ((k : Int) < (m : Int)) = true := by simp; omega
          have hBr := HG.out.2.2.2
          obtain ⟨b1, o1, u1, rfl, _, hb1, q1, r1⟩ := (Tl.out wr hBr).at_ hlt
          have i1 := idx_tab b1 o1 m lc k hlt
          obtain ⟨B1, d1, rfl, -⟩ := id r1
          have hA0 : Below wr.heap.size wr (wr.alloc (.cells #[] 40)) := (Below.refl _ _).alloc (Nat.le_refl _) _
          have q2 := (hA0.cell (p := ⟨b1, o1 + k, none⟩) hb1).trans q1
          have HLi := Lib.hid ((r1.keep (fun b _ hl => hA0.block b hl) hA0.size).lies)
          have HA0 := Lib.hid hA0
          have H0 := Lib.hid (own_zero wr)
          have HLn := Lib.hid (show (lineV ls k).length ≤ 60 from HG60.out.2 k)
          have HU := Lib.hid (take_line ls k (by have := HM.out; omega))
          clear hA0 q1 r1 hBr
          go_wp2_with (at_builtin; refine append_cells _ rfl (.tmp 61) (.tmp 65) rfl wr.heap.size _ _ [] (lineV ls k) rfl H0.out rfl HLi.out (by have := HLn.out; simp; omega) HA0.out.size ?_)
          intro v1 w1 ho hg
          have hB1 := grown_below HA0.out hg H0.out HA0.out.size
          obtain ⟨A1, n1, c1, rfl⟩ : ∃ A1 n1 c1, v1 = .slice A1 n1 c1 := by
            rcases own_shape ho with ⟨rfl, _⟩ | ⟨g, c, _, rfl, _⟩ <;> exact ⟨_, _, _, rfl⟩
          obtain ⟨WX, hWX⟩ : ∃ WX, w1.alloc (.cells #[.slice A1 n1 c1] 38 (0, 0)) = WX := ⟨_, rfl⟩
          have hBX : Below w1.heap.size w1 WX := by rw [← hWX]; exact (Below.refl _ _).alloc (Nat.le_refl _) _
          have hbx : Below wr.heap.size wr WX := hB1.trans (hBX.mono hB1.size)
          have hx1 : WX.cell? ⟨w1.heap.size, 0, none⟩ = some (.slice A1 n1 c1) := by
            have := heap_alloc_new w1 (.cells #[.slice A1 n1 c1] 38 (0, 0))
            rw [hWX] at this
            rw [cell_of this 0]
            rfl
          have hru : RowAt (Fc W0.heap.size WX) WX (.slice A1 n1 c1) (lineV ls k) := row_old (own_at ho) hBX HG.out.2.2.2.size
          have HX := Lib.hid (And.intro hbx (And.intro hru (And.intro hx1 (And.intro (grow_old HG.out hbx).1 (Nat.le_trans HG.out.2.2.2.size hbx.size)))))
          have HWX := Lib.hid hWX
          have HLu : Hid (us.length + 1 ≤ 1000000) := Lib.hid (by have := HL.out; omega)
          clear hbx hBX hB1 hx1 hru hWX ho hg HLi HA0 H0 q2
          go_wp2_with (at_builtin; rw [HWX.out]; refine append_line _ rfl (.tmp 60) (.tmp 67) rfl W0.heap.size _ _ us rfl HX.out.2.2.2.1 w1.heap.size rfl HX.out.2.2.1 rfl HLu.out HX.out.2.2.2.2 ?_; intro v' w2 hown' hgrow; have HS := Lib.hid (grow_step HG.out HX.out.1 HX.out.2.1 hown' hgrow); clear hown' hgrow)
          go_roundw
          case rel => exact ⟨k + 1, us ++ [.slice A1 n1 c1], by omega, by go_num, Lib.hid (by rw [List.length_append, List.length_singleton, HL.out]), Lib.hid (by rw [HU.out]; exact HS.out)⟩
          case measure => simp [RowKit.intOf]; omega
        · have glt : decide ((k : Int) < (m : Int)) = false := by simp; omega
          have hkm : k = m := by omega
          have hGr := HG.out
          rw [show ls.take k = ls from by rw [hkm]; exact List.take_of_length_le (by have := HM.out; omega)] at hGr
          have HBr := Lib.hid hGr.2.2.2
          have HWs := Lib.hid (grow_at hGr).lt_
          have HTl := Lib.hid (fun (V : World) (hV : Below wr.heap.size wr V) => (Tl.out wr hGr.2.2.2).lt_.below hV)
          have HQr := Lib.hid (fun (V : World) (hV : Below wr.heap.size wr V) => HQ.out V (hGr.2.2.2.trans (hV.mono hGr.2.2.2.size)))
          have HA : Hid (ls.length ≤ 100000) := Lib.hid (by have := HM.out; have := HG60.out.1; omega)
          obtain ⟨LU, hLU⟩ : ∃ LU, upO ls T B N (freshC W a) = LU := ⟨_, rfl⟩
          obtain ⟨LG, hLG⟩ : ∃ LG, upG ls T B N = LG := ⟨_, rfl⟩
          obtain ⟨LD, hLD⟩ : ∃ LD, downO ls T B N (freshC W a) = LD := ⟨_, rfl⟩
          obtain ⟨LH, hLH⟩ : ∃ LH, downG ls T B N = LH := ⟨_, rfl⟩
          obtain ⟨LI, hLI⟩ : ∃ LI, insO ls Y T B N (freshC W a) = LI := ⟨_, rfl⟩
          obtain ⟨LE, hLE⟩ : ∃ LE, delO ls Y T B N (freshC W a) = LE := ⟨_, rfl⟩
          have hf := calm_fresh W a
          have HCm : Hid (calmL LU ∧ calmL LG ∧ calmL LD ∧ calmL LH ∧ calmL LI ∧ calmL LE) := Lib.hid ⟨by rw [← hLU]; exact calm_upO HCalm.out hf _ _ _, by rw [← hLG]; exact calm_upG HCalm.out _ _ _, by rw [← hLD]; exact calm_downO HCalm.out hf _ _ _, by rw [← hLH]; exact calm_downG HCalm.out _ _ _, by rw [← hLI]; exact calm_insO HCalm.out hf _ _ _ _, by rw [← hLE]; exact calm_delO HCalm.out hf _ _ _ _⟩
          have KU := fun (V : World) (hV : Below wr.heap.size wr V) => up_any (HTl.out V hV) HA.out HWL.out T B N W a hT hB hN hWi
          have KD := fun (V : World) (hV : Below wr.heap.size wr V) => down_any (HTl.out V hV) HA.out HWL.out T B N W a hT hB hN hWi
          have KI := fun (V : World) (hV : Below wr.heap.size wr V) => ins_any (HTl.out V hV) HA.out HWL.out Y T B N W a hY hT hB hN hWi
          have KE := fun (V : World) (hV : Below wr.heap.size wr V) => del_any (HTl.out V hV) HA.out HWL.out Y T B N W a hY hT hB hN hWi
          rw [hLU, hLG] at KU
          rw [hLD, hLH] at KD
          rw [hLI] at KI
          rw [hLE] at KE
          have KU := Lib.hid KU
          have KD := Lib.hid KD
          have KI := Lib.hid KI
          have KE := Lib.hid KE
          clear hLU hLG hLD hLH hLI hLE hf HCalm
          have k0 := cell_of (HQr.out wr (Below.refl _ _)) 0
          have k1 := cell_of (HQr.out wr (Below.refl _ _)) 1
          have k2 := cell_of (HQr.out wr (Below.refl _ _)) 2
          have k3 := cell_of (HQr.out wr (Below.refl _ _)) 3
          have k4 := cell_of (HQr.out wr (Below.refl _ _)) 4
          have k5 := cell_of (HQr.out wr (Below.refl _ _)) 5
          have k6 := cell_of (HQr.out wr (Below.refl _ _)) 6
          have k7 := cell_of (HQr.out wr (Below.refl _ _)) 7
          have k8 := cell_of (HQr.out wr (Below.refl _ _)) 8
          have k9 := cell_of (HQr.out wr (Below.refl _ _)) 9
          clear hkm hGr HG HL
          go_wp2_with fail
          refine (show Calls _ _ _ _ _ from KU.out wr (Below.refl _ _)).mono ?_
          rintro e y1 ⟨xa, xg, Fa, Fg, rfl, ta, wa, tg, wg, fa, fg, j1⟩
          obtain ⟨Aa, ca, rfl, -⟩ := id ta
          obtain ⟨Ag, cg, rfl, -⟩ := id tg
          have J1 := Lib.hid j1
          have XA1 := Lib.hid (And.intro ta (And.intro wa (And.intro tg (And.intro wg (And.intro fa fg)))))
          clear ta wa tg wg fa fg j1 KU k0 k1 k2 k3 k4 k5 k6 k7 k8 k9
          have k0 := cell_of (HQr.out y1 J1.out) 0
          have k1 := cell_of (HQr.out y1 J1.out) 1
          have k2 := cell_of (HQr.out y1 J1.out) 2
          have k3 := cell_of (HQr.out y1 J1.out) 3
          have k4 := cell_of (HQr.out y1 J1.out) 4
          have k5 := cell_of (HQr.out y1 J1.out) 5
          have k6 := cell_of (HQr.out y1 J1.out) 6
          have k7 := cell_of (HQr.out y1 J1.out) 7
          have k8 := cell_of (HQr.out y1 J1.out) 8
          have k9 := cell_of (HQr.out y1 J1.out) 9
          go_wp2_with fail
          refine (show Calls _ _ _ _ _ from KD.out y1 J1.out).mono ?_
          rintro e y2 ⟨xb, xh, Fb, Fh, rfl, tb, wb, th, wh, fb, fh, j2⟩
          obtain ⟨Ab, cb, rfl, -⟩ := id tb
          obtain ⟨Ah, ch, rfl, -⟩ := id th
          have J2 := Lib.hid (J1.out.trans (j2.mono J1.out.size))
          have J12 := Lib.hid j2
          have XB2 := Lib.hid (And.intro tb (And.intro wb (And.intro th (And.intro wh (And.intro fb fh)))))
          clear tb wb th wh fb fh j2 KD k0 k1 k2 k3 k4 k5 k6 k7 k8 k9
          have k0 := cell_of (HQr.out y2 J2.out) 0
          have k1 := cell_of (HQr.out y2 J2.out) 1
          have k2 := cell_of (HQr.out y2 J2.out) 2
          have k3 := cell_of (HQr.out y2 J2.out) 3
          have k4 := cell_of (HQr.out y2 J2.out) 4
          have k5 := cell_of (HQr.out y2 J2.out) 5
          have k6 := cell_of (HQr.out y2 J2.out) 6
          have k7 := cell_of (HQr.out y2 J2.out) 7
          have k8 := cell_of (HQr.out y2 J2.out) 8
          have k9 := cell_of (HQr.out y2 J2.out) 9
          go_wp2_with fail
          refine (show Calls _ _ _ _ _ from KI.out y2 J2.out).mono ?_
          rintro e y3 ⟨xc, Fc', rfl, tc, wc, fc, j3⟩
          obtain ⟨Ac, cc, rfl, -⟩ := id tc
          have J3 := Lib.hid (J2.out.trans (j3.mono J2.out.size))
          have J23 := Lib.hid j3
          have XC3 := Lib.hid (And.intro tc (And.intro wc fc))
          clear tc wc fc j3 KI k0 k1 k2 k3 k4 k5 k6 k7 k8 k9
          have k0 := cell_of (HQr.out y3 J3.out) 0
          have k1 := cell_of (HQr.out y3 J3.out) 1
          have k2 := cell_of (HQr.out y3 J3.out) 2
          have k3 := cell_of (HQr.out y3 J3.out) 3
          have k4 := cell_of (HQr.out y3 J3.out) 4
          have k5 := cell_of (HQr.out y3 J3.out) 5
          have k6 := cell_of (HQr.out y3 J3.out) 6
          have k7 := cell_of (HQr.out y3 J3.out) 7
          have k8 := cell_of (HQr.out y3 J3.out) 8
          have k9 := cell_of (HQr.out y3 J3.out) 9
          go_wp2_with fail
          refine (show Calls _ _ _ _ _ from KE.out y3 J3.out).mono ?_
          rintro e y4 ⟨xd, Fd, rfl, td, wd, fd, j4⟩
          obtain ⟨Ad, cd, rfl, -⟩ := id td
          have J4 := Lib.hid (J3.out.trans (j4.mono J3.out.size))
          have J34 := Lib.hid j4
          have XD4 := Lib.hid (And.intro td (And.intro wd fd))
          clear td wd fd j4 KE k0 k1 k2 k3 k4 k5 k6 k7 k8 k9
          obtain ⟨W5, hW5⟩ : ∃ W5, y4.alloc (.cells #[.slice Aa LU.length ca, .slice Ag LG.length cg, .slice Ab LD.length cb, .slice Ah LH.length ch, .slice Ac LI.length cc, .slice Ad LE.length cd] 22 (0, 0)) = W5 := ⟨_, rfl⟩
          have hB45 : Below y4.heap.size y4 W5 := by rw [← hW5]; exact (Below.refl _ _).alloc (Nat.le_refl _) _
          have hblk : W5.heap[y4.heap.size]? = some (.cells #[.slice Aa LU.length ca, .slice Ag LG.length cg, .slice Ab LD.length cb, .slice Ah LH.length ch, .slice Ac LI.length cc, .slice Ad LE.length cd] 22 (0, 0)) := by rw [← hW5]; exact heap_alloc_new y4 _
          obtain ⟨ta, wa, tg, wg, fa, fg⟩ := XA1.out
          obtain ⟨tb, wb, th, wh, fb, fh⟩ := XB2.out
          obtain ⟨tc, wc, fc⟩ := XC3.out
          obtain ⟨td, wd, fd⟩ := XD4.out
          have hb35 := J34.out.trans (hB45.mono J34.out.size)
          have hb25 := J23.out.trans (hb35.mono J23.out.size)
          have hb15 := J12.out.trans (hb25.mono J12.out.size)
          have HSF := Lib.hid (six_f J1.out.size J12.out.size J23.out.size J34.out.size fa fg fb fh fc fd)
          have HSC := Lib.hid (six_c hb15 hb25 hb35 hB45 ta wa tg wg tb wb th wh tc wc td wd)
          have HSM := Lib.hid (fun (i : Nat) (hi : i < 6) => six_all (p := calmL) HCm.out hi)
          have HBk := Lib.hid (show ∀ i, i < 6 → W5.cell? ⟨y4.heap.size, i, none⟩ = some (six (.slice Aa LU.length ca) (.slice Ag LG.length cg) (.slice Ab LD.length cb) (.slice Ah LH.length ch) (.slice Ac LI.length cc) (.slice Ad LE.length cd) i) from fun i hi => by rw [cell_of hblk]; exact six_cells _ _ _ _ _ _ hi)
          have HB5 := Lib.hid (J4.out.trans (hB45.mono J4.out.size))
          have HS5 := Lib.hid (show y4.heap.size < W5.heap.size from blk_lt hblk)
          have HW5 := Lib.hid hW5
          clear hblk hB45 hb35 hb25 hb15 ta wa tg wg fa fg tb wb th wh fb fh tc wc fc td wd fd XA1 XB2 XC3 XD4 J1 J2 J3 J12 J23 J34 HCm hW5
          generalize hx6 : six (α := Value) (.slice Aa LU.length ca) (.slice Ag LG.length cg) (.slice Ab LD.length cb) (.slice Ah LH.length ch) (.slice Ac LI.length cc) (.slice Ad LE.length cd) = x6 at HSC HBk
          generalize hF6 : six Fa Fg Fb Fh Fc' Fd = F6 at HSC HSF
          generalize hL6 : six LU LG LD LH LI LE = L6 at HSC HSM
          clear hx6 hF6 hL6
          go_upto_region 21 with fail
          rw [HW5.out]
          go_loopw [135] (fun i wu => ∃ (j : Nat) (wz : World), j ≤ 6 ∧ i = .int .i64 j ∧ wz = wu ∧ Hid (SixC x6 F6 L6 j W5 wz)) (fun i _ => 6 - (RowKit.intOf i).toNat)
          case atStart => exact ⟨0, W5, Nat.zero_le _, rfl, rfl, HSC⟩
          case round =>
            obtain ⟨j, wz, hj, rfl, rfl, HS⟩ := hrel
            by_cases hlt6 : j < 6
            · have glt6 : decide ((j : Int) < 6) = true := by simp; omega
              have hcell : wz.cell? ⟨y4.heap.size, j, none⟩ = some (x6 j) := (World.cell?_of_block (HS.out.keep y4.heap.size fun i hi hf => Nat.lt_irrefl _ (HSF.out.2 i _ hi hf).2)).trans (HBk.out j hlt6)
              have i6 := idx_tabs y4.heap.size 0 6 6 j hlt6
              rw [Nat.zero_add] at i6
              have TA := Lib.hid (HS.out.at_ j (Nat.le_refl _) hlt6)
              have TW := Lib.hid (HS.out.w_ j (Nat.le_refl _) hlt6)
              have HCj := Lib.hid (HSM.out j hlt6)
              have HSt := Lib.hid (fun (w' : World) (ho : OnlyF (F6 j) wz w') => HS.out.step HSF.out.1 hlt6 ho)
              obtain ⟨Aj, cj, ej, -, ⟨hnj, hcj⟩, -⟩ := id TA.out
              rw [ej] at hcell TA TW
              generalize F6 j = Fj at *
              generalize L6 j = Lj at *
              obtain ⟨nj, hnj'⟩ : ∃ nj, Lj.length = nj := ⟨_, rfl⟩
              rw [hnj'] at hcell TA TW hnj
              clear ej hnj' HS
              go_wp2_with fail
              clear hcell i6
              go_loop [17] (fun i => ∃ k : Nat, k ≤ nj ∧ i = .int .i64 k) (fun i => nj - (RowKit.intOf i).toNat)
              case atStart => exact ⟨0, Nat.zero_le _, rfl⟩
              case round =>
                obtain ⟨k, hk, rfl⟩ := hrel
                by_cases hlt : k < nj
                · have glt : decide ((k : Int) < (nj : Int)) = true := by simp; omega
                  obtain ⟨b1, o1, u1, rfl, _, hb1, q1, r1⟩ := TA.out.at_ hlt
                  have i1 := idx_tab b1 o1 nj cj k hlt
                  obtain ⟨B1, d1, rfl, -, ⟨hd1, hd2⟩, -⟩ := id r1
                  have HR := Lib.hid r1
                  have HCk := Lib.hid (HCj.out k)
                  generalize lineV Lj k = l1 at *
                  obtain ⟨n1, hn1⟩ : ∃ n1, l1.length = n1 := ⟨_, rfl⟩
                  rw [hn1] at HR q1 hd1
                  clear r1 hn1
                  go_wp2_with fail
                  go_loop [18] (fun i => ∃ y : Nat, y ≤ n1 ∧ i = .int .i64 y) (fun i => n1 - (RowKit.intOf i).toNat)
                  case atStart => exact ⟨0, Nat.zero_le _, rfl⟩
                  case round =>
                    obtain ⟨y, hy, rfl⟩ := hrel
                    by_cases hlt2 : y < n1
                    · have glt2 : decide ((y : Int) < (n1 : Int)) = true := by simp; omega
                      obtain ⟨b2, o2, rfl, hb2, q2⟩ := HR.out.wide hlt2
                      have i2 := idx_cell b2 o2 n1 d1 y hlt2
                      have h99 := HCk.out y
                      have g99 : (((cellV l1 y).w : Int) == 99) = false := by simp; omega
                      generalize (cellV l1 y).w = wd at *
                      go_wp2_with fail
                      go_round
                      case rel => exact ⟨y + 1, by omega, by go_num⟩
                      case measure => simp [RowKit.intOf]; omega
                    · have glt2 : decide ((y : Int) < (n1 : Int)) = false := by simp; omega
                      go_wp2_with fail
                      go_round
                      case rel => exact ⟨k + 1, by omega, by go_num⟩
                      case measure => simp [RowKit.intOf]; omega
                · have glt : decide ((k : Int) < (nj : Int)) = false := by simp; omega
                  go_wp2_with fail
                  go_loopw [19] (fun i wu => ∃ (k : Nat) (wv : World), k ≤ nj ∧ i = .int .i64 k ∧ wv = wu ∧ Hid (TabW Fj wv (.slice Aj nj cj) nj ∧ OnlyF Fj wz wv)) (fun i _ => nj - (RowKit.intOf i).toNat)
                  case atStart => exact ⟨0, wz, Nat.zero_le _, rfl, rfl, Lib.hid ⟨TW.out, only_refl _ _⟩⟩
                  case round =>
                    obtain ⟨k, wv, hk, rfl, rfl, HW⟩ := hrel
                    by_cases hlt : k < nj
                    · have glt : decide ((k : Int) < (nj : Int)) = true := by simp; omega
                      obtain ⟨b1, o1, u1, rfl, hFb, q1, z1, rw1⟩ := HW.out.1.at_ hlt
                      have i1 := idx_tab b1 o1 nj cj k hlt
                      obtain ⟨B1, n1, d1, rfl, ⟨hd1, hd2⟩, -⟩ := id rw1
                      have HLc : Hid (LineC Fj wz wv b1 o1 nj cj k B1 n1 d1) := Lib.hid ⟨HW.out.1, HW.out.2, q1, z1, rw1⟩
                      clear HW rw1 q1 z1
                      go_wp2_with fail
                      go_loopw [20] (fun i wu => ∃ (y : Nat) (wx : World), y ≤ n1 ∧ i = .int .i64 y ∧ wx = wu ∧ Hid (LineC Fj wz wx b1 o1 nj cj k B1 n1 d1)) (fun i _ => n1 - (RowKit.intOf i).toNat)
                      case atStart => exact ⟨0, wv, Nat.zero_le _, rfl, rfl, HLc⟩
                      case round =>
                        obtain ⟨y, wx, hy, rfl, rfl, HX⟩ := hrel
                        have q1 := HX.out.cell
                        by_cases hlt2 : y < n1
                        · have glt2 : decide ((y : Int) < (n1 : Int)) = true := by simp; omega
                          obtain ⟨r, ro, cs, xv, rfl, hFr, hbr, q2, z2⟩ := HX.out.row.at_ hlt2
                          have i2 := idx_cell r ro n1 d1 y hlt2
                          have HX2 := Lib.hid (HX.out.store (i := ro + y * 7 + 1) hlt hFr hbr (.int .u8 99))
                          clear hbr
                          go_wp2_with fail
                          go_roundw
                          case rel => exact ⟨y + 1, _, by omega, by go_num, rfl, HX2⟩
                          case measure => simp [RowKit.intOf]; omega
                        · have glt2 : decide ((y : Int) < (n1 : Int)) = false := by simp; omega
                          have z1 := HX.out.free
                          have HW2 := Lib.hid (And.intro (HX.out.tab.line hlt) (HX.out.only.set hFb (o1 + k) (.slice none 0 0)))
                          go_wp2_with fail
                          go_roundw
                          case rel => exact ⟨k + 1, _, by omega, by go_num, rfl, HW2⟩
                          case measure => simp [RowKit.intOf]; omega
                    · have glt : decide ((k : Int) < (nj : Int)) = false := by simp; omega
                      have HE := Lib.hid (HSt.out wv HW.out.2)
                      go_wp2_with fail
                      go_roundw
                      case rel => exact ⟨j + 1, _, by omega, by go_num, rfl, HE⟩
                      case measure => simp [RowKit.intOf]; omega
            · have glt6 : decide ((j : Int) < 6) = false := by simp; omega
              have hkp : ∀ b, b < wr.heap.size → wz.heap[b]? = W5.heap[b]? := fun b hb => HS.out.keep b fun i hi hf => by have := (HSF.out.2 i b hi hf).1; omega
              have KS := Lib.hid (same_win (w := wz) (fun V hV => ((HTl.out W5 HB5.out).keep (fun b hb _ => hkp b hb) (Nat.le_of_eq HS.out.size.symm)).below hV) (fun V hV => ((HWs.out.below HB5.out).keep (fun b hb _ => hkp b hb) (Nat.le_of_eq HS.out.size.symm)).below hV) rfl HA.out HWL.out wz (Below.refl _ _))
              have HBz := Lib.hid (HS.out.bel wr.heap.size wr (fun i b hi hf => (HSF.out.2 i b hi hf).1) HB5.out)
              clear hkp
              go_wp2_with fail
              refine (show Calls _ _ _ _ _ from KS.out).mono ?_
              rintro e z1 ⟨rfl, b1⟩
              have B1 := Lib.hid b1
              clear b1 KS
              go_wp2_with fail
              refine (HWk.out _).mono ?_
              rintro e z2 ⟨rfl, b2⟩
              go_wp2
              go_ret
              exact ⟨rfl, HBl.out.trans ((HBr.out.trans ((HBz.out.trans ((B1.out.trans (b2.mono B1.out.size)).mono HBz.out.size)).mono HBr.out.size)).mono HBl.out.size)⟩
end Go.Proofs.Ytomfeehebkknoaa.Rw
