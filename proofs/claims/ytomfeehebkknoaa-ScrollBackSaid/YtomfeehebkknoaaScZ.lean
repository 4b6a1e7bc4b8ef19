/- Layer 13: ScrollBack, at a region of the lines. -/
import Derived.Test.YtomfeehebkknoaaScE
set_option linter.unusedVariables false
namespace Go.Proofs.Ytomfeehebkknoaa.Rw
open Go.RowKit

/-- Two answers that have lines. -/
def TwoSl (w : World) (L1 L2 : Ls) (m n : Nat) (e : Ending) (w' : World) : Prop := ∃ b1 o1 c1 b2 o2 c2, e = .returned (.tuple #[.slice (some ⟨b1, o1, none⟩) m c1, .slice (some ⟨b2, o2, none⟩) n c2]) ∧ TabAt (fun _ => True) w' (.slice (some ⟨b1, o1, none⟩) m c1) L1 ∧ TabAt (fun _ => True) w' (.slice (some ⟨b2, o2, none⟩) n c2) L2 ∧ Below w.heap.size w w'
theorem two_sl {w w' : World} {l1 l2 L1 L2 : Ls} {m n : Nat} {e : Ending} (h : TwoPost w l1 l2 e w') (e1 : l1 = L1) (e2 : l2 = L2) (h1 : L1.length = m) (h2 : L2.length = n) (hm : 0 < m) (hn : 0 < n) : TwoSl w L1 L2 m n e w' := by
  obtain ⟨o, g, F1, F2, he, t1, _, t2, _, _, _, hb⟩ := h
  subst e1 e2 h1 h2
  obtain ⟨A1, c1, rfl, -⟩ := id t1
  obtain ⟨A2, c2, rfl, -⟩ := id t2
  obtain ⟨b1, o1, rfl⟩ := t1.some_ hm
  obtain ⟨b2, o2, rfl⟩ := t2.some_ hn
  exact ⟨b1, o1, c1, b2, o2, c2, he, t1.more fun _ _ => trivial, t2.more fun _ _ => trivial, hb⟩
theorem fresh_is {n : Nat} (W : Int) (a : Aa) (h1 : 1 ≤ n) (h2 : n ≤ 400) : freshT (n : Int) W a = List.replicate n (freshC W a) := by
  unfold freshT
  rw [if_pos (by omega), Int.toNat_natCast]
theorem wide_rep (n : Nat) (W : Int) (a : Aa) : wideL (List.replicate n (freshC W a)) := fun k => by
  have hf := fresh_len W a
  unfold lineV
  rw [List.getD_eq_getElem?_getD, List.getElem?_replicate]
  split
  · exact Nat.le_trans hf (by decide)
  · simp

set_option maxRecDepth 100000 in
set_option maxHeartbeats 8000000 in
theorem back_yes {F : Nat → Prop} {w : World} {v : Value} {ls : Ls} (h : TabAt F w v ls) (Y N W : Int) (t b n : Nat) (a : Aa) (hg : greatB ls = false) (htb : t ≤ b) (hbm : b < ls.length) (hN : 1 ≤ N) (hNi : IntIn N) (hW : W ≤ 60) (hWi : IntIn W) (hn : (n : Int) = min N ((b : Int) - t + 1)) : Calls Try.prog 3 #[v, moveV Y (t : Int) (b : Int) N W a] w fun e w' => e = .returned (.bool true) ∧ Below w.heap.size w w' := by
  have HWk : Hid (∀ V, Calls Try.prog 7 #[] V fun e w' => e = .returned (.bool true) ∧ Below V.heap.size V w') := Lib.hid fun V => wakes_any V
  obtain ⟨A, lc, rfl, -, hc, -⟩ := id h
  obtain ⟨lb, lo, rfl⟩ := h.some_ (by omega)
  obtain ⟨m, hm⟩ : ∃ m, ls.length = m := ⟨_, rfl⟩
  rw [hm] at h hbm hc ⊢
  have hgr := great_no hg
  have hwl := great_wide hg
  rw [hm] at hgr
  have hm60 : m ≤ 60 := hgr.1
  have hn1 : 1 ≤ n := by omega
  have hnb : n ≤ b + 1 - t := by omega
  obtain ⟨W0, hW0, hb, hs, hp⟩ := box_move w Y t b N W a
  have hGr := great_any (h.below hb)
  rw [hg] at hGr
  have HGr := Lib.hid hGr
  have HW0 := Lib.hid hW0
  have HQ : Hid (∀ V, Below W0.heap.size W0 V → V.heap[w.heap.size]? = some (moveO Y t b N W a)) := Lib.hid fun V hV => (hV.block _ (by omega)).trans hp
  have HB := Lib.hid hb
  have Tl := Lib.hid (fun (V : World) (hV : Below W0.heap.size W0 V) => (h.below hb).below hV)
  obtain ⟨E, hE⟩ : ∃ E, E = b + 1 := ⟨_, rfl⟩
  obtain ⟨D, hD⟩ : ∃ D, D = b + 1 - n := ⟨_, rfl⟩
  obtain ⟨U, hU⟩ : ∃ U, U = t + n := ⟨_, rfl⟩
  obtain ⟨S, hS⟩ : ∃ S, S = b - t := ⟨_, rfl⟩
  obtain ⟨Z, hZ⟩ : ∃ Z, Z = b + 1 - t := ⟨_, rfl⟩
  have z1 : IntKind.i64.wrap ((b : Int) - (t : Int)) = (S : Int) := by rw [IntWalk.i64_in _ (by omega)]; omega
  have z2 : IntKind.i64.wrap ((S : Int) + 1) = (Z : Int) := by rw [IntWalk.i64_in _ (by omega)]; omega
  have z3 : IntKind.i64.wrap ((b : Int) + 1) = (E : Int) := by rw [IntWalk.i64_in _ (by omega)]; omega
  have z4 : IntKind.i64.wrap ((E : Int) - (n : Int)) = (D : Int) := by rw [IntWalk.i64_in _ (by omega)]; omega
  have z5 : IntKind.i64.wrap ((t : Int) + (n : Int)) = (U : Int) := by rw [IntWalk.i64_in _ (by omega)]; omega
  have ti : IntIn (t : Int) := ⟨by omega, by omega⟩
  have bi : IntIn (b : Int) := ⟨by omega, by omega⟩
  have ni : IntIn (n : Int) := ⟨by omega, by omega⟩
  obtain ⟨f, hf⟩ : ∃ f, f = freshC W a := ⟨_, rfl⟩
  have hbl : b < ls.length := by omega
  obtain ⟨i1, i2, i3, i4⟩ := upO_is (ls := ls) f htb hbl hN hn
  obtain ⟨j1, j2, -, -⟩ := upO_is (ls := downN ls t b n f) f htb (by rw [downN_len]; exact hbl) hN hn
  have w1 : wideL (downN ls t b n f) := by rw [hf]; exact wide_down hwl t b n W a
  have w2 : wideL (upN (downN ls t b n f) t b n f) := by rw [hf]; rw [hf] at w1; exact wide_up w1 t b n W a
  have w3 : wideL (upN ls t b n f) := by rw [hf]; exact wide_up hwl t b n W a
  have K1 : Hid (Calls Try.prog 8 #[.slice (some ⟨lb, lo, none⟩) m lc, .int .i64 t, .int .i64 b, .int .i64 N, .int .i64 W, attrV a] W0 (TwoSl W0 (downN ls t b n f) (cutL ls D n) m n)) := Lib.hid ((down_any (Tl.out _ (Below.refl _ _)) (by omega) hwl t b N W a ti bi hNi hWi).mono fun e w' hh => two_sl hh (by rw [← hf]; exact i3) (by rw [hD]; exact i4) (by rw [downN_len, hm]) (cutL_len _ _ _) (by omega) (by omega))
  have K2 : Hid (∀ V A c, TabAt (fun _ => True) V (.slice A m c) (downN ls t b n f) → Calls Try.prog 9 #[.slice A m c, .int .i64 t, .int .i64 b, .int .i64 N, .int .i64 W, attrV a] V (TwoSl V (upN (downN ls t b n f) t b n f) (cutL (downN ls t b n f) t n) m n)) := Lib.hid fun V A c hT => (up_any hT (by rw [downN_len]; omega) w1 t b N W a ti bi hNi hWi).mono fun e w' hh => two_sl hh (by rw [← hf]; exact j1) j2 (by rw [upN_len, downN_len, hm]) (cutL_len _ _ _) (by omega) (by omega)
  have K3 : Hid (∀ V, Below W0.heap.size W0 V → Calls Try.prog 9 #[.slice (some ⟨lb, lo, none⟩) m lc, .int .i64 t, .int .i64 b, .int .i64 N, .int .i64 W, attrV a] V (TwoSl V (upN ls t b n f) (cutL ls t n) m n)) := Lib.hid fun V hV => (up_any (Tl.out _ hV) (by omega) hwl t b N W a ti bi hNi hWi).mono fun e w' hh => two_sl hh (by rw [← hf]; exact i1) i2 (by rw [upN_len, hm]) (cutL_len _ _ _) (by omega) (by omega)
  have KF : Hid (∀ V, Calls Try.prog 11 #[.int .i64 n, .int .i64 W, attrV a] V fun e w' => ∃ A c, e = .returned (.slice A n c) ∧ TabAt (fun _ => True) w' (.slice A n c) (List.replicate n f) ∧ Below V.heap.size V w') := Lib.hid fun V => (fresh_any n W a V ni hWi).mono fun e w' ⟨o, F1, he, t1, _, _, hb⟩ => by
    rw [fresh_is W a hn1 (by omega), ← hf] at t1
    obtain ⟨A, c, rfl, -⟩ := id t1
    rw [List.length_replicate] at he t1
    exact ⟨A, c, he, t1.more fun _ _ => trivial, hb⟩
  have e1 : (upN (downN ls t b n f) t b n f).take D = ls.take D := by rw [hD]; exact back_head f htb hbl hn1 hnb
  have e2 : (upN (downN ls t b n f) t b n f).drop E = ls.drop E := by rw [hE]; exact back_tail f htb hbl hn1 hnb
  have e3 : cutL ls D n = (ls.take E).drop D := by rw [hE, hD]; exact gone_down f htb hbl hn1 hnb
  have e4 : cutL ls t n = (ls.take U).drop t := by rw [hU]; exact gone_up f htb hbl hn1 hnb
  have e5 : ((downN ls t b n f).take E).drop U = (ls.take D).drop t := by rw [hE, hD, hU]; exact down_mid f htb hbl hn1 hnb
  have e6 : ((upN ls t b n f).take D).drop t = (ls.take E).drop U := by rw [hE, hD, hU]; exact up_mid f htb hbl hn1 hnb
  have e7 : (upN ls t b n f).take t = ls.take t := up_head f htb hbl hn1 hnb
  have e8 : (downN ls t b n f).drop E = ls.drop E := by rw [hE]; exact down_tail f htb hbl hn1 hnb
  have e9 : cutL (downN ls t b n f) t n = List.replicate n f := gone_back f htb hbl hn1 hnb
  have w9 : wideL (List.replicate n f) := by rw [hf]; exact wide_rep n W a
  have hDm : D ≤ m := by omega
  have hEm : E ≤ m := by omega
  have hUE : U ≤ E := by omega
  have htD : t ≤ D := by omega
  have hDE : D ≤ E := by omega
  have htU : t ≤ U := by omega
  have hlg : ∀ l : Ls, l.length = m → l.length ≤ 100000 := fun l hl => by omega
  have l1 : (upN (downN ls t b n f) t b n f).length = m := by rw [upN_len, downN_len, hm]
  have l2 : (downN ls t b n f).length = m := by rw [downN_len, hm]
  have l3 : (upN ls t b n f).length = m := by rw [upN_len, hm]
  have HS := Lib.hid (And.intro e1 (And.intro e2 (And.intro e3 (And.intro e4 (And.intro e5 (And.intro e6 (And.intro e7 (And.intro e8 e9))))))))
  have HD := Lib.hid (And.intro hDm (And.intro hEm (And.intro hUE (And.intro htD (And.intro hDE (And.intro htU (And.intro hm60 (And.intro l1 (And.intro l2 l3)))))))))
  have HM := Lib.hid hm
  have HV := Lib.hid (And.intro w1 (And.intro w2 (And.intro w3 (And.intro w9 hwl))))
  have HN := Lib.hid (show n ≤ 100000 by omega)
  have gz : (if (Z : Int) < N then (Z : Int) else N) = (n : Int) := by split <;> omega
  have gz2 : min N (Z : Int) = (n : Int) := by omega
  have g1 : decide ((t : Int) < 0) = false := by simp
  have g2 : decide ((t : Int) > (b : Int)) = false := by simp; omega
  have g3 : decide ((b : Int) ≥ (m : Int)) = false := by simp; omega
  have g2' : decide (b < t) = false := by simp; omega
  have g3' : decide (m ≤ b) = false := by simp; omega
  have g4 : decide (N < 1) = false := by simp; omega
  have g5 : decide (W > 60) = false := by simp; omega
  have c1 := cell_of hp 1
  have c2 := cell_of hp 2
  have c3 := cell_of hp 3
  have c4 := cell_of hp 4
  generalize hLD : downN ls t b n f = LD at *
  generalize hLB : upN LD t b n f = LB at *
  generalize hLU : upN ls t b n f = LU at *
  generalize hLG : cutL ls D n = LG at *
  generalize hLO : cutL ls t n = LO at *
  generalize hLF : cutL LD t n = LF at *
  clear hLD hLB hLU hLG hLO hLF e1 e2 e3 e4 e5 e6 e7 e8 e9 w1 w2 w3 w9 l1 l2 l3 hDm hEm hUE htD hDE htU hlg hbl i1 i2 i3 i4 j1 j2 ti bi ni hGr hg hgr hwl hm60 hn1 hnb hn hN hNi hW hWi hW0 hb hp hE hD hU hS hZ htb hbm hf hc h
  go_enter Try.func3, Try.ntmps3
  go_upto_region 1 with fail
  change Code.wp _ _ _ _ (w.alloc (moveO Y t b N W a))
  rw [← HW0.out]
  go_wp2_with fail
  refine (show Calls _ _ _ _ _ from HGr.out).mono ?_
  rintro e _ ⟨rfl, rfl⟩
  clear HGr
  have c5 := cell_of (HQ.out W0 (Below.refl _ _)) 5
  have c6 := cell_of (HQ.out W0 (Below.refl _ _)) 6
  have c7 := cell_of (HQ.out W0 (Below.refl _ _)) 7
  have c8 := cell_of (HQ.out W0 (Below.refl _ _)) 8
  have c9 := cell_of (HQ.out W0 (Below.refl _ _)) 9
  go_wp2_with fail
  refine (show Calls _ _ _ _ _ from K1.out).mono ?_
  rintro e y1 ⟨bD, oD, cD, bG, oG, cG, rfl, hTD, hTG, j1⟩
  have J1 := Lib.hid j1
  have TD1 := Lib.hid hTD
  have TG1 := Lib.hid hTG
  clear K1 j1 hTD hTG g1 g2 g2' g3 g3' g4 g5 gz gz2 z1 z2 c1 c2 c3 c4 c5 c6 c7 c8 c9
  have c1 := cell_of (HQ.out y1 J1.out) 1
  have c2 := cell_of (HQ.out y1 J1.out) 2
  have c3 := cell_of (HQ.out y1 J1.out) 3
  have c4 := cell_of (HQ.out y1 J1.out) 4
  have c5 := cell_of (HQ.out y1 J1.out) 5
  have c6 := cell_of (HQ.out y1 J1.out) 6
  have c7 := cell_of (HQ.out y1 J1.out) 7
  have c8 := cell_of (HQ.out y1 J1.out) 8
  have c9 := cell_of (HQ.out y1 J1.out) 9
  go_wp2_with fail
  refine (show Calls _ _ _ _ _ from K2.out _ _ _ TD1.out).mono ?_
  rintro e y2 ⟨bB, oB, cB, bF, oF, cF, rfl, hTB, hTF, j2⟩
  have J2 := Lib.hid (J1.out.trans (j2.mono J1.out.size))
  have TD2 := Lib.hid (TD1.out.below j2)
  have TG2 := Lib.hid (TG1.out.below j2)
  have TB2 := Lib.hid hTB
  have TF2 := Lib.hid hTF
  clear K2 j2 hTB hTF TD1 TG1 J1 c1 c2 c3 c4 c5 c6 c7 c8 c9
  have c1 := cell_of (HQ.out y2 J2.out) 1
  have c2 := cell_of (HQ.out y2 J2.out) 2
  have c3 := cell_of (HQ.out y2 J2.out) 3
  have c4 := cell_of (HQ.out y2 J2.out) 4
  have c5 := cell_of (HQ.out y2 J2.out) 5
  have c6 := cell_of (HQ.out y2 J2.out) 6
  have c7 := cell_of (HQ.out y2 J2.out) 7
  have c8 := cell_of (HQ.out y2 J2.out) 8
  have c9 := cell_of (HQ.out y2 J2.out) 9
  go_wp2_with fail
  refine (show Calls _ _ _ _ _ from K3.out _ J2.out).mono ?_
  rintro e y3 ⟨bU, oU, cU, bO, oO, cO, rfl, hTU, hTO, j3⟩
  have J3 := Lib.hid (J2.out.trans (j3.mono J2.out.size))
  have TD := Lib.hid (TD2.out.below j3)
  have TG := Lib.hid (TG2.out.below j3)
  have TB := Lib.hid (TB2.out.below j3)
  have TF := Lib.hid (TF2.out.below j3)
  have TU := Lib.hid hTU
  have TO := Lib.hid hTO
  have TL := Lib.hid (Tl.out _ J3.out)
  clear K3 j3 hTU hTO TD2 TG2 TB2 TF2 J2 Tl c1 c2 c3 c4 c5 c6 c7 c8 c9
  have c1 := cell_of (HQ.out y3 J3.out) 1
  have c2 := cell_of (HQ.out y3 J3.out) 2
  have gm : ((m : Int) != (m : Int)) = false := by simp
  have gn : ((n : Int) != (n : Int)) = false := by simp
  obtain ⟨hDm, hEm, hUE, htD, hDE, htU, hm60, l1, l2, l3⟩ := HD.out
  obtain ⟨q1, r1⟩ := to_tab TB.out D hDm
  obtain ⟨q2, r2⟩ := to_tab TL.out D hDm
  obtain ⟨p3, q3, r3⟩ := from_tab TB.out E hEm
  obtain ⟨p4, q4, r4⟩ := from_tab TL.out E hEm
  obtain ⟨p5, q5, r5⟩ := win_tab TL.out D E hDE hEm
  obtain ⟨p6, q6, r6⟩ := win_tab TL.out t U htU (Nat.le_trans hUE hEm)
  obtain ⟨p7, q7, r7⟩ := win_tab TD.out U E hUE hEm
  obtain ⟨p8, q8, r8⟩ := win_tab TL.out t D htD hDm
  obtain ⟨p9, q9, r9⟩ := win_tab TU.out t D htD hDm
  obtain ⟨p10, q10, r10⟩ := win_tab TL.out U E hUE hEm
  obtain ⟨q11, r11⟩ := to_tab TU.out t (Nat.le_trans htD hDm)
  obtain ⟨q12, r12⟩ := to_tab TL.out t (Nat.le_trans htD hDm)
  obtain ⟨p13, q13, r13⟩ := from_tab TD.out E hEm
  have HL : Hid (∀ V, Below y3.heap.size y3 V → True) := Lib.hid fun _ _ => trivial
  obtain ⟨e1, e2, e3, e4, e5, e6, e7, e8, e9⟩ := HS.out
  obtain ⟨w1, w2, w3, w9, wl⟩ := HV.out
  have lt : ∀ {l : Ls} (y : Nat), l.length = m → (l.take y).length ≤ 100000 := fun y hl => by rw [List.length_take]; omega
  have ld : ∀ {l : Ls} (y : Nat), l.length = m → (l.drop y).length ≤ 100000 := fun y hl => by rw [List.length_drop]; omega
  have lw : ∀ {l : Ls} (x y : Nat), l.length = m → ((l.take y).drop x).length ≤ 100000 := fun x y hl => by rw [List.length_drop, List.length_take]; omega
  have S1 := Lib.hid (same_win r1 r2 e1 (lt D l1) (wide_take w2 D))
  have S2 := Lib.hid (same_win r3 r4 e2 (ld E l1) (wide_drop w2 E))
  have S3 := Lib.hid (same_win (fun V hV => TG.out.below hV) r5 e3 (by rw [e3]; exact lw D E HM.out) (by rw [e3]; exact wide_drop (wide_take wl E) D))
  have S4 := Lib.hid (same_win (fun V hV => TO.out.below hV) r6 e4 (by rw [e4]; exact lw t U HM.out) (by rw [e4]; exact wide_drop (wide_take wl U) t))
  have S5 := Lib.hid (same_win r7 r8 e5 (lw U E l2) (wide_drop (wide_take w1 E) U))
  have S6 := Lib.hid (same_win r9 r10 e6 (lw t D l3) (wide_drop (wide_take w3 D) t))
  have S7 := Lib.hid (same_win r11 r12 e7 (lt t l3) (wide_take w3 t))
  have S8 := Lib.hid (same_win r13 r4 e8 (ld E l2) (wide_drop w1 E))
  clear r1 r2 r3 r4 r5 r6 r7 r8 r9 r10 r11 r12 r13 e1 e2 e3 e4 e5 e6 e7 e8 lt ld lw w1 w2 w3 wl l1 l2 l3 HL hDm hEm hUE htD hDE htU
  go_upto_region 11 with fail
  clear gm gn z3
  have hd := below_drew (Below.refl y3.heap.size y3) 1
  have k0 : Below y3.heap.size y3 y3 := Below.refl _ _
  have a1 := fun (V : World) (hV : Below y3.heap.size y3 V) => cell_of (HQ.out V (J3.out.trans (hV.mono J3.out.size))) 1
  clear c1 c2
  go_region_held3 (fun V => Below y3.heap.size y3 V) (assumption)
    (first | (go_at_call 10; (with_reducible refine (S1.out _ (by assumption)).mono ?_); rintro e vS1 ⟨rfl, qvS1⟩) | (go_at_call 10; (with_reducible refine (S2.out _ (by assumption)).mono ?_); rintro e vS2 ⟨rfl, qvS2⟩) | (go_at_call 10; (with_reducible refine (S3.out _ (by assumption)).mono ?_); rintro e vS3 ⟨rfl, qvS3⟩) | (go_at_call 10; (with_reducible refine (S4.out _ (by assumption)).mono ?_); rintro e vS4 ⟨rfl, qvS4⟩))
  have B4 : Hid (Below y3.heap.size y3 vS4) := Lib.hid (by assumption)
  clear S1 S2 S3 S4 a1 hd k0 q1 q2 q3 q5 q6
  go_wp2_with fail
  have hd := below_drew B4.out 1
  have k0 : Below y3.heap.size y3 vS4 := B4.out
  have a1 := fun (V : World) (hV : Below y3.heap.size y3 V) => cell_of (HQ.out V (J3.out.trans (hV.mono J3.out.size))) 1
  have a4 := fun (V : World) (hV : Below y3.heap.size y3 V) => cell_of (HQ.out V (J3.out.trans (hV.mono J3.out.size))) 4
  have a5 := fun (V : World) (hV : Below y3.heap.size y3 V) => cell_of (HQ.out V (J3.out.trans (hV.mono J3.out.size))) 5
  have a6 := fun (V : World) (hV : Below y3.heap.size y3 V) => cell_of (HQ.out V (J3.out.trans (hV.mono J3.out.size))) 6
  have a7 := fun (V : World) (hV : Below y3.heap.size y3 V) => cell_of (HQ.out V (J3.out.trans (hV.mono J3.out.size))) 7
  have a8 := fun (V : World) (hV : Below y3.heap.size y3 V) => cell_of (HQ.out V (J3.out.trans (hV.mono J3.out.size))) 8
  have a9 := fun (V : World) (hV : Below y3.heap.size y3 V) => cell_of (HQ.out V (J3.out.trans (hV.mono J3.out.size))) 9
  have KF' : Hid (∀ V, Below y3.heap.size y3 V → Calls Try.prog 11 #[.int .i64 n, .int .i64 W, attrV a] V fun e w' => ∃ A c, e = .returned (.slice A n c) ∧ TabAt (fun _ => True) w' (.slice A n c) (List.replicate n f) ∧ Below y3.heap.size y3 w') := Lib.hid fun V hV => (KF.out V).mono fun e w' ⟨A, c, he, ht, hb⟩ => ⟨A, c, he, ht, hV.trans (hb.mono hV.size)⟩
  have KW : Hid (∀ V, Below y3.heap.size y3 V → Calls Try.prog 7 #[] V fun e w' => e = .returned (.bool true) ∧ Below y3.heap.size y3 w') := Lib.hid fun V hV => (HWk.out V).mono fun e w' ⟨he, hb⟩ => ⟨he, hV.trans (hb.mono hV.size)⟩
  have S9 : Hid (∀ V A c, Below y3.heap.size y3 V → TabAt (fun _ => True) V (.slice A n c) (List.replicate n f) → Calls Try.prog 10 #[.slice (some ⟨bF, oF, none⟩) n cF, .slice A n c] V fun e w' => e = .returned (.bool true) ∧ Below y3.heap.size y3 w') := Lib.hid fun V A c hV ht => (same_win (w := V) (fun V' hV' => TF.out.below (hV.trans (hV'.mono hV.size))) (fun V' hV' => ht.below hV') e9 (by rw [e9, List.length_replicate]; exact HN.out) (by rw [e9]; exact w9) V (Below.refl _ _)).mono fun e w' ⟨he, hb⟩ => ⟨he, hV.trans (hb.mono hV.size)⟩
  clear e9 w9 KF
  refine wp_region_held_drew (S := fun V => Below y3.heap.size y3 V) (by kernel_rfl) ?_ (fun hHeld => ?_)
  · exact hd
  refine wpAnyH_take (i := 0) (oi := { dst := some 190, op := Op.move (Operand.tmp 12), type := 35, pos := "outright.go:26", after := #[], guard := none }) (v := ?_) rfl (by kernel_rfl) (by kernel_rfl) (by kernel_rfl) (fun _ _ _ h => h) (Or.inl ⟨by rfl, ?_⟩) (by assumption) ?_
  rotate_left
  · intro w hSw
    try dsimp only at hSw
    go_simp <;> with_reducible rfl
  try simp only [Act.put, List.setIfInBounds_toArray, List.set_cons_zero, List.set_cons_succ]
  refine wpAnyH_take (i := 1) (oi := { dst := some 191, op := Op.move (Operand.tmp 6), type := 22, pos := "outright.go:26", after := #[], guard := none }) (v := ?_) rfl (by kernel_rfl) (by kernel_rfl) (by kernel_rfl) (fun _ _ _ h => h) (Or.inl ⟨by rfl, ?_⟩) (by assumption) ?_
  rotate_left
  · intro w hSw
    try dsimp only at hSw
    go_simp <;> with_reducible rfl
  try simp only [Act.put, List.setIfInBounds_toArray, List.set_cons_zero, List.set_cons_succ]
  refine wpAnyH_take (i := 2) (oi := { dst := some 192, op := Op.fieldAddr 30 (Operand.tmp 3) 1, type := 0, pos := "outright.go:26", after := #[], guard := none }) (v := ?_) rfl (by kernel_rfl) (by kernel_rfl) (by kernel_rfl) (fun _ _ _ h => h) (Or.inl ⟨by rfl, ?_⟩) (by assumption) ?_
  rotate_left
  · intro w hSw
    try dsimp only at hSw
    go_simp <;> with_reducible rfl
  try simp only [Act.put, List.setIfInBounds_toArray, List.set_cons_zero, List.set_cons_succ]
  refine wpAnyH_take (i := 3) (oi := { dst := some 193, op := Op.load 3 (Operand.tmp 192), type := 3, pos := "outright.go:26", after := #[{ on := 2, ground := Ground.data }], guard := none }) (v := ?_) rfl (by kernel_rfl) (by kernel_rfl) (by kernel_rfl) (fun _ _ _ h => h) (Or.inl ⟨by rfl, ?_⟩) (by assumption) ?_
  rotate_left
  · intro w hSw
    try dsimp only at hSw
    go_simp <;> with_reducible rfl
  try simp only [Act.put, List.setIfInBounds_toArray, List.set_cons_zero, List.set_cons_succ]
  refine wpAnyH_take (i := 4) (oi := { dst := some 194, op := Op.move (Operand.tmp 5), type := 3, pos := "outright.go:26", after := #[], guard := none }) (v := ?_) rfl (by kernel_rfl) (by kernel_rfl) (by kernel_rfl) (fun _ _ _ h => h) (Or.inl ⟨by rfl, ?_⟩) (by assumption) ?_
  rotate_left
  · intro w hSw
    try dsimp only at hSw
    go_simp <;> with_reducible rfl
  try simp only [Act.put, List.setIfInBounds_toArray, List.set_cons_zero, List.set_cons_succ]
  refine wpAnyH_take (i := 5) (oi := { dst := some 195, op := Op.binOp BinOp.add 3 (Operand.tmp 193) (Operand.tmp 194) 3, type := 3, pos := "outright.go:26", after := #[{ on := 3, ground := Ground.data }, { on := 4, ground := Ground.data }], guard := none }) (v := ?_) rfl (by kernel_rfl) (by kernel_rfl) (by kernel_rfl) (fun _ _ _ h => h) (Or.inl ⟨by rfl, ?_⟩) (by assumption) ?_
  rotate_left
  · intro w hSw
    try dsimp only at hSw
    go_simp <;> with_reducible rfl
  try simp only [Act.put, List.setIfInBounds_toArray, List.set_cons_zero, List.set_cons_succ]
  refine wpAnyH_take (i := 6) (oi := { dst := some 196, op := Op.move (Operand.tmp 13), type := 3, pos := "outright.go:26", after := #[], guard := none }) (v := ?_) rfl (by kernel_rfl) (by kernel_rfl) (by kernel_rfl) (fun _ _ _ h => h) (Or.inl ⟨by rfl, ?_⟩) (by assumption) ?_
  rotate_left
  · intro w hSw
    try dsimp only at hSw
    go_simp <;> with_reducible rfl
  try simp only [Act.put, List.setIfInBounds_toArray, List.set_cons_zero, List.set_cons_succ]
  refine wpAnyH_take (i := 7) (oi := { dst := some 197, op := Op.slice 22 (Operand.tmp 191) (some (Operand.tmp 195)) (some (Operand.tmp 196)) none, type := 22, pos := "outright.go:26", after := #[{ on := 1, ground := Ground.data }, { on := 5, ground := Ground.data }, { on := 6, ground := Ground.data }], guard := none }) (v := ?_) rfl (by kernel_rfl) (by kernel_rfl) (by kernel_rfl) (fun _ _ _ h => h) (Or.inl ⟨by rfl, ?_⟩) (by assumption) ?_
  rotate_left
  · intro w hSw
    try dsimp only at hSw
    go_simp <;> with_reducible rfl
  try simp only [Act.put, List.setIfInBounds_toArray, List.set_cons_zero, List.set_cons_succ]
  refine wpAnyH_take (i := 8) (oi := { dst := some 198, op := Op.move (Operand.tmp 0), type := 22, pos := "outright.go:26", after := #[], guard := none }) (v := ?_) rfl (by kernel_rfl) (by kernel_rfl) (by kernel_rfl) (fun _ _ _ h => h) (Or.inl ⟨by rfl, ?_⟩) (by assumption) ?_
  rotate_left
  · intro w hSw
    try dsimp only at hSw
    go_simp <;> with_reducible rfl
  try simp only [Act.put, List.setIfInBounds_toArray, List.set_cons_zero, List.set_cons_succ]
  refine wpAnyH_take (i := 9) (oi := { dst := some 199, op := Op.fieldAddr 30 (Operand.tmp 3) 1, type := 0, pos := "outright.go:26", after := #[], guard := none }) (v := ?_) rfl (by kernel_rfl) (by kernel_rfl) (by kernel_rfl) (fun _ _ _ h => h) (Or.inl ⟨by rfl, ?_⟩) (by assumption) ?_
  rotate_left
  · intro w hSw
    try dsimp only at hSw
    go_simp <;> with_reducible rfl
  try simp only [Act.put, List.setIfInBounds_toArray, List.set_cons_zero, List.set_cons_succ]
  refine wpAnyH_take (i := 10) (oi := { dst := some 200, op := Op.load 3 (Operand.tmp 199), type := 3, pos := "outright.go:26", after := #[{ on := 9, ground := Ground.data }], guard := none }) (v := ?_) rfl (by kernel_rfl) (by kernel_rfl) (by kernel_rfl) (fun _ _ _ h => h) (Or.inl ⟨by rfl, ?_⟩) (by assumption) ?_
  rotate_left
  · intro w hSw
    try dsimp only at hSw
    go_simp <;> with_reducible rfl
  try simp only [Act.put, List.setIfInBounds_toArray, List.set_cons_zero, List.set_cons_succ]
  refine wpAnyH_take (i := 11) (oi := { dst := some 201, op := Op.move (Operand.tmp 13), type := 3, pos := "outright.go:26", after := #[], guard := none }) (v := ?_) rfl (by kernel_rfl) (by kernel_rfl) (by kernel_rfl) (fun _ _ _ h => h) (Or.inl ⟨by rfl, ?_⟩) (by assumption) ?_
  rotate_left
  · intro w hSw
    try dsimp only at hSw
    go_simp <;> with_reducible rfl
  try simp only [Act.put, List.setIfInBounds_toArray, List.set_cons_zero, List.set_cons_succ]
  refine wpAnyH_take (i := 12) (oi := { dst := some 202, op := Op.move (Operand.tmp 5), type := 3, pos := "outright.go:26", after := #[], guard := none }) (v := ?_) rfl (by kernel_rfl) (by kernel_rfl) (by kernel_rfl) (fun _ _ _ h => h) (Or.inl ⟨by rfl, ?_⟩) (by assumption) ?_
  rotate_left
  · intro w hSw
    try dsimp only at hSw
    go_simp <;> with_reducible rfl
  try simp only [Act.put, List.setIfInBounds_toArray, List.set_cons_zero, List.set_cons_succ]
  refine wpAnyH_take (i := 13) (oi := { dst := some 203, op := Op.binOp BinOp.sub 3 (Operand.tmp 201) (Operand.tmp 202) 3, type := 3, pos := "outright.go:26", after := #[{ on := 11, ground := Ground.data }, { on := 12, ground := Ground.data }], guard := none }) (v := ?_) rfl (by kernel_rfl) (by kernel_rfl) (by kernel_rfl) (fun _ _ _ h => h) (Or.inl ⟨by rfl, ?_⟩) (by assumption) ?_
  rotate_left
  · intro w hSw
    try dsimp only at hSw
    go_simp <;> with_reducible rfl
  try simp only [Act.put, List.setIfInBounds_toArray, List.set_cons_zero, List.set_cons_succ]
  refine wpAnyH_take (i := 14) (oi := { dst := some 204, op := Op.slice 22 (Operand.tmp 198) (some (Operand.tmp 200)) (some (Operand.tmp 203)) none, type := 22, pos := "outright.go:26", after := #[{ on := 8, ground := Ground.data }, { on := 10, ground := Ground.data }, { on := 13, ground := Ground.data }], guard := none }) (v := ?_) rfl (by kernel_rfl) (by kernel_rfl) (by kernel_rfl) (fun _ _ _ h => h) (Or.inl ⟨by rfl, ?_⟩) (by assumption) ?_
  rotate_left
  · intro w hSw
    try dsimp only at hSw
    go_simp <;> with_reducible rfl
  try simp only [Act.put, List.setIfInBounds_toArray, List.set_cons_zero, List.set_cons_succ]
  refine wpAnyH_ready (rs := [15]) (by kernel_rfl) (by simp) ?_
  refine AllReadyH.cons (o := { dst := some 205, op := Op.call { callee := Callee.value (Operand.tmp 190), args := #[Operand.tmp 197, Operand.tmp 204], argTypes := #[22, 22] }, type := 4, pos := "outright.go:26", after := #[{ on := 0, ground := Ground.data }, { on := 7, ground := Ground.data }, { on := 14, ground := Ground.data }], guard := none }) rfl (fun K hK => ?_) AllReadyH.nil
  go_simp
  refine (S5.out _ (by assumption)).mono ?_
  rintro e v5 ⟨rfl, qv5⟩
  try (go_wp2_with fail)
  refine hK.out _ _ ?_ (fun hHeld => ?_)
  · exact qv5
  clear hK K
  try simp only [Act.put, List.setIfInBounds_toArray, List.set_cons_zero, List.set_cons_succ]
  refine wpAnyH_take (i := 16) (oi := { dst := some 206, op := Op.move (Operand.tmp 205), type := 4, pos := "outright.go:26", after := #[{ on := 15, ground := Ground.data }, { on := 15, ground := Ground.chain }], guard := none }) (v := ?_) rfl (by kernel_rfl) (by kernel_rfl) (by kernel_rfl) (fun _ _ _ h => h) (Or.inl ⟨by rfl, ?_⟩) (by assumption) ?_
  rotate_left
  · intro w hSw
    try dsimp only at hSw
    go_simp <;> with_reducible rfl
  try simp only [Act.put, List.setIfInBounds_toArray, List.set_cons_zero, List.set_cons_succ]
  refine wpAnyH_take (i := 17) (oi := { dst := some 207, op := Op.move (Operand.tmp 12), type := 35, pos := "outright.go:26", after := #[{ on := 16, ground := Ground.guard }], guard := some (16, true) }) (v := ?_) rfl (by kernel_rfl) (by kernel_rfl) (by kernel_rfl) (fun _ _ _ h => h) (Or.inl ⟨by rfl, ?_⟩) (by assumption) ?_
  rotate_left
  · intro w hSw
    try dsimp only at hSw
    go_simp <;> with_reducible rfl
  try simp only [Act.put, List.setIfInBounds_toArray, List.set_cons_zero, List.set_cons_succ]
  refine wpAnyH_take (i := 18) (oi := { dst := some 208, op := Op.move (Operand.tmp 10), type := 22, pos := "outright.go:26", after := #[{ on := 16, ground := Ground.guard }], guard := some (16, true) }) (v := ?_) rfl (by kernel_rfl) (by kernel_rfl) (by kernel_rfl) (fun _ _ _ h => h) (Or.inl ⟨by rfl, ?_⟩) (by assumption) ?_
  rotate_left
  · intro w hSw
    try dsimp only at hSw
    go_simp <;> with_reducible rfl
  try simp only [Act.put, List.setIfInBounds_toArray, List.set_cons_zero, List.set_cons_succ]
  refine wpAnyH_take (i := 19) (oi := { dst := some 209, op := Op.fieldAddr 30 (Operand.tmp 3) 1, type := 0, pos := "outright.go:26", after := #[{ on := 16, ground := Ground.guard }], guard := some (16, true) }) (v := ?_) rfl (by kernel_rfl) (by kernel_rfl) (by kernel_rfl) (fun _ _ _ h => h) (Or.inl ⟨by rfl, ?_⟩) (by assumption) ?_
  rotate_left
  · intro w hSw
    try dsimp only at hSw
    go_simp <;> with_reducible rfl
  try simp only [Act.put, List.setIfInBounds_toArray, List.set_cons_zero, List.set_cons_succ]
  refine wpAnyH_take (i := 20) (oi := { dst := some 210, op := Op.load 3 (Operand.tmp 209), type := 3, pos := "outright.go:26", after := #[{ on := 19, ground := Ground.data }, { on := 16, ground := Ground.guard }], guard := some (16, true) }) (v := ?_) rfl (by kernel_rfl) (by kernel_rfl) (by kernel_rfl) (fun _ _ _ h => h) (Or.inl ⟨by rfl, ?_⟩) (by assumption) ?_
  rotate_left
  · intro w hSw
    try dsimp only at hSw
    go_simp <;> with_reducible rfl
  try simp only [Act.put, List.setIfInBounds_toArray, List.set_cons_zero, List.set_cons_succ]
  refine wpAnyH_take (i := 21) (oi := { dst := some 211, op := Op.move (Operand.tmp 13), type := 3, pos := "outright.go:26", after := #[{ on := 16, ground := Ground.guard }], guard := some (16, true) }) (v := ?_) rfl (by kernel_rfl) (by kernel_rfl) (by kernel_rfl) (fun _ _ _ h => h) (Or.inl ⟨by rfl, ?_⟩) (by assumption) ?_
  rotate_left
  · intro w hSw
    try dsimp only at hSw
    go_simp <;> with_reducible rfl
  try simp only [Act.put, List.setIfInBounds_toArray, List.set_cons_zero, List.set_cons_succ]
  refine wpAnyH_take (i := 22) (oi := { dst := some 212, op := Op.move (Operand.tmp 5), type := 3, pos := "outright.go:26", after := #[{ on := 16, ground := Ground.guard }], guard := some (16, true) }) (v := ?_) rfl (by kernel_rfl) (by kernel_rfl) (by kernel_rfl) (fun _ _ _ h => h) (Or.inl ⟨by rfl, ?_⟩) (by assumption) ?_
  rotate_left
  · intro w hSw
    try dsimp only at hSw
    go_simp <;> with_reducible rfl
  try simp only [Act.put, List.setIfInBounds_toArray, List.set_cons_zero, List.set_cons_succ]
  refine wpAnyH_take (i := 23) (oi := { dst := some 213, op := Op.binOp BinOp.sub 3 (Operand.tmp 211) (Operand.tmp 212) 3, type := 3, pos := "outright.go:26", after := #[{ on := 21, ground := Ground.data }, { on := 22, ground := Ground.data }, { on := 16, ground := Ground.guard }], guard := some (16, true) }) (v := ?_) rfl (by kernel_rfl) (by kernel_rfl) (by kernel_rfl) (fun _ _ _ h => h) (Or.inl ⟨by rfl, ?_⟩) (by assumption) ?_
  rotate_left
  · intro w hSw
    try dsimp only at hSw
    go_simp <;> with_reducible rfl
  try simp only [Act.put, List.setIfInBounds_toArray, List.set_cons_zero, List.set_cons_succ]
  refine wpAnyH_take (i := 24) (oi := { dst := some 214, op := Op.slice 22 (Operand.tmp 208) (some (Operand.tmp 210)) (some (Operand.tmp 213)) none, type := 22, pos := "outright.go:26", after := #[{ on := 18, ground := Ground.data }, { on := 20, ground := Ground.data }, { on := 23, ground := Ground.data }, { on := 16, ground := Ground.guard }], guard := some (16, true) }) (v := ?_) rfl (by kernel_rfl) (by kernel_rfl) (by kernel_rfl) (fun _ _ _ h => h) (Or.inl ⟨by rfl, ?_⟩) (by assumption) ?_
  rotate_left
  · intro w hSw
    try dsimp only at hSw
    go_simp <;> with_reducible rfl
  try simp only [Act.put, List.setIfInBounds_toArray, List.set_cons_zero, List.set_cons_succ]
  refine wpAnyH_take (i := 25) (oi := { dst := some 215, op := Op.move (Operand.tmp 0), type := 22, pos := "outright.go:26", after := #[{ on := 16, ground := Ground.guard }], guard := some (16, true) }) (v := ?_) rfl (by kernel_rfl) (by kernel_rfl) (by kernel_rfl) (fun _ _ _ h => h) (Or.inl ⟨by rfl, ?_⟩) (by assumption) ?_
  rotate_left
  · intro w hSw
    try dsimp only at hSw
    go_simp <;> with_reducible rfl
  try simp only [Act.put, List.setIfInBounds_toArray, List.set_cons_zero, List.set_cons_succ]
  refine wpAnyH_take (i := 26) (oi := { dst := some 216, op := Op.fieldAddr 30 (Operand.tmp 3) 1, type := 0, pos := "outright.go:26", after := #[{ on := 16, ground := Ground.guard }], guard := some (16, true) }) (v := ?_) rfl (by kernel_rfl) (by kernel_rfl) (by kernel_rfl) (fun _ _ _ h => h) (Or.inl ⟨by rfl, ?_⟩) (by assumption) ?_
  rotate_left
  · intro w hSw
    try dsimp only at hSw
    go_simp <;> with_reducible rfl
  try simp only [Act.put, List.setIfInBounds_toArray, List.set_cons_zero, List.set_cons_succ]
  refine wpAnyH_take (i := 27) (oi := { dst := some 217, op := Op.load 3 (Operand.tmp 216), type := 3, pos := "outright.go:26", after := #[{ on := 26, ground := Ground.data }, { on := 16, ground := Ground.guard }], guard := some (16, true) }) (v := ?_) rfl (by kernel_rfl) (by kernel_rfl) (by kernel_rfl) (fun _ _ _ h => h) (Or.inl ⟨by rfl, ?_⟩) (by assumption) ?_
  rotate_left
  · intro w hSw
    try dsimp only at hSw
    go_simp <;> with_reducible rfl
  try simp only [Act.put, List.setIfInBounds_toArray, List.set_cons_zero, List.set_cons_succ]
  refine wpAnyH_take (i := 28) (oi := { dst := some 218, op := Op.move (Operand.tmp 5), type := 3, pos := "outright.go:26", after := #[{ on := 16, ground := Ground.guard }], guard := some (16, true) }) (v := ?_) rfl (by kernel_rfl) (by kernel_rfl) (by kernel_rfl) (fun _ _ _ h => h) (Or.inl ⟨by rfl, ?_⟩) (by assumption) ?_
  rotate_left
  · intro w hSw
    try dsimp only at hSw
    go_simp <;> with_reducible rfl
  try simp only [Act.put, List.setIfInBounds_toArray, List.set_cons_zero, List.set_cons_succ]
  refine wpAnyH_take (i := 29) (oi := { dst := some 219, op := Op.binOp BinOp.add 3 (Operand.tmp 217) (Operand.tmp 218) 3, type := 3, pos := "outright.go:26", after := #[{ on := 27, ground := Ground.data }, { on := 28, ground := Ground.data }, { on := 16, ground := Ground.guard }], guard := some (16, true) }) (v := ?_) rfl (by kernel_rfl) (by kernel_rfl) (by kernel_rfl) (fun _ _ _ h => h) (Or.inl ⟨by rfl, ?_⟩) (by assumption) ?_
  rotate_left
  · intro w hSw
    try dsimp only at hSw
    go_simp <;> with_reducible rfl
  try simp only [Act.put, List.setIfInBounds_toArray, List.set_cons_zero, List.set_cons_succ]
  refine wpAnyH_take (i := 30) (oi := { dst := some 220, op := Op.move (Operand.tmp 13), type := 3, pos := "outright.go:26", after := #[{ on := 16, ground := Ground.guard }], guard := some (16, true) }) (v := ?_) rfl (by kernel_rfl) (by kernel_rfl) (by kernel_rfl) (fun _ _ _ h => h) (Or.inl ⟨by rfl, ?_⟩) (by assumption) ?_
  rotate_left
  · intro w hSw
    try dsimp only at hSw
    go_simp <;> with_reducible rfl
  try simp only [Act.put, List.setIfInBounds_toArray, List.set_cons_zero, List.set_cons_succ]
  refine wpAnyH_take (i := 31) (oi := { dst := some 221, op := Op.slice 22 (Operand.tmp 215) (some (Operand.tmp 219)) (some (Operand.tmp 220)) none, type := 22, pos := "outright.go:26", after := #[{ on := 25, ground := Ground.data }, { on := 29, ground := Ground.data }, { on := 30, ground := Ground.data }, { on := 16, ground := Ground.guard }], guard := some (16, true) }) (v := ?_) rfl (by kernel_rfl) (by kernel_rfl) (by kernel_rfl) (fun _ _ _ h => h) (Or.inl ⟨by rfl, ?_⟩) (by assumption) ?_
  rotate_left
  · intro w hSw
    try dsimp only at hSw
    go_simp <;> with_reducible rfl
  try simp only [Act.put, List.setIfInBounds_toArray, List.set_cons_zero, List.set_cons_succ]
  refine wpAnyH_ready (rs := [32]) (by kernel_rfl) (by simp) ?_
  refine AllReadyH.cons (o := { dst := some 222, op := Op.call { callee := Callee.value (Operand.tmp 207), args := #[Operand.tmp 214, Operand.tmp 221], argTypes := #[22, 22] }, type := 4, pos := "outright.go:26", after := #[{ on := 17, ground := Ground.data }, { on := 24, ground := Ground.data }, { on := 31, ground := Ground.data }, { on := 16, ground := Ground.chain }, { on := 16, ground := Ground.guard }], guard := some (16, true) }) rfl (fun K hK => ?_) AllReadyH.nil
  go_simp
  refine (S6.out _ (by assumption)).mono ?_
  rintro e v6 ⟨rfl, qv6⟩
  try (go_wp2_with fail)
  refine hK.out _ _ ?_ (fun hHeld => ?_)
  · exact qv6
  clear hK K
  try simp only [Act.put, List.setIfInBounds_toArray, List.set_cons_zero, List.set_cons_succ]
  refine wpAnyH_take (i := 33) (oi := { dst := some 223, op := Op.pick (Operand.tmp 206) (Operand.tmp 222) (Operand.const (Value.bool false)), type := 4, pos := "outright.go:26", after := #[{ on := 16, ground := Ground.data }, { on := 32, ground := Ground.data }], guard := none }) (v := ?_) rfl (by kernel_rfl) (by kernel_rfl) (by kernel_rfl) (fun _ _ _ h => h) (Or.inl ⟨by rfl, ?_⟩) (by assumption) ?_
  rotate_left
  · intro w hSw
    try dsimp only at hSw
    go_simp <;> with_reducible rfl
  try simp only [Act.put, List.setIfInBounds_toArray, List.set_cons_zero, List.set_cons_succ]
  refine wpAnyH_take (i := 34) (oi := { dst := some 224, op := Op.move (Operand.tmp 223), type := 4, pos := "outright.go:26", after := #[{ on := 33, ground := Ground.data }, { on := 32, ground := Ground.chain }], guard := none }) (v := ?_) rfl (by kernel_rfl) (by kernel_rfl) (by kernel_rfl) (fun _ _ _ h => h) (Or.inl ⟨by rfl, ?_⟩) (by assumption) ?_
  rotate_left
  · intro w hSw
    try dsimp only at hSw
    go_simp <;> with_reducible rfl
  try simp only [Act.put, List.setIfInBounds_toArray, List.set_cons_zero, List.set_cons_succ]
  refine wpAnyH_take (i := 35) (oi := { dst := some 225, op := Op.move (Operand.tmp 12), type := 35, pos := "outright.go:26", after := #[{ on := 34, ground := Ground.guard }], guard := some (34, true) }) (v := ?_) rfl (by kernel_rfl) (by kernel_rfl) (by kernel_rfl) (fun _ _ _ h => h) (Or.inl ⟨by rfl, ?_⟩) (by assumption) ?_
  rotate_left
  · intro w hSw
    try dsimp only at hSw
    go_simp <;> with_reducible rfl
  try simp only [Act.put, List.setIfInBounds_toArray, List.set_cons_zero, List.set_cons_succ]
  refine wpAnyH_take (i := 36) (oi := { dst := some 226, op := Op.move (Operand.tmp 10), type := 22, pos := "outright.go:26", after := #[{ on := 34, ground := Ground.guard }], guard := some (34, true) }) (v := ?_) rfl (by kernel_rfl) (by kernel_rfl) (by kernel_rfl) (fun _ _ _ h => h) (Or.inl ⟨by rfl, ?_⟩) (by assumption) ?_
  rotate_left
  · intro w hSw
    try dsimp only at hSw
    go_simp <;> with_reducible rfl
  try simp only [Act.put, List.setIfInBounds_toArray, List.set_cons_zero, List.set_cons_succ]
  refine wpAnyH_take (i := 37) (oi := { dst := some 227, op := Op.fieldAddr 30 (Operand.tmp 3) 1, type := 0, pos := "outright.go:26", after := #[{ on := 34, ground := Ground.guard }], guard := some (34, true) }) (v := ?_) rfl (by kernel_rfl) (by kernel_rfl) (by kernel_rfl) (fun _ _ _ h => h) (Or.inl ⟨by rfl, ?_⟩) (by assumption) ?_
  rotate_left
  · intro w hSw
    try dsimp only at hSw
    go_simp <;> with_reducible rfl
  try simp only [Act.put, List.setIfInBounds_toArray, List.set_cons_zero, List.set_cons_succ]
  refine wpAnyH_take (i := 38) (oi := { dst := some 228, op := Op.load 3 (Operand.tmp 227), type := 3, pos := "outright.go:26", after := #[{ on := 37, ground := Ground.data }, { on := 34, ground := Ground.guard }], guard := some (34, true) }) (v := ?_) rfl (by kernel_rfl) (by kernel_rfl) (by kernel_rfl) (fun _ _ _ h => h) (Or.inl ⟨by rfl, ?_⟩) (by assumption) ?_
  rotate_left
  · intro w hSw
    try dsimp only at hSw
    go_simp <;> with_reducible rfl
  try simp only [Act.put, List.setIfInBounds_toArray, List.set_cons_zero, List.set_cons_succ]
  refine wpAnyH_take (i := 39) (oi := { dst := some 229, op := Op.slice 22 (Operand.tmp 226) none (some (Operand.tmp 228)) none, type := 22, pos := "outright.go:26", after := #[{ on := 36, ground := Ground.data }, { on := 38, ground := Ground.data }, { on := 34, ground := Ground.guard }], guard := some (34, true) }) (v := ?_) rfl (by kernel_rfl) (by kernel_rfl) (by kernel_rfl) (fun _ _ _ h => h) (Or.inl ⟨by rfl, ?_⟩) (by assumption) ?_
  rotate_left
  · intro w hSw
    try dsimp only at hSw
    go_simp <;> with_reducible rfl
  try simp only [Act.put, List.setIfInBounds_toArray, List.set_cons_zero, List.set_cons_succ]
  refine wpAnyH_take (i := 40) (oi := { dst := some 230, op := Op.move (Operand.tmp 0), type := 22, pos := "outright.go:26", after := #[{ on := 34, ground := Ground.guard }], guard := some (34, true) }) (v := ?_) rfl (by kernel_rfl) (by kernel_rfl) (by kernel_rfl) (fun _ _ _ h => h) (Or.inl ⟨by rfl, ?_⟩) (by assumption) ?_
  rotate_left
  · intro w hSw
    try dsimp only at hSw
    go_simp <;> with_reducible rfl
  try simp only [Act.put, List.setIfInBounds_toArray, List.set_cons_zero, List.set_cons_succ]
  refine wpAnyH_take (i := 41) (oi := { dst := some 231, op := Op.fieldAddr 30 (Operand.tmp 3) 1, type := 0, pos := "outright.go:26", after := #[{ on := 34, ground := Ground.guard }], guard := some (34, true) }) (v := ?_) rfl (by kernel_rfl) (by kernel_rfl) (by kernel_rfl) (fun _ _ _ h => h) (Or.inl ⟨by rfl, ?_⟩) (by assumption) ?_
  rotate_left
  · intro w hSw
    try dsimp only at hSw
    go_simp <;> with_reducible rfl
  try simp only [Act.put, List.setIfInBounds_toArray, List.set_cons_zero, List.set_cons_succ]
  refine wpAnyH_take (i := 42) (oi := { dst := some 232, op := Op.load 3 (Operand.tmp 231), type := 3, pos := "outright.go:26", after := #[{ on := 41, ground := Ground.data }, { on := 34, ground := Ground.guard }], guard := some (34, true) }) (v := ?_) rfl (by kernel_rfl) (by kernel_rfl) (by kernel_rfl) (fun _ _ _ h => h) (Or.inl ⟨by rfl, ?_⟩) (by assumption) ?_
  rotate_left
  · intro w hSw
    try dsimp only at hSw
    go_simp <;> with_reducible rfl
  try simp only [Act.put, List.setIfInBounds_toArray, List.set_cons_zero, List.set_cons_succ]
  refine wpAnyH_take (i := 43) (oi := { dst := some 233, op := Op.slice 22 (Operand.tmp 230) none (some (Operand.tmp 232)) none, type := 22, pos := "outright.go:26", after := #[{ on := 40, ground := Ground.data }, { on := 42, ground := Ground.data }, { on := 34, ground := Ground.guard }], guard := some (34, true) }) (v := ?_) rfl (by kernel_rfl) (by kernel_rfl) (by kernel_rfl) (fun _ _ _ h => h) (Or.inl ⟨by rfl, ?_⟩) (by assumption) ?_
  rotate_left
  · intro w hSw
    try dsimp only at hSw
    go_simp <;> with_reducible rfl
  try simp only [Act.put, List.setIfInBounds_toArray, List.set_cons_zero, List.set_cons_succ]
  refine wpAnyH_ready (rs := [44]) (by kernel_rfl) (by simp) ?_
  refine AllReadyH.cons (o := { dst := some 234, op := Op.call { callee := Callee.value (Operand.tmp 225), args := #[Operand.tmp 229, Operand.tmp 233], argTypes := #[22, 22] }, type := 4, pos := "outright.go:26", after := #[{ on := 35, ground := Ground.data }, { on := 39, ground := Ground.data }, { on := 43, ground := Ground.data }, { on := 34, ground := Ground.chain }, { on := 34, ground := Ground.guard }], guard := some (34, true) }) rfl (fun K hK => ?_) AllReadyH.nil
  go_simp
  refine (S7.out _ (by assumption)).mono ?_
  rintro e v7 ⟨rfl, qv7⟩
  try (go_wp2_with fail)
  refine hK.out _ _ ?_ (fun hHeld => ?_)
  · exact qv7
  clear hK K
  try simp only [Act.put, List.setIfInBounds_toArray, List.set_cons_zero, List.set_cons_succ]
  refine wpAnyH_take (i := 45) (oi := { dst := some 235, op := Op.pick (Operand.tmp 224) (Operand.tmp 234) (Operand.const (Value.bool false)), type := 4, pos := "outright.go:26", after := #[{ on := 34, ground := Ground.data }, { on := 44, ground := Ground.data }], guard := none }) (v := ?_) rfl (by kernel_rfl) (by kernel_rfl) (by kernel_rfl) (fun _ _ _ h => h) (Or.inl ⟨by rfl, ?_⟩) (by assumption) ?_
  rotate_left
  · intro w hSw
    try dsimp only at hSw
    go_simp <;> with_reducible rfl
  try simp only [Act.put, List.setIfInBounds_toArray, List.set_cons_zero, List.set_cons_succ]
  refine wpAnyH_take (i := 46) (oi := { dst := some 236, op := Op.move (Operand.tmp 235), type := 4, pos := "outright.go:26", after := #[{ on := 45, ground := Ground.data }, { on := 44, ground := Ground.chain }], guard := none }) (v := ?_) rfl (by kernel_rfl) (by kernel_rfl) (by kernel_rfl) (fun _ _ _ h => h) (Or.inl ⟨by rfl, ?_⟩) (by assumption) ?_
  rotate_left
  · intro w hSw
    try dsimp only at hSw
    go_simp <;> with_reducible rfl
  try simp only [Act.put, List.setIfInBounds_toArray, List.set_cons_zero, List.set_cons_succ]
  refine wpAnyH_take (i := 47) (oi := { dst := some 237, op := Op.move (Operand.tmp 12), type := 35, pos := "outright.go:26", after := #[{ on := 46, ground := Ground.guard }], guard := some (46, true) }) (v := ?_) rfl (by kernel_rfl) (by kernel_rfl) (by kernel_rfl) (fun _ _ _ h => h) (Or.inl ⟨by rfl, ?_⟩) (by assumption) ?_
  rotate_left
  · intro w hSw
    try dsimp only at hSw
    go_simp <;> with_reducible rfl
  try simp only [Act.put, List.setIfInBounds_toArray, List.set_cons_zero, List.set_cons_succ]
  refine wpAnyH_take (i := 48) (oi := { dst := some 238, op := Op.move (Operand.tmp 6), type := 22, pos := "outright.go:26", after := #[{ on := 46, ground := Ground.guard }], guard := some (46, true) }) (v := ?_) rfl (by kernel_rfl) (by kernel_rfl) (by kernel_rfl) (fun _ _ _ h => h) (Or.inl ⟨by rfl, ?_⟩) (by assumption) ?_
  rotate_left
  · intro w hSw
    try dsimp only at hSw
    go_simp <;> with_reducible rfl
  try simp only [Act.put, List.setIfInBounds_toArray, List.set_cons_zero, List.set_cons_succ]
  refine wpAnyH_take (i := 49) (oi := { dst := some 239, op := Op.move (Operand.tmp 13), type := 3, pos := "outright.go:26", after := #[{ on := 46, ground := Ground.guard }], guard := some (46, true) }) (v := ?_) rfl (by kernel_rfl) (by kernel_rfl) (by kernel_rfl) (fun _ _ _ h => h) (Or.inl ⟨by rfl, ?_⟩) (by assumption) ?_
  rotate_left
  · intro w hSw
    try dsimp only at hSw
    go_simp <;> with_reducible rfl
  try simp only [Act.put, List.setIfInBounds_toArray, List.set_cons_zero, List.set_cons_succ]
  refine wpAnyH_take (i := 50) (oi := { dst := some 240, op := Op.slice 22 (Operand.tmp 238) (some (Operand.tmp 239)) none none, type := 22, pos := "outright.go:26", after := #[{ on := 48, ground := Ground.data }, { on := 49, ground := Ground.data }, { on := 46, ground := Ground.guard }], guard := some (46, true) }) (v := ?_) rfl (by kernel_rfl) (by kernel_rfl) (by kernel_rfl) (fun _ _ _ h => h) (Or.inl ⟨by rfl, ?_⟩) (by assumption) ?_
  rotate_left
  · intro w hSw
    try dsimp only at hSw
    go_simp <;> with_reducible rfl
  try simp only [Act.put, List.setIfInBounds_toArray, List.set_cons_zero, List.set_cons_succ]
  refine wpAnyH_take (i := 51) (oi := { dst := some 241, op := Op.move (Operand.tmp 0), type := 22, pos := "outright.go:26", after := #[{ on := 46, ground := Ground.guard }], guard := some (46, true) }) (v := ?_) rfl (by kernel_rfl) (by kernel_rfl) (by kernel_rfl) (fun _ _ _ h => h) (Or.inl ⟨by rfl, ?_⟩) (by assumption) ?_
  rotate_left
  · intro w hSw
    try dsimp only at hSw
    go_simp <;> with_reducible rfl
  try simp only [Act.put, List.setIfInBounds_toArray, List.set_cons_zero, List.set_cons_succ]
  refine wpAnyH_take (i := 52) (oi := { dst := some 242, op := Op.move (Operand.tmp 13), type := 3, pos := "outright.go:26", after := #[{ on := 46, ground := Ground.guard }], guard := some (46, true) }) (v := ?_) rfl (by kernel_rfl) (by kernel_rfl) (by kernel_rfl) (fun _ _ _ h => h) (Or.inl ⟨by rfl, ?_⟩) (by assumption) ?_
  rotate_left
  · intro w hSw
    try dsimp only at hSw
    go_simp <;> with_reducible rfl
  try simp only [Act.put, List.setIfInBounds_toArray, List.set_cons_zero, List.set_cons_succ]
  refine wpAnyH_take (i := 53) (oi := { dst := some 243, op := Op.slice 22 (Operand.tmp 241) (some (Operand.tmp 242)) none none, type := 22, pos := "outright.go:26", after := #[{ on := 51, ground := Ground.data }, { on := 52, ground := Ground.data }, { on := 46, ground := Ground.guard }], guard := some (46, true) }) (v := ?_) rfl (by kernel_rfl) (by kernel_rfl) (by kernel_rfl) (fun _ _ _ h => h) (Or.inl ⟨by rfl, ?_⟩) (by assumption) ?_
  rotate_left
  · intro w hSw
    try dsimp only at hSw
    go_simp <;> with_reducible rfl
  try simp only [Act.put, List.setIfInBounds_toArray, List.set_cons_zero, List.set_cons_succ]
  refine wpAnyH_ready (rs := [54]) (by kernel_rfl) (by simp) ?_
  refine AllReadyH.cons (o := { dst := some 244, op := Op.call { callee := Callee.value (Operand.tmp 237), args := #[Operand.tmp 240, Operand.tmp 243], argTypes := #[22, 22] }, type := 4, pos := "outright.go:26", after := #[{ on := 47, ground := Ground.data }, { on := 50, ground := Ground.data }, { on := 53, ground := Ground.data }, { on := 46, ground := Ground.chain }, { on := 46, ground := Ground.guard }], guard := some (46, true) }) rfl (fun K hK => ?_) AllReadyH.nil
  go_simp
  refine (S8.out _ (by assumption)).mono ?_
  rintro e v8 ⟨rfl, qv8⟩
  try (go_wp2_with fail)
  refine hK.out _ _ ?_ (fun hHeld => ?_)
  · exact qv8
  clear hK K
  try simp only [Act.put, List.setIfInBounds_toArray, List.set_cons_zero, List.set_cons_succ]
  refine wpAnyH_take (i := 55) (oi := { dst := some 245, op := Op.pick (Operand.tmp 236) (Operand.tmp 244) (Operand.const (Value.bool false)), type := 4, pos := "outright.go:26", after := #[{ on := 46, ground := Ground.data }, { on := 54, ground := Ground.data }], guard := none }) (v := ?_) rfl (by kernel_rfl) (by kernel_rfl) (by kernel_rfl) (fun _ _ _ h => h) (Or.inl ⟨by rfl, ?_⟩) (by assumption) ?_
  rotate_left
  · intro w hSw
    try dsimp only at hSw
    go_simp <;> with_reducible rfl
  try simp only [Act.put, List.setIfInBounds_toArray, List.set_cons_zero, List.set_cons_succ]
  refine wpAnyH_take (i := 56) (oi := { dst := some 246, op := Op.move (Operand.tmp 245), type := 4, pos := "outright.go:26", after := #[{ on := 55, ground := Ground.data }, { on := 54, ground := Ground.chain }], guard := none }) (v := ?_) rfl (by kernel_rfl) (by kernel_rfl) (by kernel_rfl) (fun _ _ _ h => h) (Or.inl ⟨by rfl, ?_⟩) (by assumption) ?_
  rotate_left
  · intro w hSw
    try dsimp only at hSw
    go_simp <;> with_reducible rfl
  try simp only [Act.put, List.setIfInBounds_toArray, List.set_cons_zero, List.set_cons_succ]
  refine wpAnyH_take (i := 57) (oi := { dst := some 247, op := Op.move (Operand.tmp 12), type := 35, pos := "outright.go:26", after := #[{ on := 56, ground := Ground.guard }], guard := some (56, true) }) (v := ?_) rfl (by kernel_rfl) (by kernel_rfl) (by kernel_rfl) (fun _ _ _ h => h) (Or.inl ⟨by rfl, ?_⟩) (by assumption) ?_
  rotate_left
  · intro w hSw
    try dsimp only at hSw
    go_simp <;> with_reducible rfl
  try simp only [Act.put, List.setIfInBounds_toArray, List.set_cons_zero, List.set_cons_succ]
  refine wpAnyH_take (i := 58) (oi := { dst := some 248, op := Op.move (Operand.tmp 9), type := 22, pos := "outright.go:26", after := #[{ on := 56, ground := Ground.guard }], guard := some (56, true) }) (v := ?_) rfl (by kernel_rfl) (by kernel_rfl) (by kernel_rfl) (fun _ _ _ h => h) (Or.inl ⟨by rfl, ?_⟩) (by assumption) ?_
  rotate_left
  · intro w hSw
    try dsimp only at hSw
    go_simp <;> with_reducible rfl
  try simp only [Act.put, List.setIfInBounds_toArray, List.set_cons_zero, List.set_cons_succ]
  refine wpAnyH_take (i := 59) (oi := { dst := some 249, op := Op.move (Operand.tmp 5), type := 3, pos := "outright.go:26", after := #[{ on := 56, ground := Ground.guard }], guard := some (56, true) }) (v := ?_) rfl (by kernel_rfl) (by kernel_rfl) (by kernel_rfl) (fun _ _ _ h => h) (Or.inl ⟨by rfl, ?_⟩) (by assumption) ?_
  rotate_left
  · intro w hSw
    try dsimp only at hSw
    go_simp <;> with_reducible rfl
  try simp only [Act.put, List.setIfInBounds_toArray, List.set_cons_zero, List.set_cons_succ]
  refine wpAnyH_take (i := 60) (oi := { dst := some 250, op := Op.fieldAddr 30 (Operand.tmp 3) 4, type := 0, pos := "outright.go:26", after := #[{ on := 56, ground := Ground.guard }], guard := some (56, true) }) (v := ?_) rfl (by kernel_rfl) (by kernel_rfl) (by kernel_rfl) (fun _ _ _ h => h) (Or.inl ⟨by rfl, ?_⟩) (by assumption) ?_
  rotate_left
  · intro w hSw
    try dsimp only at hSw
    go_simp <;> with_reducible rfl
  try simp only [Act.put, List.setIfInBounds_toArray, List.set_cons_zero, List.set_cons_succ]
  refine wpAnyH_take (i := 61) (oi := { dst := some 251, op := Op.load 3 (Operand.tmp 250), type := 3, pos := "outright.go:26", after := #[{ on := 60, ground := Ground.data }, { on := 56, ground := Ground.guard }], guard := some (56, true) }) (v := ?_) rfl (by kernel_rfl) (by kernel_rfl) (by kernel_rfl) (fun _ _ _ h => h) (Or.inl ⟨by rfl, ?_⟩) (by assumption) ?_
  rotate_left
  · intro w hSw
    try dsimp only at hSw
    go_simp <;> with_reducible rfl
  try simp only [Act.put, List.setIfInBounds_toArray, List.set_cons_zero, List.set_cons_succ]
  refine wpAnyH_take (i := 62) (oi := { dst := some 252, op := Op.fieldAddr 30 (Operand.tmp 3) 5, type := 0, pos := "outright.go:26", after := #[{ on := 56, ground := Ground.guard }], guard := some (56, true) }) (v := ?_) rfl (by kernel_rfl) (by kernel_rfl) (by kernel_rfl) (fun _ _ _ h => h) (Or.inl ⟨by rfl, ?_⟩) (by assumption) ?_
  rotate_left
  · intro w hSw
    try dsimp only at hSw
    go_simp <;> with_reducible rfl
  try simp only [Act.put, List.setIfInBounds_toArray, List.set_cons_zero, List.set_cons_succ]
  refine wpAnyH_take (i := 63) (oi := { dst := some 253, op := Op.load 28 (Operand.tmp 252), type := 28, pos := "outright.go:26", after := #[{ on := 62, ground := Ground.data }, { on := 56, ground := Ground.guard }], guard := some (56, true) }) (v := ?_) rfl (by kernel_rfl) (by kernel_rfl) (by kernel_rfl) (fun _ _ _ h => h) (Or.inl ⟨by rfl, ?_⟩) (by assumption) ?_
  rotate_left
  · intro w hSw
    try dsimp only at hSw
    go_simp <;> with_reducible rfl
  try simp only [Act.put, List.setIfInBounds_toArray, List.set_cons_zero, List.set_cons_succ]
  refine wpAnyH_ready (rs := [64]) (by kernel_rfl) (by simp) ?_
  refine AllReadyH.cons (o := { dst := some 254, op := Op.call { callee := Callee.value (Operand.func 11), args := #[Operand.tmp 249, Operand.tmp 251, Operand.tmp 253], argTypes := #[3, 3, 28] }, type := 22, pos := "outright.go:26", after := #[{ on := 59, ground := Ground.data }, { on := 61, ground := Ground.data }, { on := 63, ground := Ground.data }, { on := 56, ground := Ground.chain }, { on := 56, ground := Ground.guard }], guard := some (56, true) }) rfl (fun K hK => ?_) AllReadyH.nil
  go_simp
  refine (KF'.out _ (by assumption)).mono ?_
  rintro e vF ⟨AF, cFr, rfl, hFr, qvF⟩
  try (go_wp2_with fail)
  refine hK.out _ _ ?_ (fun hHeld => ?_)
  · exact qvF
  clear hK K
  try simp only [Act.put, List.setIfInBounds_toArray, List.set_cons_zero, List.set_cons_succ]
  refine wpAnyH_ready (rs := [65]) (by kernel_rfl) (by simp) ?_
  refine AllReadyH.cons (o := { dst := some 255, op := Op.call { callee := Callee.value (Operand.tmp 247), args := #[Operand.tmp 248, Operand.tmp 254], argTypes := #[22, 22] }, type := 4, pos := "outright.go:26", after := #[{ on := 57, ground := Ground.data }, { on := 58, ground := Ground.data }, { on := 64, ground := Ground.data }, { on := 64, ground := Ground.chain }, { on := 56, ground := Ground.guard }], guard := some (56, true) }) rfl (fun K hK => ?_) AllReadyH.nil
  go_simp
  refine (S9.out _ _ _ (by assumption) (by assumption)).mono ?_
  rintro e v9 ⟨rfl, qv9⟩
  try (go_wp2_with fail)
  refine hK.out _ _ ?_ (fun hHeld => ?_)
  · exact qv9
  clear hK K
  try simp only [Act.put, List.setIfInBounds_toArray, List.set_cons_zero, List.set_cons_succ]
  refine wpAnyH_take (i := 66) (oi := { dst := some 256, op := Op.pick (Operand.tmp 246) (Operand.tmp 255) (Operand.const (Value.bool false)), type := 4, pos := "outright.go:26", after := #[{ on := 56, ground := Ground.data }, { on := 65, ground := Ground.data }], guard := none }) (v := ?_) rfl (by kernel_rfl) (by kernel_rfl) (by kernel_rfl) (fun _ _ _ h => h) (Or.inl ⟨by rfl, ?_⟩) (by assumption) ?_
  rotate_left
  · intro w hSw
    try dsimp only at hSw
    go_simp <;> with_reducible rfl
  try simp only [Act.put, List.setIfInBounds_toArray, List.set_cons_zero, List.set_cons_succ]
  refine wpAnyH_take (i := 67) (oi := { dst := some 257, op := Op.move (Operand.tmp 256), type := 4, pos := "outright.go:26", after := #[{ on := 66, ground := Ground.data }, { on := 65, ground := Ground.chain }], guard := none }) (v := ?_) rfl (by kernel_rfl) (by kernel_rfl) (by kernel_rfl) (fun _ _ _ h => h) (Or.inl ⟨by rfl, ?_⟩) (by assumption) ?_
  rotate_left
  · intro w hSw
    try dsimp only at hSw
    go_simp <;> with_reducible rfl
  try simp only [Act.put, List.setIfInBounds_toArray, List.set_cons_zero, List.set_cons_succ]
  refine wpAnyH_ready (rs := [68]) (by kernel_rfl) (by simp) ?_
  refine AllReadyH.cons (o := { dst := some 258, op := Op.call { callee := Callee.value (Operand.func 7), args := #[], argTypes := #[] }, type := 4, pos := "outright.go:26", after := #[{ on := 67, ground := Ground.chain }, { on := 67, ground := Ground.guard }], guard := some (67, true) }) rfl (fun K hK => ?_) AllReadyH.nil
  go_simp
  refine (KW.out _ (by assumption)).mono ?_
  rintro e vW ⟨rfl, qvW⟩
  try (go_wp2_with fail)
  refine hK.out _ _ ?_ (fun hHeld => ?_)
  · exact qvW
  clear hK K
  try simp only [Act.put, List.setIfInBounds_toArray, List.set_cons_zero, List.set_cons_succ]
  refine wpAnyH_take (i := 69) (oi := { dst := some 259, op := Op.pick (Operand.tmp 257) (Operand.tmp 258) (Operand.const (Value.bool false)), type := 4, pos := "outright.go:26", after := #[{ on := 67, ground := Ground.data }, { on := 68, ground := Ground.data }], guard := none }) (v := ?_) rfl (by kernel_rfl) (by kernel_rfl) (by kernel_rfl) (fun _ _ _ h => h) (Or.inl ⟨by rfl, ?_⟩) (by assumption) ?_
  rotate_left
  · intro w hSw
    try dsimp only at hSw
    go_simp <;> with_reducible rfl
  try simp only [Act.put, List.setIfInBounds_toArray, List.set_cons_zero, List.set_cons_succ]
  refine wpAnyH_take (i := 70) (oi := { dst := some 4, op := Op.assign (Operand.tmp 259), type := 4, pos := "outright.go:26", after := ([{ on := 69, ground := Ground.data }, { on := 68, ground := Ground.chain }, { on := 0, ground := Ground.phase }, { on := 1, ground := Ground.phase }, { on := 2, ground := Ground.phase }, { on := 3, ground := Ground.phase }, { on := 4, ground := Ground.phase }, { on := 5, ground := Ground.phase }, { on := 6, ground := Ground.phase }, { on := 7, ground := Ground.phase }, { on := 8, ground := Ground.phase }, { on := 9, ground := Ground.phase }, { on := 10, ground := Ground.phase }, { on := 11, ground := Ground.phase }, { on := 12, ground := Ground.phase }, { on := 13, ground := Ground.phase }, { on := 14, ground := Ground.phase }, { on := 15, ground := Ground.phase }, { on := 16, ground := Ground.phase }, { on := 17, ground := Ground.phase }, { on := 18, ground := Ground.phase }, { on := 19, ground := Ground.phase }, { on := 20, ground := Ground.phase }, { on := 21, ground := Ground.phase }, { on := 22, ground := Ground.phase }, { on := 23, ground := Ground.phase }, { on := 24, ground := Ground.phase }, { on := 25, ground := Ground.phase }, { on := 26, ground := Ground.phase }, { on := 27, ground := Ground.phase }, { on := 28, ground := Ground.phase }, { on := 29, ground := Ground.phase }, { on := 30, ground := Ground.phase }, { on := 31, ground := Ground.phase }, { on := 32, ground := Ground.phase }, { on := 33, ground := Ground.phase }].append [{ on := 34, ground := Ground.phase }, { on := 35, ground := Ground.phase }, { on := 36, ground := Ground.phase }, { on := 37, ground := Ground.phase }, { on := 38, ground := Ground.phase }, { on := 39, ground := Ground.phase }, { on := 40, ground := Ground.phase }, { on := 41, ground := Ground.phase }, { on := 42, ground := Ground.phase }, { on := 43, ground := Ground.phase }, { on := 44, ground := Ground.phase }, { on := 45, ground := Ground.phase }, { on := 46, ground := Ground.phase }, { on := 47, ground := Ground.phase }, { on := 48, ground := Ground.phase }, { on := 49, ground := Ground.phase }, { on := 50, ground := Ground.phase }, { on := 51, ground := Ground.phase }, { on := 52, ground := Ground.phase }, { on := 53, ground := Ground.phase }, { on := 54, ground := Ground.phase }, { on := 55, ground := Ground.phase }, { on := 56, ground := Ground.phase }, { on := 57, ground := Ground.phase }, { on := 58, ground := Ground.phase }, { on := 59, ground := Ground.phase }, { on := 60, ground := Ground.phase }, { on := 61, ground := Ground.phase }, { on := 62, ground := Ground.phase }, { on := 63, ground := Ground.phase }, { on := 64, ground := Ground.phase }, { on := 65, ground := Ground.phase }, { on := 66, ground := Ground.phase }, { on := 67, ground := Ground.phase }, { on := 68, ground := Ground.phase }, { on := 69, ground := Ground.phase }]).toArray, guard := none }) (v := ?_) rfl (by kernel_rfl) (by kernel_rfl) (by kernel_rfl) (fun _ _ _ h => h) (Or.inl ⟨by rfl, ?_⟩) (by assumption) ?_
  rotate_left
  · intro w hSw
    try dsimp only at hSw
    go_simp <;> with_reducible rfl
  try simp only [Act.put, List.setIfInBounds_toArray, List.set_cons_zero, List.set_cons_succ]
  refine wpAnyH_done (by kernel_rfl) ?_ _
  have BE := Lib.hid (show Below y3.heap.size y3 vW by assumption)
  go_wp2
  go_ret
  exact ⟨rfl, HB.out.trans ((J3.out.trans (BE.out.mono J3.out.size)).mono HB.out.size)⟩
end Go.Proofs.Ytomfeehebkknoaa.Rw
