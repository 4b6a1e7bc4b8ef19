/- Layer 15: ReflowKeeps' walk. -/
import Derived.Test.YtifolcfnknlmdaaReKb
set_option linter.unusedVariables false
namespace Go.Proofs.Ytifolcfnknlmdaa.Re
open Go.RowKit Go.Proofs.Ytifolcfnknlmdaa.Rw

set_option maxRecDepth 100000 in
set_option maxHeartbeats 4000000 in
theorem keeps_good {F : Nat → Prop} {A : Option Addr} {n c : Nat} {l : List LnC} {w : World} (KG : Hid (Calls Try.prog 8 #[.slice A n c] w fun e w' => e = .returned (.bool (!smallB l)) ∧ Below w.heap.size w w')) (HH : Hid (LinesAt F w (.slice A n c) l)) (hn : n = l.length) (hs : smallB l = true) (X P Y : Nat) (w2 : 2 ≤ X) (w4 : X ≤ 400) (hYn : Y < n) (hP0 : P ≤ 9223372036854775807) : Calls Try.prog 3 #[.slice A n c, .int .i64 (X : Int), .int .i64 (P : Int), .int .i64 (Y : Int)] w fun e w' => e = .returned (.bool true) ∧ Below w.heap.size w w' := by
  have hW : IntIn (X : Int) := ⟨by omega, by omega⟩
  have hn60 : n ≤ 60 := by have := ((small_iff l).1 hs).1; omega
  have hx : IntIn (P : Int) := ⟨by omega, by omega⟩
  have hy : IntIn (Y : Int) := ⟨by omega, by omega⟩
  have hss := small_sum hs
  have hls := lines_small X (by omega) (by omega) l hs
  obtain ⟨hk1, hk2, hk3, hk4⟩ := keeps_plain l X P Y (by omega) (by omega)
  have e1 : linesI (X : Int) l = linesV blC wdC X l := linesI_in X (by omega) (by omega) l
  have e2 : placeI l (X : Int) (P : Int) (Y : Int) = placeV l X P Y := by
    unfold placeI okI
    rw [if_pos (by simp; omega), Int.toNat_natCast, Int.toNat_natCast, Int.toNat_natCast]
  have K1 := Lib.hid fun V (hV : LinesAt F V (.slice A n c) l) => plines_any hV (by omega) (by omega) (X : Int) hW
  have K2 := Lib.hid fun V (hV : LinesAt F V (.slice A n c) l) => pplace_any hV (by omega) (by omega) (X : Int) (P : Int) (Y : Int) hW hx hy
  rw [e1] at K1
  rw [e2] at K2
  obtain ⟨M, hM⟩ : ∃ M, M = linesV blC wdC X l := ⟨_, rfl⟩
  rw [← hM] at K1 hls hk1 hk3 hk4
  generalize (placeV l X P Y).1 = px at *
  generalize (placeV l X P Y).2 = py at *
  obtain ⟨m, hm⟩ : ∃ m, m = M.length := ⟨_, rfl⟩
  rw [← hm] at hk1
  have hc5 : (l.getD Y noLn).cells.length ≤ 100000 := Nat.le_trans (cells_le l Y) (by omega)
  have hn5 : n ≤ 100000 := by omega
  have hm5 : m ≤ 100000 := by omega
  have hX : 2 ≤ X ∧ X ≤ 400 := by omega
  have hP : P ≤ 9223372036854775807 := hP0
  have HK := Lib.hid hk4
  have HX3 := Lib.hid hk3
  have a1 : decide ((X : Int) < 2) = false := decide_eq_false (by omega)
  have a2 : decide ((X : Int) > 400) = false := decide_eq_false (by omega)
  have a3 : decide ((Y : Int) < 0) = false := decide_eq_false (by omega)
  have a4 : decide ((Y : Int) ≥ (n : Int)) = false := decide_eq_false (by omega)
  have a4' : decide (n ≤ Y) = false := decide_eq_false (by omega)
  have a5 : decide ((P : Int) < 0) = false := decide_eq_false (by omega)
  have b1' : decide ((py : Int) < 0) = false := decide_eq_false (by omega)
  have b2' : decide ((py : Int) ≥ (m : Int)) = false := decide_eq_false (by omega)
  have b2'' : decide (m ≤ py) = false := decide_eq_false (by omega)
  have b3' : decide ((px : Int) < 0) = false := decide_eq_false (by omega)
  have b4' : decide ((px : Int) ≥ (X : Int)) = false := decide_eq_false (by omega)
  have b4'' : decide (X ≤ px) = false := decide_eq_false (by omega)
  have b5' : ((X : Int) != (X : Int)) = false := by simp
  rw [hs] at KG
  have Hm := Lib.hid hm
  clear hs w2 w4 hls hss hM e1 e2 hk3 hk4 hW hx hy hn hm
  go_enter Try.func3, Try.ntmps3
  go_wp2_with fail
  refine (show Calls _ _ _ _ _ from KG.out).mono ?_
  rintro e w1 ⟨rfl, j1⟩
  have KL := Lib.hid (K1.out w1 (HH.out.below j1))
  have HB1 := Lib.hid j1
  clear j1 KG K1
  go_wp2_with fail
  refine (show Calls _ _ _ _ _ from KL.out).mono ?_
  rintro e w2 ⟨ua, rfl, ha, j2⟩
  have HB2 := Lib.hid (HB1.out.trans (j2.mono HB1.out.size))
  have HA := Lib.hid ha
  have KP := Lib.hid (K2.out w2 (HH.out.below HB2.out))
  obtain ⟨Aa, ca, rfl⟩ : ∃ A c, ua = .slice A m c := by obtain ⟨A, c, e, -⟩ := ha; exact ⟨A, c, by rw [Hm.out]; exact e⟩
  clear ha j2 KL K2
  go_wp2_with fail
  refine (show Calls _ _ _ _ _ from KP.out).mono ?_
  rintro e w3 ⟨rfl, j3⟩
  have HB3 := Lib.hid (HB2.out.trans (j3.mono HB2.out.size))
  have HL3 := Lib.hid (HH.out.below HB3.out)
  have HA3 := Lib.hid (HA.out.below j3)
  clear j3 KP HH HA HB1
  obtain ⟨ba, oa, va, rfl, -, hba, p0, p1, p2, ra⟩ := HA3.out.at_ hk1
  obtain ⟨bl, ol, vl, rfl, -, hbl, q0, q1, q2, rl⟩ := HL3.out.at_ hYn
  obtain ⟨Xa, xa, rfl, -⟩ := id ra.1
  obtain ⟨Xl, xl, rfl, -⟩ := id rl.1
  have i1 := idx_line ba oa m ca py hk1
  have i2 := idx_line bl ol n c Y hYn
  have hrow := ra.1.row.2.2.2
  have hrowl := rl.1.row.2.2.2
  obtain ⟨N, hN⟩ : ∃ N, N = (l.getD Y noLn).cells.length := ⟨_, rfl⟩
  rw [HX3.out] at p0
  rw [← hN] at q0 hc5
  obtain ⟨q, hq⟩ : ∃ q : Int, q = if ((l.getD Y noLn).joined && (l.getD Y noLn).short) = true then (N : Int) - 1 else (N : Int) := ⟨_, rfl⟩
  have hcc := cnt_count (l.getD Y noLn) P q (by rw [hq, hN])
  rw [← hN] at hcc
  obtain ⟨J, hJ⟩ : ∃ J, J = (l.getD Y noLn).joined := ⟨_, rfl⟩
  obtain ⟨S, hS⟩ : ∃ S, S = (l.getD Y noLn).short := ⟨_, rfl⟩
  rw [← hJ] at q1 hq
  rw [← hS] at q2 hq
  have zN : IntKind.i64.wrap ((N : Int) - 1) = (N : Int) - 1 := IntWalk.i64_in _ (by omega)
  have HR := Lib.hid (And.intro hrow hrowl)
  have HN := Lib.hid hN
  have Hcc := Lib.hid hcc
  clear ra rl hrow hrowl hN hJ hS hcc p1 p2
  obtain ⟨b9, hb9⟩ : ∃ b9, b9 = (J && S) := ⟨_, rfl⟩
  rw [← hb9] at hq
  go_upto_region 8 with fail
  go_cut [93] (fun s wc => s = .bool b9 ∧ w3 = wc)
  case first =>
    cases J with
    | false =>
      obtain rfl : b9 = false := by rw [hb9]; simp
      clear hq hb9
      go_wp2
      go_meet
      exact ⟨rfl, rfl⟩
    | true =>
      obtain rfl : b9 = S := by rw [hb9]; simp
      clear hq hb9
      go_wp2
      go_meet
      exact ⟨rfl, rfl⟩
  case rest =>
  obtain ⟨rfl, rfl⟩ := hcut
  clear hb9
  go_upto_if 93 with fail
  go_cut [12] (fun s wc => s = .int .i64 q ∧ Below w3.heap.size w3 wc)
  case first =>
    cases b9 with
    | false =>
      obtain rfl : q = (N : Int) := by rw [hq]; simp
      clear hq
      go_wp2
      go_meet
      first | exact ⟨rfl, Below.refl _ _⟩ | exact ⟨rfl, below_drew (Below.refl _ _) _⟩
    | true =>
      obtain rfl : q = (N : Int) - 1 := by rw [hq]; simp
      clear hq
      go_wp2
      go_meet
      first | exact ⟨rfl, Below.refl _ _⟩ | exact ⟨rfl, below_drew (Below.refl _ _) _⟩
  case rest =>
  rename_i wc
  obtain ⟨rfl, hbw⟩ := hcut
  have HBw := Lib.hid hbw
  have HBc := Lib.hid (HB3.out.trans (hbw.mono HB3.out.size))
  clear hbw
  have KW := Lib.hid fun V => wakes_any V
  clear hq
  by_cases hPq : (P : Int) < q
  · have g1 : decide ((P : Int) ≥ q) = false := decide_eq_false (by omega)
    obtain ⟨hP1, hP2⟩ := Hcc.out hPq
    obtain ⟨bc, oc, rfl, hbc, c0, c1, c2, c3, c4, c5, c6⟩ := HR.out.2.at_ (k := P) (by rw [← HN.out]; exact hP2)
    obtain ⟨bd, od, rfl, hbd, d0, d1, d2, d3, d4, d5, d6⟩ := HR.out.1.at_ (k := px) (by rw [HX3.out]; exact hk2)
    have i3 := idx_cell bc oc N xl P hP2
    have i4 := idx_cell bd od X xa px hk2
    have P0 := fun (V : World) (hV : Below w3.heap.size w3 V) => (hV.cell hba).trans p0
    have Q0 := fun (V : World) (hV : Below w3.heap.size w3 V) => (hV.cell hbl).trans q0
    have C0 := fun (V : World) (hV : Below w3.heap.size w3 V) => (hV.cell hbc).trans c0
    have C1 := fun (V : World) (hV : Below w3.heap.size w3 V) => (hV.cell hbc).trans c1
    have C2 := fun (V : World) (hV : Below w3.heap.size w3 V) => (hV.cell hbc).trans c2
    have C3 := fun (V : World) (hV : Below w3.heap.size w3 V) => (hV.cell hbc).trans c3
    have C4 := fun (V : World) (hV : Below w3.heap.size w3 V) => (hV.cell hbc).trans c4
    have C5 := fun (V : World) (hV : Below w3.heap.size w3 V) => (hV.cell hbc).trans c5
    have C6 := fun (V : World) (hV : Below w3.heap.size w3 V) => (hV.cell hbc).trans c6
    have D0 := fun (V : World) (hV : Below w3.heap.size w3 V) => (hV.cell hbd).trans d0
    have D1 := fun (V : World) (hV : Below w3.heap.size w3 V) => (hV.cell hbd).trans d1
    have D2 := fun (V : World) (hV : Below w3.heap.size w3 V) => (hV.cell hbd).trans d2
    have D3 := fun (V : World) (hV : Below w3.heap.size w3 V) => (hV.cell hbd).trans d3
    have D4 := fun (V : World) (hV : Below w3.heap.size w3 V) => (hV.cell hbd).trans d4
    have D5 := fun (V : World) (hV : Below w3.heap.size w3 V) => (hV.cell hbd).trans d5
    have D6 := fun (V : World) (hV : Below w3.heap.size w3 V) => (hV.cell hbd).trans d6
    have HE := HK.out hP1
    have hbw := HBw.out
    have x0 := Q0 wc hbw
    have x1 := C0 wc hbw
    have x2 := C1 wc hbw
    have x3 := C2 wc hbw
    have x4 := C3 wc hbw
    have x5 := C4 wc hbw
    have x6 := C5 wc hbw
    have x7 := C6 wc hbw
    have E1 : ∀ V, (binOp .eql 38 (ceV (cellV (l.getD Y noLn).cells P)) (.agg #[.int .i32 32, .int .u8 0, .int .u16 0, .int .u8 0, .int .u32 0, .int .u8 0, .int .u32 0])).run Try.prog V = .ok (.bool (decide (cellV (l.getD Y noLn).cells P = blC))) V := fun V => eq_cell (cellV (l.getD Y noLn).cells P) blC V
    have E2 := fun V => eq_cell (cellV (M.getD py noLn).cells px) (cellV (l.getD Y noLn).cells P) V
    obtain ⟨t, ht⟩ : ∃ t, t = decide (cellV (l.getD Y noLn).cells P = blC) := ⟨_, rfl⟩
    rw [← ht] at E1
    have HE2 : t = false → decide (cellV (M.getD py noLn).cells px = cellV (l.getD Y noLn).cells P) = true := fun e => decide_eq_true (HE (by rw [ht] at e; exact of_decide_eq_false e))
    generalize cellV (l.getD Y noLn).cells P = xx at *
    generalize cellV (M.getD py noLn).cells px = zz at *
    obtain ⟨xr, xw, ⟨xa, xb, xc, xd, xe⟩⟩ := xx
    obtain ⟨zr, zw, ⟨za, zb, zc, zd, ze⟩⟩ := zz
    skip
    dsimp only at x1 x2 x3 x4 x5 x6 x7 C0 C1 C2 C3 C4 C5 C6 D0 D1 D2 D3 D4 D5 D6
    have HHE := Lib.hid HE2
    clear p0 q0 c0 c1 c2 c3 c4 c5 c6 d0 d1 d2 d3 d4 d5 d6 HE ht HE2 hPq hP1 q1 q2
    go_upto_region 10 with fail
    go_cut [110] (fun s wd => s = .bool t ∧ Below wc.heap.size wc wd)
    case first =>
      go_wp2
      go_meet
      first | exact ⟨rfl, Below.refl _ _⟩ | exact ⟨rfl, below_drew (Below.refl _ _) _⟩
    case rest =>
    rename_i wd
    obtain ⟨rfl, hbd2⟩ := hcut
    have HBd := Lib.hid (HBc.out.trans (hbd2.mono HBc.out.size))
    have hbw2 := hbw.trans (hbd2.mono hbw.size)
    clear x0 x1 x2 x3 x4 x5 x6 x7 hbw hbd2
    cases t with
    | true =>
      go_wp2_with fail
      refine (show Calls _ _ _ _ _ from KW.out _).mono ?_
      rintro e w4 ⟨rfl, j4⟩
      have HB4 := Lib.hid (HBd.out.trans (j4.mono HBd.out.size))
      clear j4 KW HBd
      go_wp2
      go_ret
      exact ⟨rfl, HB4.out⟩
    | false =>
      rw [HHE.out rfl] at E2
      have kd := below_drew hbw2 1
      have KW2 : Hid (∀ V, Below w3.heap.size w3 V → Calls Try.prog 9 #[] V fun e w' => e = .returned (.bool true) ∧ Below w3.heap.size w3 w') := Lib.hid fun V hV => (KW.out V).mono fun e w' ⟨he, hb⟩ => ⟨he, hV.trans (hb.mono hV.size)⟩
      go_wp2_with fail
      go_region_held3 (fun V => Below w3.heap.size w3 V) (assumption) (first | (go_at_call 9; (with_reducible refine (KW2.out _ (by assumption)).mono ?_); rintro e v1 ⟨rfl, j1⟩))
      have HBz := Lib.hid (show Below w3.heap.size w3 _ by assumption)
      go_wp2
      go_ret
      exact ⟨rfl, HB3.out.trans (HBz.out.mono HB3.out.size)⟩
  · have g1 : decide ((P : Int) ≥ q) = true := decide_eq_true (by omega)
    clear hPq
    go_wp2_with fail
    refine (show Calls _ _ _ _ _ from KW.out _).mono ?_
    rintro e w4 ⟨rfl, j4⟩
    have HB4 := Lib.hid (HBc.out.trans (j4.mono HBc.out.size))
    clear j4 KW HBc
    go_wp2
    go_ret
    exact ⟨rfl, HB4.out⟩
end Go.Proofs.Ytifolcfnknlmdaa.Re
