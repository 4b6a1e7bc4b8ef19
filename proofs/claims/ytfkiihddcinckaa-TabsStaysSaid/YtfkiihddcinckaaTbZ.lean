/- Layer 12: TabsStays. -/
import Derived.Test.YtfkiihddcinckaaTbT
import Derived.Test.YtfkiihddcinckaaTbX
set_option linter.unusedVariables false
namespace Go.Proofs.Ytfkiihddcinckaa.Tb
open Go.RowKit

/-! ### where a cursor comes to, within -/
def InA (W H x y : Int) : Prop := 0 ≤ x ∧ x < W ∧ 0 ≤ y ∧ y < H
theorem up_in {H T B y n : Int} (hm : (1 ≤ H ∧ H ≤ 400) ∧ 0 ≤ T ∧ B ≤ H - 1 ∧ T ≤ B) (h0 : 0 ≤ y) (h1 : y < H) : 0 ≤ upV H T y n ∧ upV H T y n < H ∧ (T ≤ y → y ≤ B → T ≤ upV H T y n ∧ upV H T y n ≤ B) := by
  unfold upV stepUp
  rw [near_same h0 (by omega)]
  by_cases h : y ≥ T
  · rw [if_pos h]; omega
  · rw [if_neg h]; omega
theorem down_in {H T B y n : Int} (hm : (1 ≤ H ∧ H ≤ 400) ∧ 0 ≤ T ∧ B ≤ H - 1 ∧ T ≤ B) (h0 : 0 ≤ y) (h1 : y < H) : 0 ≤ downV H B y n ∧ downV H B y n < H ∧ (T ≤ y → y ≤ B → T ≤ downV H B y n ∧ downV H B y n ≤ B) := by
  unfold downV stepDown
  rw [near_same h0 (by omega)]
  by_cases h : y ≤ B
  · rw [if_pos h]; omega
  · rw [if_neg h]; omega
theorem left_in {W x n : Int} (hm : 1 ≤ W) (h0 : 0 ≤ x) (h1 : x < W) : 0 ≤ leftV W x n ∧ leftV W x n < W := by
  unfold leftV stepUp
  rw [near_same h0 (by omega)]
  omega
theorem ahead_in {W x n : Int} (hm : 1 ≤ W) (h0 : 0 ≤ x) (h1 : x < W) : 0 ≤ aheadV W x n ∧ aheadV W x n < W := by
  unfold aheadV stepDown
  rw [near_same h0 (by omega)]
  omega
theorem to_in {W H T B : Int} (o : Bool) (x y : Int) (hm : mayB W H T B = true) : InA W H (toxV W x) (toyV H T B o y) ∧ (o = true → T ≤ toyV H T B o y ∧ toyV H T B o y ≤ B) := by
  obtain ⟨⟨hW1, hW4⟩, ⟨hH1, hH4⟩, hT0, hBH, hTB⟩ := may_iff.1 hm
  have h1 := near_in (n := x) (low := 0) (high := W - 1) (by omega)
  have h2 := near_in (n := y) (low := 0) (high := H - 1) (by omega)
  have h3 := near_in (n := y) (low := 0) (high := B - T) (by omega)
  unfold InA toxV toyV
  cases o
  · simp only [Bool.false_eq_true, if_false]
    exact ⟨by omega, fun h => by cases h⟩
  · simp only [if_true]
    exact ⟨by omega, fun _ => by omega⟩
/-- As far up as it came down. -/
theorem down_up {H T B y n : Int} (hm : (1 ≤ H ∧ H ≤ 400) ∧ 0 ≤ T ∧ B ≤ H - 1 ∧ T ≤ B) (h0 : 0 ≤ y) (h1 : y < H) (hn : 1 ≤ n) (he : downV H B y n = y + n) (hw : (T ≤ y ∧ y ≤ B) ∨ y > B) : upV H T (downV H B y n) n = max y (if downV H B y n ≥ T then T else 0) := by
  have h2 := (down_in (n := n) hm h0 h1)
  rw [he] at h2 ⊢
  unfold upV stepUp
  rw [near_same h2.1 (by omega)]
  by_cases h : y + n ≥ T
  · rw [if_pos h]; omega
  · rw [if_neg h]; omega

/-- Behind an act. -/
def StaysC (W H T B : Int) (W0 : World) (s1 s2 s10 : Value) (wc : World) : Prop := ∃ (x2 y2 : Int) (in2 : Bool), s1 = .int .i64 x2 ∧ s2 = .int .i64 y2 ∧ s10 = .bool in2 ∧ InA W H x2 y2 ∧ (in2 = true → T ≤ y2 ∧ y2 ≤ B) ∧ Below W0.heap.size W0 wc
set_option maxRecDepth 100000 in
set_option maxHeartbeats 8000000 in
theorem stays_some (W H T B x y : Int) (A : Option Addr) (len cap : Nat) (X : Nat → Tc) (w : World) (hm : mayB W H T B = true) (hW : IntIn W) (hH : IntIn H) (hT : IntIn T) (hBi : IntIn B) (hx : IntIn x) (hy : IntIn y) (hA : ActsT w w.heap.size A len X) (hl : len ≤ 60) : Calls Try.prog 7 #[areaV W H T B, .int .i64 x, .int .i64 y, .slice A len cap] w fun e w' => e = .returned (.bool true) ∧ Below w.heap.size w w' := by
  have HWk : Hid (∀ V, Calls Try.prog 9 #[] V fun e w' => e = .returned (.bool true) ∧ Below V.heap.size V w') := Lib.hid fun V => wakes_any V
  obtain ⟨W0, hW0, hB, hlt, hq⟩ := ar_new W H T B w
  have HM := Lib.hid hm
  obtain ⟨⟨hW1, hW4⟩, ⟨hH1, hH4⟩, hT0, hBH, hTB⟩ := may_iff.1 hm
  have HR : Hid (Calls Try.prog 25 #[areaV W H T B] W0 fun e w' => e = .returned (.bool true) ∧ Below W0.heap.size W0 w') := Lib.hid (by have := right_any0 W H T B W0; rwa [hm] at this)
  have HTo : Hid (∀ V (o : Bool) (x y : Int), IntIn x → IntIn y → Calls Try.prog 26 #[areaV W H T B, .bool o, .int .i64 x, .int .i64 y] V fun e w' => e = .returned (.tuple #[.int .i64 (toxV W x), .int .i64 (toyV H T B o y)]) ∧ Below V.heap.size V w') := Lib.hid fun V o x y hx hy => by have := to_any W H T B hW hH hT hBi V o x y hx hy; rwa [hm, if_pos rfl, if_pos rfl] at this
  have HUp : Hid (∀ V (y n : Int), IntIn y → IntIn n → Calls Try.prog 27 #[areaV W H T B, .int .i64 y, .int .i64 n] V fun e w' => e = .returned (.int .i64 (upV H T y n)) ∧ Below V.heap.size V w') := Lib.hid fun V y n hy hn => by have := up_any W H T B hW hH hT hBi V y n hy hn; rwa [hm, if_pos rfl] at this
  have HDo : Hid (∀ V (y n : Int), IntIn y → IntIn n → Calls Try.prog 28 #[areaV W H T B, .int .i64 y, .int .i64 n] V fun e w' => e = .returned (.int .i64 (downV H B y n)) ∧ Below V.heap.size V w') := Lib.hid fun V y n hy hn => by have := down_any W H T B hW hH hT hBi V y n hy hn; rwa [hm, if_pos rfl] at this
  have HLe : Hid (∀ V (x n : Int), IntIn x → IntIn n → Calls Try.prog 29 #[areaV W H T B, .int .i64 x, .int .i64 n] V fun e w' => e = .returned (.int .i64 (leftV W x n)) ∧ Below V.heap.size V w') := Lib.hid fun V x n hx hn => by have := left_any W H T B hW hH hT hBi V x n hx hn; rwa [hm, if_pos rfl] at this
  have HAh : Hid (∀ V (x n : Int), IntIn x → IntIn n → Calls Try.prog 30 #[areaV W H T B, .int .i64 x, .int .i64 n] V fun e w' => e = .returned (.int .i64 (aheadV W x n)) ∧ Below V.heap.size V w') := Lib.hid fun V x n hx hn => by have := ahead_any W H T B hW hH hT hBi V x n hx hn; rwa [hm, if_pos rfl] at this
  have HUr : Hid (∀ V (y : Int), Calls Try.prog 35 #[areaV W H T B, .int .i64 y] V fun e w' => e = .returned (.int .i64 (if y ≥ T then T else 0)) ∧ Below V.heap.size V w') := Lib.hid fun V y => upper_any W H T B y V
  have HA : Hid (∀ V, Below W0.heap.size W0 V → ActsT V w.heap.size A len X) := Lib.hid fun V hV => hA.below (hB.trans (hV.mono hB.size))
  have HQ := Lib.hid hq
  have HWW := Lib.hid hW0
  have HB := Lib.hid hB
  have HR0 := (HQ.out W0 (Below.refl _ _))
  have c0 := cell_of HR0 0
  have c1 := cell_of HR0 1
  have c2 := cell_of HR0 2
  have c3 := cell_of HR0 3
  have g1 : decide ((len : Int) > 60) = false := by simp; omega
  clear hW0 hB hq hm hlt HR0 hA
  go_enter Try.func7, Try.ntmps7
  go_upto_region 1 with fail
  change Code.wp _ _ _ _ (w.alloc (arO W H T B))
  rw [HWW.out]
  clear HWW
  go_wp2_with fail
  refine (show Calls _ _ _ _ _ from HR.out).mono ?_
  rintro e w1 ⟨rfl, j1⟩
  have J1 := Lib.hid j1
  have HR1 := (HQ.out w1 j1)
  clear j1 c0 c1 c2 c3 HR
  have c0 := cell_of HR1 0
  have c1 := cell_of HR1 1
  have c2 := cell_of HR1 2
  have c3 := cell_of HR1 3
  clear HR1
  go_wp2_with fail
  refine (HTo.out _ false x y hx hy).mono ?_
  rintro e w2 ⟨rfl, j2⟩
  have J2 := Lib.hid (J1.out.trans (j2.mono J1.out.size))
  have HI0 := Lib.hid (to_in false x y HM.out).1
  clear j2 c0 c1 c2 c3 g1
  generalize toxV W x = x0 at *
  generalize toyV H T B false y = y0 at *
  go_wp2_with fail
  go_loopw [1, 2, 9] (fun s1 s2 i wr => ∃ (k : Nat) (xx yy : Int), k ≤ len ∧ i = .int .i64 k ∧ s1 = .int .i64 xx ∧ s2 = .int .i64 yy ∧ Hid (InA W H xx yy) ∧ Hid (Below W0.heap.size W0 wr)) (fun _ _ i _ => len - (RowKit.intOf i).toNat)
  case atStart => exact ⟨0, x0, y0, Nat.zero_le _, rfl, rfl, rfl, HI0, J2⟩
  case round =>
    obtain ⟨k, xx, yy, hk, rfl, rfl, rfl, HI, HBw⟩ := hrel
    rename_i wr
    by_cases hlk : k < len
    · have glk : decide ((k : Int) < (len : Int)) = true := by simp; omega
      obtain ⟨b, o, e, hb, ⟨gd, gx, gn⟩, q0, q1, q2⟩ := (HA.out wr HBw.out).at_ hlk
      subst e
      have i1 := idx_tact b o len cap k hlk
      have HCell : Hid (∀ V, Below wr.heap.size wr V → V.cell? ⟨b, o + k * 3, none⟩ = some (.int .u8 (X k).d) ∧ V.cell? ⟨b, o + k * 3 + 1, none⟩ = some (.int .i64 (X k).x) ∧ V.cell? ⟨b, o + k * 3 + 2, none⟩ = some (.int .i64 (X k).n)) := Lib.hid fun V hV => by
        have hbw : b < wr.heap.size := Nat.lt_of_lt_of_le hb (Nat.le_trans HB.out.size HBw.out.size)
        exact ⟨(hV.cell hbw).trans q0, (hV.cell hbw).trans q1, (hV.cell hbw).trans q2⟩
      obtain ⟨c, hc⟩ : ∃ c, X k = c := ⟨_, rfl⟩
      rw [hc] at gd gx gn q0 q1 q2 HCell
      obtain ⟨d, ax, an⟩ := c
      dsimp only at gd gx gn q0 q1 q2 HCell
      have HAr := HQ.out wr HBw.out
      have c2 := cell_of HAr 2
      have c3 := cell_of HAr 3
      obtain ⟨inn, hinn⟩ : ∃ inn : Bool, inn = (decide (T ≤ yy) && decide (yy ≤ B)) := ⟨_, rfl⟩
      have HInn := Lib.hid hinn
      clear hinn hc HAr
      go_upto_region 7 with fail
      go_cut [10] (fun s wc => s = .bool inn ∧ wr = wc)
      case first =>
        by_cases hc1 : yy ≥ T
        · have e1 : decide (yy ≥ T) = true := by simpa using hc1
          by_cases hc2 : yy ≤ B
          · have e2 : decide (yy ≤ B) = true := by simpa using hc2
            have e3 : inn = true := by rw [HInn.out]; simp; omega
            subst e3
            clear hc1 hc2
            go_wp2
            go_meet
            exact ⟨rfl, rfl⟩
          · have e2 : decide (yy ≤ B) = false := by simpa using hc2
            have e3 : inn = false := by rw [HInn.out]; simp; omega
            subst e3
            clear hc1 hc2
            go_wp2
            go_meet
            exact ⟨rfl, rfl⟩
        · have e1 : decide (yy ≥ T) = false := by simpa using hc1
          have e3 : inn = false := by rw [HInn.out]; simp; omega
          subst e3
          clear hc1
          go_wp2
          go_meet
          exact ⟨rfl, rfl⟩
      case rest =>
      obtain ⟨rfl, rfl⟩ := hcut
      have hrd : 0 ≤ d % 5 ∧ d % 5 < 5 := ⟨Int.emod_nonneg _ (by decide), Int.emod_lt_of_pos _ (by decide)⟩
      obtain ⟨r, hr⟩ : ∃ r : Int, d % 5 = r := ⟨_, rfl⟩
      have er : d.tmod 5 = r := by rw [Int.tmod_eq_emod_of_nonneg gd.1]; exact hr
      rw [hr] at hrd
      clear c2 c3
      go_upto_block 2 with fail
      go_cut [1, 2, 10] (fun s1 s2 s10 wc => StaysC W H T B W0 s1 s2 s10 wc)
      case first =>
        have k0 := fun (V : World) (hV : Below wr.heap.size wr V) => (HCell.out V hV).1
        have k1 := fun (V : World) (hV : Below wr.heap.size wr V) => (HCell.out V hV).2.1
        have k2 := fun (V : World) (hV : Below wr.heap.size wr V) => (HCell.out V hV).2.2
        have a0 := fun (V : World) (hV : Below wr.heap.size wr V) => cell_of (HQ.out V (HBw.out.trans (hV.mono HBw.out.size))) 0
        have a1 := fun (V : World) (hV : Below wr.heap.size wr V) => cell_of (HQ.out V (HBw.out.trans (hV.mono HBw.out.size))) 1
        have a2 := fun (V : World) (hV : Below wr.heap.size wr V) => cell_of (HQ.out V (HBw.out.trans (hV.mono HBw.out.size))) 2
        have a3 := fun (V : World) (hV : Below wr.heap.size wr V) => cell_of (HQ.out V (HBw.out.trans (hV.mono HBw.out.size))) 3
        have hd := below_drew (Below.refl wr.heap.size wr) 1
        have yi : IntIn yy := in_small (by have := HI.out.2.2.1; omega) (by have := HI.out.2.2.2; omega)
        have xi : IntIn xx := in_small (by have := HI.out.1; omega) (by have := HI.out.2.1; omega)
        have HInv : Hid (inn = true → T ≤ yy ∧ yy ≤ B) := Lib.hid fun h => by rw [HInn.out] at h; simpa using h
        have YI := Lib.hid yi
        have XI := Lib.hid xi
        have GN := Lib.hid gn
        have GX := Lib.hid gx
        clear q0 q1 q2 gd gx gn yi xi
        by_cases r0 : r = 0
        · have e0 : (r == 0) = true := by simpa using r0
          have K1 : Hid (∀ V, Below wr.heap.size wr V → Calls Try.prog 27 #[areaV W H T B, .int .i64 yy, .int .i64 an] V fun e w' => e = .returned (.int .i64 (upV H T yy an)) ∧ Below wr.heap.size wr w') := Lib.hid fun V hV => (HUp.out V yy an YI.out GN.out).mono fun e w' ⟨he, hb⟩ => ⟨he, hV.trans (hb.mono hV.size)⟩
          have P := Lib.hid (up_in (H := H) (T := T) (B := B) (y := yy) (n := an) ⟨⟨hH1, hH4⟩, hT0, hBH, hTB⟩ HI.out.2.2.1 HI.out.2.2.2)
          generalize upV H T yy an = z at *
          clear r0
          clear HUp HDo HLe HAh HUr HTo
          as_aux_lemma =>
          go_wp2_with fail
          go_region_held3 (fun V => Below wr.heap.size wr V) (assumption)
            ((go_at_call 27; (with_reducible refine (K1.out _ (by assumption)).mono ?_); rintro e v1 ⟨rfl, qv1⟩))
          all_goals
            have B3 := Lib.hid (show Below wr.heap.size wr _ by assumption)
          go_wp2
          go_meet
          exact ⟨xx, z, inn, rfl, rfl, rfl, ⟨HI.out.1, HI.out.2.1, P.out.1, P.out.2.1⟩, fun h => P.out.2.2 (HInv.out h).1 (HInv.out h).2, HBw.out.trans (B3.out.mono HBw.out.size)⟩
        have e0 : (r == 0) = false := by simpa using r0
        by_cases r1 : r = 1
        · have e1 : (r == 1) = true := by simpa using r1
          have hzi : IntIn (downV H B yy an) := in_small (by have := (down_in (H := H) (T := T) (B := B) (y := yy) (n := an) ⟨⟨hH1, hH4⟩, hT0, hBH, hTB⟩ HI.out.2.2.1 HI.out.2.2.2).1; omega) (by have := (down_in (H := H) (T := T) (B := B) (y := yy) (n := an) ⟨⟨hH1, hH4⟩, hT0, hBH, hTB⟩ HI.out.2.2.1 HI.out.2.2.2).2.1; omega)
          have K1 : Hid (∀ V, Below wr.heap.size wr V → Calls Try.prog 28 #[areaV W H T B, .int .i64 yy, .int .i64 an] V fun e w' => e = .returned (.int .i64 (downV H B yy an)) ∧ Below wr.heap.size wr w') := Lib.hid fun V hV => (HDo.out V yy an YI.out GN.out).mono fun e w' ⟨he, hb⟩ => ⟨he, hV.trans (hb.mono hV.size)⟩
          have KU : Hid (∀ V, Below wr.heap.size wr V → Calls Try.prog 27 #[areaV W H T B, .int .i64 (downV H B yy an), .int .i64 an] V fun e w' => e = .returned (.int .i64 (upV H T (downV H B yy an) an)) ∧ Below wr.heap.size wr w') := Lib.hid fun V hV => (HUp.out V _ an hzi GN.out).mono fun e w' ⟨he, hb⟩ => ⟨he, hV.trans (hb.mono hV.size)⟩
          have KR : Hid (∀ V, Below wr.heap.size wr V → Calls Try.prog 35 #[areaV W H T B, .int .i64 (downV H B yy an)] V fun e w' => e = .returned (.int .i64 (if downV H B yy an ≥ T then T else 0)) ∧ Below wr.heap.size wr w') := Lib.hid fun V hV => (HUr.out V _).mono fun e w' ⟨he, hb⟩ => ⟨he, hV.trans (hb.mono hV.size)⟩
          have HDU : Hid (1 ≤ an → downV H B yy an = yy + an → ((T ≤ yy ∧ yy ≤ B) ∨ yy > B) → upV H T (downV H B yy an) an = max yy (if downV H B yy an ≥ T then T else 0)) := Lib.hid fun h1 h2 h3 => down_up ⟨⟨hH1, hH4⟩, hT0, hBH, hTB⟩ HI.out.2.2.1 HI.out.2.2.2 h1 h2 h3
          obtain ⟨zz, hzz⟩ : ∃ zz, upV H T (downV H B yy an) an = zz := ⟨_, rfl⟩
          obtain ⟨uu, huu⟩ : ∃ uu : Int, (if downV H B yy an ≥ T then T else 0) = uu := ⟨_, rfl⟩
          rw [hzz] at KU HDU
          rw [huu] at KR HDU
          have HUU : Hid (T ≤ yy → uu ≤ yy) := Lib.hid fun h => by rw [← huu]; split <;> (have := HI.out.2.2.1; omega)
          clear hzz huu hzi
          have P := Lib.hid (down_in (H := H) (T := T) (B := B) (y := yy) (n := an) ⟨⟨hH1, hH4⟩, hT0, hBH, hTB⟩ HI.out.2.2.1 HI.out.2.2.2)
          generalize downV H B yy an = z at *
          clear r0 r1
          clear HUp HDo HLe HAh HUr HTo
          as_aux_lemma =>
          go_wp2_with fail
          go_region_held3 (fun V => Below wr.heap.size wr V) (assumption)
            ((go_at_call 28; (with_reducible refine (K1.out _ (by assumption)).mono ?_); rintro e v1 ⟨rfl, qv1⟩))
          all_goals
            have B3 := Lib.hid (show Below wr.heap.size wr _ by assumption)
          have k2' := k2 _ B3.out
          have a0' := a0 _ B3.out
          have a1' := a1 _ B3.out
          have a2' := a2 _ B3.out
          have a3' := a3 _ B3.out
          have HFin : Hid (∀ V, Below wr.heap.size wr V → StaysC W H T B W0 (.int .i64 xx) (.int .i64 z) (.bool inn) V) := Lib.hid fun V hV => ⟨xx, z, inn, rfl, rfl, rfl, ⟨HI.out.1, HI.out.2.1, P.out.1, P.out.2.1⟩, fun h => P.out.2.2 (HInv.out h).1 (HInv.out h).2, HBw.out.trans (hV.mono HBw.out.size)⟩
          by_cases n1 : an < 1
          · have gn1 : decide (an ≥ 1) = false := by simp; omega
            clear n1
            as_aux_lemma =>
            go_wp2_with fail
            go_quiet (fail)
            go_wp2
            go_meet
            exact HFin.out _ (below_drew B3.out _)
          have gn1 : decide (an ≥ 1) = true := by simp; omega
          by_cases n4 : an > 400
          · have gn4 : decide (an ≤ 400) = false := by simp; omega
            clear n1 n4
            as_aux_lemma =>
            go_wp2_with fail
            go_quiet (fail)
            go_wp2
            go_meet
            exact HFin.out _ (below_drew B3.out _)
          have gn4 : decide (an ≤ 400) = true := by simp; omega
          have zs : IntKind.i64.wrap (yy + an) = yy + an := IntWalk.i64_in _ (by have := HI.out.2.2.1; have := HI.out.2.2.2; omega)
          by_cases hze : z = yy + an
          · subst hze
            have ge : ((yy + an : Int) == yy + an) = true := by simp
            have hd1 := below_drew B3.out 1
            clear k2' a0' a1' a2' a3'
            cases inn
            · by_cases hb5 : yy > B
              · have g5 : decide (yy > B) = true := by simpa using hb5
                have hz2 : zz = yy := by have := HDU.out (by omega) rfl (Or.inr hb5); have := HUU.out (by omega); omega
                have hmx : uu ≤ yy := HUU.out (by omega)
                have HMx := Lib.hid hmx
                subst hz2
                have gne : (zz != zz) = false := by simp
                clear n1 n4 hb5 HDU HUU
                as_aux_lemma =>
                go_wp2_with fail
                go_region_held3 (fun V => Below wr.heap.size wr V) (assumption)
                  (first | (go_at_call 27; (with_reducible refine (KU.out _ (by assumption)).mono ?_); rintro e v2 ⟨rfl, qv2⟩) | (go_at_call 35; (with_reducible refine (KR.out _ (by assumption)).mono ?_); rintro e v3 ⟨rfl, qv3⟩))
                all_goals
                  have B4 := Lib.hid (show Below wr.heap.size wr _ by assumption)
                go_wp2
                go_meet
                exact HFin.out _ B4.out
              · have g5 : decide (yy > B) = false := by simpa using hb5
                clear n1 n4 hb5 HDU HUU KU KR
                have k2' := k2 _ B3.out
                have a3' := a3 _ B3.out
                as_aux_lemma =>
                go_wp2_with fail
                go_quiet (fail)
                go_wp2
                go_meet
                exact HFin.out _ (below_drew B3.out _)
            · have hin := HInv.out rfl
              have hz2 : zz = yy := by have := HDU.out (by omega) rfl (Or.inl hin); have := HUU.out (by omega); omega
              have hmx : uu ≤ yy := HUU.out (by omega)
              subst hz2
              have gne : (zz != zz) = false := by simp
              clear n1 n4 hin HDU HUU
              as_aux_lemma =>
              go_wp2_with fail
              refine wp_region_held_drew (S := fun V => Below wr.heap.size wr V) (by kernel_rfl) ?_ (fun hHeld => ?_)
              · exact hd1
              refine wpAnyH_take (i := 0) (oi := { dst := some 100, op := Op.move (Operand.tmp 3), type := 22, pos := "outright.go:58", after := #[], guard := none }) (v := ?_) rfl (by kernel_rfl) (by kernel_rfl) (by kernel_rfl) (fun _ _ _ h => h) (Or.inl ⟨by rfl, ?_⟩) (by assumption) ?_
              rotate_left
              · intro w hSw
                try dsimp only at hSw
                go_simp <;> with_reducible rfl
              try simp only [Act.put, List.setIfInBounds_toArray, List.set_cons_zero, List.set_cons_succ]
              refine wpAnyH_take (i := 1) (oi := { dst := some 101, op := Op.move (Operand.tmp 9), type := 3, pos := "outright.go:58", after := #[], guard := none }) (v := ?_) rfl (by kernel_rfl) (by kernel_rfl) (by kernel_rfl) (fun _ _ _ h => h) (Or.inl ⟨by rfl, ?_⟩) (by assumption) ?_
              rotate_left
              · intro w hSw
                try dsimp only at hSw
                go_simp <;> with_reducible rfl
              try simp only [Act.put, List.setIfInBounds_toArray, List.set_cons_zero, List.set_cons_succ]
              refine wpAnyH_take (i := 2) (oi := { dst := some 102, op := Op.indexAddr 22 (Operand.tmp 100) (Operand.tmp 101), type := 0, pos := "outright.go:58", after := #[{ on := 0, ground := Ground.data }, { on := 1, ground := Ground.data }], guard := none }) (v := ?_) rfl (by kernel_rfl) (by kernel_rfl) (by kernel_rfl) (fun _ _ _ h => h) (Or.inl ⟨by rfl, ?_⟩) (by assumption) ?_
              rotate_left
              · intro w hSw
                try dsimp only at hSw
                go_simp <;> with_reducible rfl
              try simp only [Act.put, List.setIfInBounds_toArray, List.set_cons_zero, List.set_cons_succ]
              refine wpAnyH_take (i := 3) (oi := { dst := some 103, op := Op.fieldAddr 31 (Operand.tmp 102) 2, type := 0, pos := "outright.go:58", after := #[{ on := 2, ground := Ground.data }], guard := none }) (v := ?_) rfl (by kernel_rfl) (by kernel_rfl) (by kernel_rfl) (fun _ _ _ h => h) (Or.inl ⟨by rfl, ?_⟩) (by assumption) ?_
              rotate_left
              · intro w hSw
                try dsimp only at hSw
                go_simp <;> with_reducible rfl
              try simp only [Act.put, List.setIfInBounds_toArray, List.set_cons_zero, List.set_cons_succ]
              refine wpAnyH_take (i := 4) (oi := { dst := some 104, op := Op.load 3 (Operand.tmp 103), type := 3, pos := "outright.go:58", after := #[{ on := 3, ground := Ground.data }], guard := none }) (v := ?_) rfl (by kernel_rfl) (by kernel_rfl) (by kernel_rfl) (fun _ _ _ h => h) (Or.inl ⟨by rfl, ?_⟩) (by assumption) ?_
              rotate_left
              · intro w hSw
                try dsimp only at hSw
                go_simp <;> with_reducible rfl
              try simp only [Act.put, List.setIfInBounds_toArray, List.set_cons_zero, List.set_cons_succ]
              refine wpAnyH_take (i := 5) (oi := { dst := some 105, op := Op.binOp BinOp.geq 3 (Operand.tmp 104) (Operand.const (Value.int IntKind.i64 1)) 3, type := 4, pos := "outright.go:58", after := #[{ on := 4, ground := Ground.data }], guard := none }) (v := ?_) rfl (by kernel_rfl) (by kernel_rfl) (by kernel_rfl) (fun _ _ _ h => h) (Or.inl ⟨by rfl, ?_⟩) (by assumption) ?_
              rotate_left
              · intro w hSw
                try dsimp only at hSw
                go_simp <;> with_reducible rfl
              try simp only [Act.put, List.setIfInBounds_toArray, List.set_cons_zero, List.set_cons_succ]
              refine wpAnyH_take (i := 6) (oi := { dst := some 106, op := Op.move (Operand.tmp 105), type := 4, pos := "outright.go:58", after := #[{ on := 5, ground := Ground.data }], guard := none }) (v := ?_) rfl (by kernel_rfl) (by kernel_rfl) (by kernel_rfl) (fun _ _ _ h => h) (Or.inl ⟨by rfl, ?_⟩) (by assumption) ?_
              rotate_left
              · intro w hSw
                try dsimp only at hSw
                go_simp <;> with_reducible rfl
              try simp only [Act.put, List.setIfInBounds_toArray, List.set_cons_zero, List.set_cons_succ]
              refine wpAnyH_take (i := 7) (oi := { dst := some 107, op := Op.move (Operand.tmp 3), type := 22, pos := "outright.go:58", after := #[{ on := 6, ground := Ground.guard }], guard := some (6, true) }) (v := ?_) rfl (by kernel_rfl) (by kernel_rfl) (by kernel_rfl) (fun _ _ _ h => h) (Or.inl ⟨by rfl, ?_⟩) (by assumption) ?_
              rotate_left
              · intro w hSw
                try dsimp only at hSw
                go_simp <;> with_reducible rfl
              try simp only [Act.put, List.setIfInBounds_toArray, List.set_cons_zero, List.set_cons_succ]
              refine wpAnyH_take (i := 8) (oi := { dst := some 108, op := Op.move (Operand.tmp 9), type := 3, pos := "outright.go:58", after := #[{ on := 6, ground := Ground.guard }], guard := some (6, true) }) (v := ?_) rfl (by kernel_rfl) (by kernel_rfl) (by kernel_rfl) (fun _ _ _ h => h) (Or.inl ⟨by rfl, ?_⟩) (by assumption) ?_
              rotate_left
              · intro w hSw
                try dsimp only at hSw
                go_simp <;> with_reducible rfl
              try simp only [Act.put, List.setIfInBounds_toArray, List.set_cons_zero, List.set_cons_succ]
              refine wpAnyH_take (i := 9) (oi := { dst := some 109, op := Op.indexAddr 22 (Operand.tmp 107) (Operand.tmp 108), type := 0, pos := "outright.go:58", after := #[{ on := 7, ground := Ground.data }, { on := 8, ground := Ground.data }, { on := 6, ground := Ground.guard }], guard := some (6, true) }) (v := ?_) rfl (by kernel_rfl) (by kernel_rfl) (by kernel_rfl) (fun _ _ _ h => h) (Or.inl ⟨by rfl, ?_⟩) (by assumption) ?_
              rotate_left
              · intro w hSw
                try dsimp only at hSw
                go_simp <;> with_reducible rfl
              try simp only [Act.put, List.setIfInBounds_toArray, List.set_cons_zero, List.set_cons_succ]
              refine wpAnyH_take (i := 10) (oi := { dst := some 110, op := Op.fieldAddr 31 (Operand.tmp 109) 2, type := 0, pos := "outright.go:58", after := #[{ on := 9, ground := Ground.data }, { on := 6, ground := Ground.guard }], guard := some (6, true) }) (v := ?_) rfl (by kernel_rfl) (by kernel_rfl) (by kernel_rfl) (fun _ _ _ h => h) (Or.inl ⟨by rfl, ?_⟩) (by assumption) ?_
              rotate_left
              · intro w hSw
                try dsimp only at hSw
                go_simp <;> with_reducible rfl
              try simp only [Act.put, List.setIfInBounds_toArray, List.set_cons_zero, List.set_cons_succ]
              refine wpAnyH_take (i := 11) (oi := { dst := some 111, op := Op.load 3 (Operand.tmp 110), type := 3, pos := "outright.go:58", after := #[{ on := 10, ground := Ground.data }, { on := 6, ground := Ground.guard }], guard := some (6, true) }) (v := ?_) rfl (by kernel_rfl) (by kernel_rfl) (by kernel_rfl) (fun _ _ _ h => h) (Or.inl ⟨by rfl, ?_⟩) (by assumption) ?_
              rotate_left
              · intro w hSw
                try dsimp only at hSw
                go_simp <;> with_reducible rfl
              try simp only [Act.put, List.setIfInBounds_toArray, List.set_cons_zero, List.set_cons_succ]
              refine wpAnyH_take (i := 12) (oi := { dst := some 112, op := Op.binOp BinOp.leq 3 (Operand.tmp 111) (Operand.const (Value.int IntKind.i64 400)) 3, type := 4, pos := "outright.go:58", after := #[{ on := 11, ground := Ground.data }, { on := 6, ground := Ground.guard }], guard := some (6, true) }) (v := ?_) rfl (by kernel_rfl) (by kernel_rfl) (by kernel_rfl) (fun _ _ _ h => h) (Or.inl ⟨by rfl, ?_⟩) (by assumption) ?_
              rotate_left
              · intro w hSw
                try dsimp only at hSw
                go_simp <;> with_reducible rfl
              try simp only [Act.put, List.setIfInBounds_toArray, List.set_cons_zero, List.set_cons_succ]
              refine wpAnyH_take (i := 13) (oi := { dst := some 113, op := Op.pick (Operand.tmp 106) (Operand.tmp 112) (Operand.const (Value.bool false)), type := 4, pos := "outright.go:58", after := #[{ on := 6, ground := Ground.data }, { on := 12, ground := Ground.data }], guard := none }) (v := ?_) rfl (by kernel_rfl) (by kernel_rfl) (by kernel_rfl) (fun _ _ _ h => h) (Or.inl ⟨by rfl, ?_⟩) (by assumption) ?_
              rotate_left
              · intro w hSw
                try dsimp only at hSw
                go_simp <;> with_reducible rfl
              try simp only [Act.put, List.setIfInBounds_toArray, List.set_cons_zero, List.set_cons_succ]
              refine wpAnyH_take (i := 14) (oi := { dst := some 114, op := Op.move (Operand.tmp 113), type := 4, pos := "outright.go:58", after := #[{ on := 13, ground := Ground.data }, { on := 6, ground := Ground.chain }], guard := none }) (v := ?_) rfl (by kernel_rfl) (by kernel_rfl) (by kernel_rfl) (fun _ _ _ h => h) (Or.inl ⟨by rfl, ?_⟩) (by assumption) ?_
              rotate_left
              · intro w hSw
                try dsimp only at hSw
                go_simp <;> with_reducible rfl
              try simp only [Act.put, List.setIfInBounds_toArray, List.set_cons_zero, List.set_cons_succ]
              refine wpAnyH_take (i := 15) (oi := { dst := some 115, op := Op.move (Operand.tmp 2), type := 3, pos := "outright.go:58", after := #[{ on := 14, ground := Ground.guard }], guard := some (14, true) }) (v := ?_) rfl (by kernel_rfl) (by kernel_rfl) (by kernel_rfl) (fun _ _ _ h => h) (Or.inl ⟨by rfl, ?_⟩) (by assumption) ?_
              rotate_left
              · intro w hSw
                try dsimp only at hSw
                go_simp <;> with_reducible rfl
              try simp only [Act.put, List.setIfInBounds_toArray, List.set_cons_zero, List.set_cons_succ]
              refine wpAnyH_take (i := 16) (oi := { dst := some 116, op := Op.move (Operand.tmp 11), type := 3, pos := "outright.go:58", after := #[{ on := 14, ground := Ground.guard }], guard := some (14, true) }) (v := ?_) rfl (by kernel_rfl) (by kernel_rfl) (by kernel_rfl) (fun _ _ _ h => h) (Or.inl ⟨by rfl, ?_⟩) (by assumption) ?_
              rotate_left
              · intro w hSw
                try dsimp only at hSw
                go_simp <;> with_reducible rfl
              try simp only [Act.put, List.setIfInBounds_toArray, List.set_cons_zero, List.set_cons_succ]
              refine wpAnyH_take (i := 17) (oi := { dst := some 117, op := Op.move (Operand.tmp 3), type := 22, pos := "outright.go:58", after := #[{ on := 14, ground := Ground.guard }], guard := some (14, true) }) (v := ?_) rfl (by kernel_rfl) (by kernel_rfl) (by kernel_rfl) (fun _ _ _ h => h) (Or.inl ⟨by rfl, ?_⟩) (by assumption) ?_
              rotate_left
              · intro w hSw
                try dsimp only at hSw
                go_simp <;> with_reducible rfl
              try simp only [Act.put, List.setIfInBounds_toArray, List.set_cons_zero, List.set_cons_succ]
              refine wpAnyH_take (i := 18) (oi := { dst := some 118, op := Op.move (Operand.tmp 9), type := 3, pos := "outright.go:58", after := #[{ on := 14, ground := Ground.guard }], guard := some (14, true) }) (v := ?_) rfl (by kernel_rfl) (by kernel_rfl) (by kernel_rfl) (fun _ _ _ h => h) (Or.inl ⟨by rfl, ?_⟩) (by assumption) ?_
              rotate_left
              · intro w hSw
                try dsimp only at hSw
                go_simp <;> with_reducible rfl
              try simp only [Act.put, List.setIfInBounds_toArray, List.set_cons_zero, List.set_cons_succ]
              refine wpAnyH_take (i := 19) (oi := { dst := some 119, op := Op.indexAddr 22 (Operand.tmp 117) (Operand.tmp 118), type := 0, pos := "outright.go:58", after := #[{ on := 17, ground := Ground.data }, { on := 18, ground := Ground.data }, { on := 14, ground := Ground.guard }], guard := some (14, true) }) (v := ?_) rfl (by kernel_rfl) (by kernel_rfl) (by kernel_rfl) (fun _ _ _ h => h) (Or.inl ⟨by rfl, ?_⟩) (by assumption) ?_
              rotate_left
              · intro w hSw
                try dsimp only at hSw
                go_simp <;> with_reducible rfl
              try simp only [Act.put, List.setIfInBounds_toArray, List.set_cons_zero, List.set_cons_succ]
              refine wpAnyH_take (i := 20) (oi := { dst := some 120, op := Op.fieldAddr 31 (Operand.tmp 119) 2, type := 0, pos := "outright.go:58", after := #[{ on := 19, ground := Ground.data }, { on := 14, ground := Ground.guard }], guard := some (14, true) }) (v := ?_) rfl (by kernel_rfl) (by kernel_rfl) (by kernel_rfl) (fun _ _ _ h => h) (Or.inl ⟨by rfl, ?_⟩) (by assumption) ?_
              rotate_left
              · intro w hSw
                try dsimp only at hSw
                go_simp <;> with_reducible rfl
              try simp only [Act.put, List.setIfInBounds_toArray, List.set_cons_zero, List.set_cons_succ]
              refine wpAnyH_take (i := 21) (oi := { dst := some 121, op := Op.load 3 (Operand.tmp 120), type := 3, pos := "outright.go:58", after := #[{ on := 20, ground := Ground.data }, { on := 14, ground := Ground.guard }], guard := some (14, true) }) (v := ?_) rfl (by kernel_rfl) (by kernel_rfl) (by kernel_rfl) (fun _ _ _ h => h) (Or.inl ⟨by rfl, ?_⟩) (by assumption) ?_
              rotate_left
              · intro w hSw
                try dsimp only at hSw
                go_simp <;> with_reducible rfl
              try simp only [Act.put, List.setIfInBounds_toArray, List.set_cons_zero, List.set_cons_succ]
              refine wpAnyH_take (i := 22) (oi := { dst := some 122, op := Op.binOp BinOp.add 3 (Operand.tmp 116) (Operand.tmp 121) 3, type := 3, pos := "outright.go:58", after := #[{ on := 16, ground := Ground.data }, { on := 21, ground := Ground.data }, { on := 14, ground := Ground.guard }], guard := some (14, true) }) (v := ?_) rfl (by kernel_rfl) (by kernel_rfl) (by kernel_rfl) (fun _ _ _ h => h) (Or.inl ⟨by rfl, ?_⟩) (by assumption) ?_
              rotate_left
              · intro w hSw
                try dsimp only at hSw
                go_simp <;> with_reducible rfl
              try simp only [Act.put, List.setIfInBounds_toArray, List.set_cons_zero, List.set_cons_succ]
              refine wpAnyH_take (i := 23) (oi := { dst := some 123, op := Op.binOp BinOp.eql 3 (Operand.tmp 115) (Operand.tmp 122) 3, type := 4, pos := "outright.go:58", after := #[{ on := 15, ground := Ground.data }, { on := 22, ground := Ground.data }, { on := 14, ground := Ground.guard }], guard := some (14, true) }) (v := ?_) rfl (by kernel_rfl) (by kernel_rfl) (by kernel_rfl) (fun _ _ _ h => h) (Or.inl ⟨by rfl, ?_⟩) (by assumption) ?_
              rotate_left
              · intro w hSw
                try dsimp only at hSw
                go_simp <;> with_reducible rfl
              try simp only [Act.put, List.setIfInBounds_toArray, List.set_cons_zero, List.set_cons_succ]
              refine wpAnyH_take (i := 24) (oi := { dst := some 124, op := Op.pick (Operand.tmp 114) (Operand.tmp 123) (Operand.const (Value.bool false)), type := 4, pos := "outright.go:58", after := #[{ on := 14, ground := Ground.data }, { on := 23, ground := Ground.data }], guard := none }) (v := ?_) rfl (by kernel_rfl) (by kernel_rfl) (by kernel_rfl) (fun _ _ _ h => h) (Or.inl ⟨by rfl, ?_⟩) (by assumption) ?_
              rotate_left
              · intro w hSw
                try dsimp only at hSw
                go_simp <;> with_reducible rfl
              try simp only [Act.put, List.setIfInBounds_toArray, List.set_cons_zero, List.set_cons_succ]
              refine wpAnyH_take (i := 25) (oi := { dst := some 125, op := Op.move (Operand.tmp 124), type := 4, pos := "outright.go:58", after := #[{ on := 24, ground := Ground.data }, { on := 14, ground := Ground.chain }], guard := none }) (v := ?_) rfl (by kernel_rfl) (by kernel_rfl) (by kernel_rfl) (fun _ _ _ h => h) (Or.inl ⟨by rfl, ?_⟩) (by assumption) ?_
              rotate_left
              · intro w hSw
                try dsimp only at hSw
                go_simp <;> with_reducible rfl
              try simp only [Act.put, List.setIfInBounds_toArray, List.set_cons_zero, List.set_cons_succ]
              refine wpAnyH_take (i := 26) (oi := { dst := some 126, op := Op.move (Operand.tmp 10), type := 4, pos := "outright.go:58", after := #[{ on := 25, ground := Ground.guard }], guard := some (25, true) }) (v := ?_) rfl (by kernel_rfl) (by kernel_rfl) (by kernel_rfl) (fun _ _ _ h => h) (Or.inl ⟨by rfl, ?_⟩) (by assumption) ?_
              rotate_left
              · intro w hSw
                try dsimp only at hSw
                go_simp <;> with_reducible rfl
              try simp only [Act.put, List.setIfInBounds_toArray, List.set_cons_zero, List.set_cons_succ]
              refine wpAnyH_take (i := 27) (oi := { dst := some 127, op := Op.move (Operand.tmp 126), type := 4, pos := "outright.go:58", after := #[{ on := 26, ground := Ground.data }, { on := 25, ground := Ground.chain }, { on := 25, ground := Ground.guard }], guard := some (25, true) }) (v := ?_) rfl (by kernel_rfl) (by kernel_rfl) (by kernel_rfl) (fun _ _ _ h => h) (Or.inl ⟨by rfl, ?_⟩) (by assumption) ?_
              rotate_left
              · intro w hSw
                try dsimp only at hSw
                go_simp <;> with_reducible rfl
              try simp only [Act.put, List.setIfInBounds_toArray, List.set_cons_zero, List.set_cons_succ]
              refine wpAnyH_take (i := 28) (oi := { dst := some 128, op := Op.move (Operand.tmp 11), type := 3, pos := "outright.go:58", after := #[{ on := 27, ground := Ground.guard }], guard := some (27, false) }) (v := undef) rfl (by kernel_rfl) (by kernel_rfl) (by kernel_rfl) (fun _ _ _ h => h) (Or.inr ⟨by rfl, rfl⟩) (by assumption) ?_
              try simp only [Act.put, List.setIfInBounds_toArray, List.set_cons_zero, List.set_cons_succ]
              refine wpAnyH_take (i := 29) (oi := { dst := some 129, op := Op.fieldAddr 43 (Operand.tmp 4) 3, type := 0, pos := "outright.go:58", after := #[{ on := 27, ground := Ground.guard }], guard := some (27, false) }) (v := undef) rfl (by kernel_rfl) (by kernel_rfl) (by kernel_rfl) (fun _ _ _ h => h) (Or.inr ⟨by rfl, rfl⟩) (by assumption) ?_
              try simp only [Act.put, List.setIfInBounds_toArray, List.set_cons_zero, List.set_cons_succ]
              refine wpAnyH_take (i := 30) (oi := { dst := some 130, op := Op.load 3 (Operand.tmp 129), type := 3, pos := "outright.go:58", after := #[{ on := 29, ground := Ground.data }, { on := 27, ground := Ground.guard }], guard := some (27, false) }) (v := undef) rfl (by kernel_rfl) (by kernel_rfl) (by kernel_rfl) (fun _ _ _ h => h) (Or.inr ⟨by rfl, rfl⟩) (by assumption) ?_
              try simp only [Act.put, List.setIfInBounds_toArray, List.set_cons_zero, List.set_cons_succ]
              refine wpAnyH_take (i := 31) (oi := { dst := some 131, op := Op.binOp BinOp.gtr 3 (Operand.tmp 128) (Operand.tmp 130) 3, type := 4, pos := "outright.go:58", after := #[{ on := 28, ground := Ground.data }, { on := 30, ground := Ground.data }, { on := 27, ground := Ground.guard }], guard := some (27, false) }) (v := undef) rfl (by kernel_rfl) (by kernel_rfl) (by kernel_rfl) (fun _ _ _ h => h) (Or.inr ⟨by rfl, rfl⟩) (by assumption) ?_
              try simp only [Act.put, List.setIfInBounds_toArray, List.set_cons_zero, List.set_cons_succ]
              refine wpAnyH_take (i := 32) (oi := { dst := some 132, op := Op.pick (Operand.tmp 127) (Operand.const (Value.bool true)) (Operand.tmp 131), type := 4, pos := "outright.go:58", after := #[{ on := 27, ground := Ground.data }, { on := 31, ground := Ground.data }, { on := 25, ground := Ground.guard }], guard := some (25, true) }) (v := ?_) rfl (by kernel_rfl) (by kernel_rfl) (by kernel_rfl) (fun _ _ _ h => h) (Or.inl ⟨by rfl, ?_⟩) (by assumption) ?_
              rotate_left
              · intro w hSw
                try dsimp only at hSw
                go_simp <;> with_reducible rfl
              try simp only [Act.put, List.setIfInBounds_toArray, List.set_cons_zero, List.set_cons_succ]
              refine wpAnyH_take (i := 33) (oi := { dst := some 133, op := Op.pick (Operand.tmp 125) (Operand.tmp 132) (Operand.const (Value.bool false)), type := 4, pos := "outright.go:58", after := #[{ on := 25, ground := Ground.data }, { on := 32, ground := Ground.data }], guard := none }) (v := ?_) rfl (by kernel_rfl) (by kernel_rfl) (by kernel_rfl) (fun _ _ _ h => h) (Or.inl ⟨by rfl, ?_⟩) (by assumption) ?_
              rotate_left
              · intro w hSw
                try dsimp only at hSw
                go_simp <;> with_reducible rfl
              try simp only [Act.put, List.setIfInBounds_toArray, List.set_cons_zero, List.set_cons_succ]
              refine wpAnyH_take (i := 34) (oi := { dst := some 134, op := Op.move (Operand.tmp 133), type := 4, pos := "outright.go:58", after := #[{ on := 33, ground := Ground.data }, { on := 27, ground := Ground.chain }], guard := none }) (v := ?_) rfl (by kernel_rfl) (by kernel_rfl) (by kernel_rfl) (fun _ _ _ h => h) (Or.inl ⟨by rfl, ?_⟩) (by assumption) ?_
              rotate_left
              · intro w hSw
                try dsimp only at hSw
                go_simp <;> with_reducible rfl
              try simp only [Act.put, List.setIfInBounds_toArray, List.set_cons_zero, List.set_cons_succ]
              refine wpAnyH_take (i := 35) (oi := { dst := some 135, op := Op.load 43 (Operand.tmp 4), type := 43, pos := "outright.go:58", after := #[{ on := 34, ground := Ground.guard }], guard := some (34, true) }) (v := ?_) rfl (by kernel_rfl) (by kernel_rfl) (by kernel_rfl) (fun _ _ _ h => h) (Or.inl ⟨by rfl, ?_⟩) (by assumption) ?_
              rotate_left
              · intro w hSw
                try dsimp only at hSw
                go_simp <;> with_reducible rfl
              try simp only [Act.put, List.setIfInBounds_toArray, List.set_cons_zero, List.set_cons_succ]
              refine wpAnyH_take (i := 36) (oi := { dst := some 136, op := Op.move (Operand.tmp 2), type := 3, pos := "outright.go:58", after := #[{ on := 34, ground := Ground.guard }], guard := some (34, true) }) (v := ?_) rfl (by kernel_rfl) (by kernel_rfl) (by kernel_rfl) (fun _ _ _ h => h) (Or.inl ⟨by rfl, ?_⟩) (by assumption) ?_
              rotate_left
              · intro w hSw
                try dsimp only at hSw
                go_simp <;> with_reducible rfl
              try simp only [Act.put, List.setIfInBounds_toArray, List.set_cons_zero, List.set_cons_succ]
              refine wpAnyH_take (i := 37) (oi := { dst := some 137, op := Op.move (Operand.tmp 3), type := 22, pos := "outright.go:58", after := #[{ on := 34, ground := Ground.guard }], guard := some (34, true) }) (v := ?_) rfl (by kernel_rfl) (by kernel_rfl) (by kernel_rfl) (fun _ _ _ h => h) (Or.inl ⟨by rfl, ?_⟩) (by assumption) ?_
              rotate_left
              · intro w hSw
                try dsimp only at hSw
                go_simp <;> with_reducible rfl
              try simp only [Act.put, List.setIfInBounds_toArray, List.set_cons_zero, List.set_cons_succ]
              refine wpAnyH_take (i := 38) (oi := { dst := some 138, op := Op.move (Operand.tmp 9), type := 3, pos := "outright.go:58", after := #[{ on := 34, ground := Ground.guard }], guard := some (34, true) }) (v := ?_) rfl (by kernel_rfl) (by kernel_rfl) (by kernel_rfl) (fun _ _ _ h => h) (Or.inl ⟨by rfl, ?_⟩) (by assumption) ?_
              rotate_left
              · intro w hSw
                try dsimp only at hSw
                go_simp <;> with_reducible rfl
              try simp only [Act.put, List.setIfInBounds_toArray, List.set_cons_zero, List.set_cons_succ]
              refine wpAnyH_take (i := 39) (oi := { dst := some 139, op := Op.indexAddr 22 (Operand.tmp 137) (Operand.tmp 138), type := 0, pos := "outright.go:58", after := #[{ on := 37, ground := Ground.data }, { on := 38, ground := Ground.data }, { on := 34, ground := Ground.guard }], guard := some (34, true) }) (v := ?_) rfl (by kernel_rfl) (by kernel_rfl) (by kernel_rfl) (fun _ _ _ h => h) (Or.inl ⟨by rfl, ?_⟩) (by assumption) ?_
              rotate_left
              · intro w hSw
                try dsimp only at hSw
                go_simp <;> with_reducible rfl
              try simp only [Act.put, List.setIfInBounds_toArray, List.set_cons_zero, List.set_cons_succ]
              refine wpAnyH_take (i := 40) (oi := { dst := some 140, op := Op.fieldAddr 31 (Operand.tmp 139) 2, type := 0, pos := "outright.go:58", after := #[{ on := 39, ground := Ground.data }, { on := 34, ground := Ground.guard }], guard := some (34, true) }) (v := ?_) rfl (by kernel_rfl) (by kernel_rfl) (by kernel_rfl) (fun _ _ _ h => h) (Or.inl ⟨by rfl, ?_⟩) (by assumption) ?_
              rotate_left
              · intro w hSw
                try dsimp only at hSw
                go_simp <;> with_reducible rfl
              try simp only [Act.put, List.setIfInBounds_toArray, List.set_cons_zero, List.set_cons_succ]
              refine wpAnyH_take (i := 41) (oi := { dst := some 141, op := Op.load 3 (Operand.tmp 140), type := 3, pos := "outright.go:58", after := #[{ on := 40, ground := Ground.data }, { on := 34, ground := Ground.guard }], guard := some (34, true) }) (v := ?_) rfl (by kernel_rfl) (by kernel_rfl) (by kernel_rfl) (fun _ _ _ h => h) (Or.inl ⟨by rfl, ?_⟩) (by assumption) ?_
              rotate_left
              · intro w hSw
                try dsimp only at hSw
                go_simp <;> with_reducible rfl
              try simp only [Act.put, List.setIfInBounds_toArray, List.set_cons_zero, List.set_cons_succ]
              refine wpAnyH_take (i := 43) (oi := { dst := some 143, op := Op.move (Operand.tmp 11), type := 3, pos := "outright.go:58", after := #[{ on := 34, ground := Ground.guard }], guard := some (34, true) }) (v := ?_) rfl (by kernel_rfl) (by kernel_rfl) (by kernel_rfl) (fun _ _ _ h => h) (Or.inl ⟨by rfl, ?_⟩) (by assumption) ?_
              rotate_left
              · intro w hSw
                try dsimp only at hSw
                go_simp <;> with_reducible rfl
              try simp only [Act.put, List.setIfInBounds_toArray, List.set_cons_zero, List.set_cons_succ]
              refine wpAnyH_take (i := 44) (oi := { dst := some 144, op := Op.load 43 (Operand.tmp 4), type := 43, pos := "outright.go:58", after := #[{ on := 34, ground := Ground.guard }], guard := some (34, true) }) (v := ?_) rfl (by kernel_rfl) (by kernel_rfl) (by kernel_rfl) (fun _ _ _ h => h) (Or.inl ⟨by rfl, ?_⟩) (by assumption) ?_
              rotate_left
              · intro w hSw
                try dsimp only at hSw
                go_simp <;> with_reducible rfl
              try simp only [Act.put, List.setIfInBounds_toArray, List.set_cons_zero, List.set_cons_succ]
              refine wpAnyH_take (i := 45) (oi := { dst := some 145, op := Op.move (Operand.tmp 2), type := 3, pos := "outright.go:58", after := #[{ on := 34, ground := Ground.guard }], guard := some (34, true) }) (v := ?_) rfl (by kernel_rfl) (by kernel_rfl) (by kernel_rfl) (fun _ _ _ h => h) (Or.inl ⟨by rfl, ?_⟩) (by assumption) ?_
              rotate_left
              · intro w hSw
                try dsimp only at hSw
                go_simp <;> with_reducible rfl
              try simp only [Act.put, List.setIfInBounds_toArray, List.set_cons_zero, List.set_cons_succ]
              refine wpAnyH_ready (rs := [42]) (by kernel_rfl) (by simp) ?_
              refine AllReadyH.cons (o := { dst := some 142, op := Op.call { callee := Callee.value (Operand.func 27), args := #[Operand.tmp 135, Operand.tmp 136, Operand.tmp 141], argTypes := #[43, 3, 3] }, type := 3, pos := "outright.go:58", after := #[{ on := 35, ground := Ground.data }, { on := 36, ground := Ground.data }, { on := 41, ground := Ground.data }, { on := 34, ground := Ground.chain }, { on := 34, ground := Ground.guard }], guard := some (34, true) }) rfl (fun K hK => ?_) AllReadyH.nil
              go_simp
              refine (KU.out _ (by assumption)).mono ?_
              rintro e v2 ⟨rfl, qv2⟩
              try (go_wp2_with fail)
              refine hK.out _ _ ?_ (fun hHeld => ?_)
              · exact qv2
              clear hK K
              try simp only [Act.put, List.setIfInBounds_toArray, List.set_cons_zero, List.set_cons_succ]
              refine wpAnyH_ready (rs := [46]) (by kernel_rfl) (by simp) ?_
              refine AllReadyH.cons (o := { dst := some 146, op := Op.call { callee := Callee.value (Operand.func 35), args := #[Operand.tmp 144, Operand.tmp 145], argTypes := #[43, 3] }, type := 3, pos := "outright.go:58", after := #[{ on := 44, ground := Ground.data }, { on := 45, ground := Ground.data }, { on := 42, ground := Ground.chain }, { on := 34, ground := Ground.guard }], guard := some (34, true) }) rfl (fun K hK => ?_) AllReadyH.nil
              go_simp
              refine (KR.out _ (by assumption)).mono ?_
              rintro e v3 ⟨rfl, qv3⟩
              try (go_wp2_with fail)
              refine hK.out _ _ ?_ (fun hHeld => ?_)
              · exact qv3
              clear hK K
              try simp only [Act.put, List.setIfInBounds_toArray, List.set_cons_zero, List.set_cons_succ]
              refine wpAnyH_ready (rs := [47]) (by kernel_rfl) (by simp) ?_
              refine AllReadyH.cons (o := { dst := some 147, op := Op.call { callee := Callee.builtin Builtin.max, args := #[Operand.tmp 143, Operand.tmp 146], argTypes := #[3, 3] }, type := 3, pos := "outright.go:58", after := #[{ on := 43, ground := Ground.data }, { on := 46, ground := Ground.data }, { on := 34, ground := Ground.guard }], guard := some (34, true) }) rfl (fun K hK => ?_) AllReadyH.nil
              go_simp
              try (go_wp2_with fail)
              refine hK.out _ _ ?_ (fun hHeld => ?_)
              · exact qv3
              clear hK K
              try simp only [Act.put, List.setIfInBounds_toArray, List.set_cons_zero, List.set_cons_succ]
              refine wpAnyH_take (i := 48) (oi := { dst := some 148, op := Op.binOp BinOp.neq 3 (Operand.tmp 142) (Operand.tmp 147) 3, type := 4, pos := "outright.go:58", after := #[{ on := 42, ground := Ground.data }, { on := 47, ground := Ground.data }, { on := 34, ground := Ground.guard }], guard := some (34, true) }) (v := ?_) rfl (by kernel_rfl) (by kernel_rfl) (by kernel_rfl) (fun _ _ _ h => h) (Or.inl ⟨by rfl, ?_⟩) (by assumption) ?_
              rotate_left
              · intro w hSw
                try dsimp only at hSw
                go_simp <;> with_reducible rfl
              try simp only [Act.put, List.setIfInBounds_toArray, List.set_cons_zero, List.set_cons_succ]
              refine wpAnyH_take (i := 49) (oi := { dst := some 149, op := Op.pick (Operand.tmp 134) (Operand.tmp 148) (Operand.const (Value.bool false)), type := 4, pos := "outright.go:58", after := #[{ on := 34, ground := Ground.data }, { on := 48, ground := Ground.data }], guard := none }) (v := ?_) rfl (by kernel_rfl) (by kernel_rfl) (by kernel_rfl) (fun _ _ _ h => h) (Or.inl ⟨by rfl, ?_⟩) (by assumption) ?_
              rotate_left
              · intro w hSw
                try dsimp only at hSw
                go_simp <;> with_reducible rfl
              try simp only [Act.put, List.setIfInBounds_toArray, List.set_cons_zero, List.set_cons_succ]
              refine wpAnyH_done (by kernel_rfl) ?_ _
              have B4 := Lib.hid (show Below wr.heap.size wr _ by assumption)
              go_wp2
              go_meet
              exact HFin.out _ B4.out
          · have ge : (z == yy + an) = false := by simpa using hze
            clear n1 n4 hze
            as_aux_lemma =>
            go_wp2_with fail
            go_quiet (fail)
            go_wp2
            go_meet
            exact HFin.out _ (below_drew B3.out _)
        have e1 : (r == 1) = false := by simpa using r1
        by_cases r2 : r = 2
        · have e2 : (r == 2) = true := by simpa using r2
          have K1 : Hid (∀ V, Below wr.heap.size wr V → Calls Try.prog 29 #[areaV W H T B, .int .i64 xx, .int .i64 an] V fun e w' => e = .returned (.int .i64 (leftV W xx an)) ∧ Below wr.heap.size wr w') := Lib.hid fun V hV => (HLe.out V xx an XI.out GN.out).mono fun e w' ⟨he, hb⟩ => ⟨he, hV.trans (hb.mono hV.size)⟩
          have P := Lib.hid (left_in (W := W) (x := xx) (n := an) hW1 HI.out.1 HI.out.2.1)
          generalize leftV W xx an = z at *
          clear r0 r1 r2
          clear HUp HDo HLe HAh HUr HTo
          as_aux_lemma =>
          go_wp2_with fail
          go_region_held3 (fun V => Below wr.heap.size wr V) (assumption)
            ((go_at_call 29; (with_reducible refine (K1.out _ (by assumption)).mono ?_); rintro e v1 ⟨rfl, qv1⟩))
          all_goals
            have B3 := Lib.hid (show Below wr.heap.size wr _ by assumption)
          go_wp2
          go_meet
          exact ⟨z, yy, inn, rfl, rfl, rfl, ⟨P.out.1, P.out.2, HI.out.2.2.1, HI.out.2.2.2⟩, HInv.out, HBw.out.trans (B3.out.mono HBw.out.size)⟩
        have e2 : (r == 2) = false := by simpa using r2
        by_cases r3 : r = 3
        · have e3 : (r == 3) = true := by simpa using r3
          have K1 : Hid (∀ V, Below wr.heap.size wr V → Calls Try.prog 30 #[areaV W H T B, .int .i64 xx, .int .i64 an] V fun e w' => e = .returned (.int .i64 (aheadV W xx an)) ∧ Below wr.heap.size wr w') := Lib.hid fun V hV => (HAh.out V xx an XI.out GN.out).mono fun e w' ⟨he, hb⟩ => ⟨he, hV.trans (hb.mono hV.size)⟩
          have P := Lib.hid (ahead_in (W := W) (x := xx) (n := an) hW1 HI.out.1 HI.out.2.1)
          generalize aheadV W xx an = z at *
          clear r0 r1 r2 r3
          clear HUp HDo HLe HAh HUr HTo
          as_aux_lemma =>
          go_wp2_with fail
          go_region_held3 (fun V => Below wr.heap.size wr V) (assumption)
            ((go_at_call 30; (with_reducible refine (K1.out _ (by assumption)).mono ?_); rintro e v1 ⟨rfl, qv1⟩))
          all_goals
            have B3 := Lib.hid (show Below wr.heap.size wr _ by assumption)
          go_wp2
          go_meet
          exact ⟨z, yy, inn, rfl, rfl, rfl, ⟨P.out.1, P.out.2, HI.out.2.2.1, HI.out.2.2.2⟩, HInv.out, HBw.out.trans (B3.out.mono HBw.out.size)⟩
        · have e3 : (r == 3) = false := by simpa using r3
          obtain ⟨ev, hev⟩ : ∃ ev : Bool, (an.tmod 2 == 0) = ev := ⟨_, rfl⟩
          have P := Lib.hid (to_in ev ax an HM.out)
          have K1 : Hid (∀ V, Below wr.heap.size wr V → Calls Try.prog 26 #[areaV W H T B, .bool ev, .int .i64 ax, .int .i64 an] V fun e w' => e = .returned (.tuple #[.int .i64 (toxV W ax), .int .i64 (toyV H T B ev an)]) ∧ Below wr.heap.size wr w') := Lib.hid fun V hV => (HTo.out V ev ax an GX.out GN.out).mono fun e w' ⟨he, hb⟩ => ⟨he, hV.trans (hb.mono hV.size)⟩
          generalize toxV W ax = zx at *
          generalize toyV H T B ev an = zy at *
          have hev2 : (an % 2 == 0) = ev := by rw [← hev, Bool.eq_iff_iff, beq_iff_eq, beq_iff_eq]; exact ⟨fun h => Int.tmod_eq_zero_of_dvd (Int.dvd_of_emod_eq_zero h), fun h => Int.emod_eq_zero_of_dvd (Int.dvd_of_tmod_eq_zero h)⟩
          clear r0 r1 r2 r3
          clear HUp HDo HLe HAh HUr HTo
          as_aux_lemma =>
          go_wp2_with fail
          go_region_held3 (fun V => Below wr.heap.size wr V) (assumption)
            ((go_at_call 26; (with_reducible refine (K1.out _ (by assumption)).mono ?_); rintro e v1 ⟨rfl, qv1⟩))
          all_goals
            have B3 := Lib.hid (show Below wr.heap.size wr _ by assumption)
          have k2 := k2 _ B3.out
          go_wp2
          go_meet
          exact ⟨zx, zy, ev, rfl, rfl, rfl, P.out.1, P.out.2, HBw.out.trans (B3.out.mono HBw.out.size)⟩
      case rest =>
        obtain ⟨x2, y2, in2, rfl, rfl, rfl, ⟨b1, b2, b3, b4⟩, HC2, HB2⟩ := hcut
        have HB3 := Lib.hid HB2
        have HC3 := Lib.hid HC2
        have HI2 : Hid (InA W H x2 y2) := Lib.hid ⟨b1, b2, b3, b4⟩
        have HAr := HQ.out _ HB2
        have c0 := cell_of HAr 0
        have c1 := cell_of HAr 1
        have c2 := cell_of HAr 2
        have c3 := cell_of HAr 3
        have f1 : decide (x2 < 0) = false := by simp; omega
        have f2 : decide (x2 ≥ W) = false := by simp; omega
        have f3 : decide (y2 < 0) = false := by simp; omega
        have f4 : decide (y2 ≥ H) = false := by simp; omega
        clear HAr HB2 HC2 b1 b2 b3 b4 er hr hrd q0 q1 q2 gd gx gn HInn
        cases in2
        · as_aux_lemma =>
          go_wp2
          go_roundw
          case rel => exact ⟨k + 1, x2, y2, by omega, by go_num, rfl, rfl, HI2, HB3⟩
          case measure => simp [RowKit.intOf]; omega
        · have f5 : decide (y2 < T) = false := by have := (HC3.out rfl).1; simp; omega
          have f6 : decide (y2 > B) = false := by have := (HC3.out rfl).2; simp; omega
          as_aux_lemma =>
          go_wp2
          go_roundw
          case rel => exact ⟨k + 1, x2, y2, by omega, by go_num, rfl, rfl, HI2, HB3⟩
          case measure => simp [RowKit.intOf]; omega
    · have glk : decide ((k : Int) < (len : Int)) = false := by simp; omega
      have K9 := Lib.hid (HWk.out wr)
      go_wp2_with fail
      refine (show Calls _ _ _ _ _ from K9.out).mono ?_
      rintro e w9 ⟨rfl, hb9⟩
      have B9 : Hid (Below w.heap.size w w9) := Lib.hid (HB.out.trans ((HBw.out.trans (hb9.mono HBw.out.size)).mono HB.out.size))
      clear K9 hb9
      go_wp2
      go_ret
      exact ⟨rfl, B9.out⟩
end Go.Proofs.Ytfkiihddcinckaa.Tb
