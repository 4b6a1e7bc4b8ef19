/- Layer 11: the chapter's first examples (wakes); Great. -/
import Derived.Test.YthpnmhllgjibgaaRwP
set_option linter.unusedVariables false
namespace Go.Proofs.Ythpnmhllgjibgaa.Rw
open Go.RowKit

/-- of, from call to call. -/
theorem of_at {W : World} (V : World) (hV : Below W.heap.size W V) (s : ByteArray) (rs : List Nat) (hs : stepsB s 0 rs = true) (hl : rs.length ≤ 1000) : Calls Try.prog 22 #[.string s] V fun e w' => ∃ v, e = .returned v ∧ Lies w' v (ofV rs) ∧ Below W.heap.size W w' :=
  (of_any s rs (steps_of hs) hl V).mono fun _ _ ⟨v, he, ho, hb⟩ => ⟨v, he, own_lies ho, hV.trans (hb.mono hV.size)⟩
theorem same_at {W : World} (V : World) (hV : Below W.heap.size W V) {u1 u2 : Value} {l1 l2 : List Ce} (h1 : Lies V u1 l1) (h2 : Lies V u2 l2) (hl : l1.length ≤ 100000) (b : Bool) (hb : decide (l1 = l2) = b) : Calls Try.prog 10 #[u1, u2] V fun e w' => e = .returned (.bool b) ∧ Below W.heap.size W w' := by
  subst hb
  exact (same_lies u1 u2 l1 l2 V h1 h2 hl).mono fun _ _ ⟨he, hb⟩ => ⟨he, hV.trans (hb.mono hV.size)⟩
def wkL : List Ce := ofV [97, 19968, 98]
theorem wk_wri : wriV wkL 2 120 false zeroAa = ofV [97, 32, 120, 98] := by decide +kernel
theorem wk_fit : fitsV wkL.length 2 false = true := by decide +kernel
theorem wk_ins : insV wkL 2 1 zeroAa = ofV [97, 32, 32, 32] := by decide +kernel
theorem wk_del : delV wkL 2 1 zeroAa = ofV [97, 32, 98, 32] := by decide +kernel
theorem wk_who : wholeB wkL = true := by decide +kernel
theorem wk_txt : textV wkL = ⟨#[97, 228, 184, 128, 98]⟩ := by decide +kernel
theorem wk_len : wkL.length = 4 := by decide +kernel

set_option maxRecDepth 100000 in
set_option maxHeartbeats 4000000 in
theorem wakes_any (w : World) : Calls Try.prog 9 #[] w fun e w' => e = .returned (.bool true) ∧ Below w.heap.size w w' := by
  have H1 := Lib.hid (of_at (W := w) w (Below.refl _ _) ⟨#[97, 228, 184, 128, 98]⟩ [97, 19968, 98] (by decide +kernel) (by decide))
  go_enter Try.func9, Try.ntmps9
  go_wp2_with fail
  refine (show Calls _ _ _ _ _ from H1.out).mono ?_
  rintro e w1 ⟨v1, rfl, hl1, b1⟩
  have L1 : Hid (∀ V, Below w1.heap.size w1 V → Lies V v1 wkL) := Lib.hid fun V hV => hl1.below hV
  have B1 := Lib.hid b1
  have HW : Hid (Calls Try.prog 14 #[v1, .int .i64 2, .int .i32 120, .bool false, attrV zeroAa] w1 (PutPost w1 (ofV [97, 32, 120, 98]) true)) := Lib.hid (by
    have := pwri_any v1 wkL 2 120 false zeroAa w1 hl1 (by rw [wk_len]; decide)
    rwa [wk_wri, wk_fit] at this)
  clear hl1 b1 H1
  go_wp2_with fail
  refine (show Calls _ _ _ _ _ from HW.out).mono ?_
  rintro e w2 ⟨v2, rfl, ho2, b2⟩
  have L2 : Hid (∀ V, Below w2.heap.size w2 V → Lies V v2 (ofV [97, 32, 120, 98])) := Lib.hid fun V hV => (own_lies ho2).below hV
  have B2 := Lib.hid (B1.out.trans (b2.mono B1.out.size))
  have D2 := Lib.hid b2
  have HI : Hid (Calls Try.prog 15 #[v1, .int .i64 2, .int .i64 1, attrV zeroAa] w2 (RowPost w2 (ofV [97, 32, 32, 32]))) := Lib.hid (by
    have := pins_any v1 wkL 2 1 zeroAa w2 (L1.out w2 b2) (by rw [wk_len]; decide) (by unfold IntIn; decide)
    rwa [wk_ins] at this)
  clear ho2 b2 HW
  go_wp2_with fail
  refine (show Calls _ _ _ _ _ from HI.out).mono ?_
  rintro e w3 ⟨v3, rfl, ho3, b3⟩
  have L3 : Hid (∀ V, Below w3.heap.size w3 V → Lies V v3 (ofV [97, 32, 32, 32])) := Lib.hid fun V hV => (own_lies ho3).below hV
  have B3 := Lib.hid (B2.out.trans (b3.mono B2.out.size))
  have D3 := Lib.hid b3
  have HD : Hid (Calls Try.prog 16 #[v1, .int .i64 2, .int .i64 1, attrV zeroAa] w3 (RowPost w3 (ofV [97, 32, 98, 32]))) := Lib.hid (by
    have := pdel_any v1 wkL 2 1 zeroAa w3 (L1.out w3 (D2.out.trans (b3.mono D2.out.size))) (by rw [wk_len]; decide) (by unfold IntIn; decide)
    rwa [wk_del] at this)
  clear ho3 b3 HI
  go_wp2_with fail
  refine (show Calls _ _ _ _ _ from HD.out).mono ?_
  rintro e w4 ⟨v4, rfl, ho4, b4⟩
  have L4 : Hid (∀ V, Below w4.heap.size w4 V → Lies V v4 (ofV [97, 32, 98, 32])) := Lib.hid fun V hV => (own_lies ho4).below hV
  have B4 := Lib.hid (B3.out.trans (b4.mono B3.out.size))
  have D4 := Lib.hid b4
  have D34 := Lib.hid (D3.out.trans (b4.mono D3.out.size))
  have D24 := Lib.hid (D2.out.trans (D34.out.mono D2.out.size))
  clear ho4 b4 HD
  have J0 : Hid (Below w4.heap.size w4 w4) := Lib.hid (Below.refl _ _)
  have M1 : Hid (∀ V, Below w4.heap.size w4 V → Lies V v1 wkL) := Lib.hid fun V hV => L1.out V (D24.out.trans (hV.mono D24.out.size))
  have M2 : Hid (∀ V, Below w4.heap.size w4 V → Lies V v2 (ofV [97, 32, 120, 98])) := Lib.hid fun V hV => L2.out V (D34.out.trans (hV.mono D34.out.size))
  have M3 : Hid (∀ V, Below w4.heap.size w4 V → Lies V v3 (ofV [97, 32, 32, 32])) := Lib.hid fun V hV => L3.out V (D4.out.trans (hV.mono D4.out.size))
  go_wp2_with fail
  refine (of_at (W := w4) w4 J0.out ⟨#[97, 32, 120, 98]⟩ [97, 32, 120, 98] (by decide +kernel) (by decide)).mono ?_
  rintro e y1 ⟨u1, rfl, lu1, j1⟩
  have J1 := Lib.hid j1
  have N1 := Lib.hid lu1
  clear j1 lu1
  go_wp2_with fail
  refine (same_at y1 J1.out (M2.out _ J1.out) N1.out (by decide +kernel) true (by decide +kernel)).mono ?_
  rintro e y2 ⟨rfl, j2⟩
  have J2 := Lib.hid j2
  clear j2
  go_wp2_with fail
  refine (of_at (W := w4) y2 J2.out ⟨#[97, 32, 32, 32]⟩ [97, 32, 32, 32] (by decide +kernel) (by decide)).mono ?_
  rintro e y3 ⟨u3, rfl, lu3, j3⟩
  have J3 := Lib.hid j3
  have N3 := Lib.hid lu3
  clear j3 lu3
  go_wp2_with fail
  refine (same_at y3 J3.out (M3.out _ J3.out) N3.out (by decide +kernel) true (by decide +kernel)).mono ?_
  rintro e y4 ⟨rfl, j4⟩
  have J4 := Lib.hid j4
  clear j4
  go_wp2_with fail
  refine (of_at (W := w4) y4 J4.out ⟨#[97, 32, 98, 32]⟩ [97, 32, 98, 32] (by decide +kernel) (by decide)).mono ?_
  rintro e y5 ⟨u5, rfl, lu5, j5⟩
  have J5 := Lib.hid j5
  have N5 := Lib.hid lu5
  clear j5 lu5
  go_wp2_with fail
  refine (same_at y5 J5.out (L4.out _ J5.out) N5.out (by decide +kernel) true (by decide +kernel)).mono ?_
  rintro e y6 ⟨rfl, j6⟩
  have J6 := Lib.hid j6
  clear j6
  have HWh : Hid (Calls Try.prog 12 #[v1] y6 fun e w' => e = .returned (.bool true) ∧ Below y6.heap.size y6 w') := Lib.hid (by
    have := pwhole_any v1 wkL y6 (M1.out _ J6.out) (by rw [wk_len]; decide)
    rwa [wk_who] at this)
  go_wp2_with fail
  refine (show Calls _ _ _ _ _ from HWh.out).mono ?_
  rintro e y7 ⟨rfl, j7⟩
  have J7 := Lib.hid (J6.out.trans (j7.mono J6.out.size))
  clear j7 HWh
  have HTx : Hid (Calls Try.prog 13 #[v1] y7 fun e w' => e = .returned (.string ⟨#[97, 228, 184, 128, 98]⟩) ∧ Below y7.heap.size y7 w') := Lib.hid (by
    have := ptext_any v1 wkL y7 (M1.out _ J7.out) (by rw [wk_len]; decide) (by decide +kernel)
    rwa [wk_txt] at this)
  go_wp2_with fail
  refine (show Calls _ _ _ _ _ from HTx.out).mono ?_
  rintro e y8 ⟨rfl, j8⟩
  have J8 := Lib.hid (J7.out.trans (j8.mono J7.out.size))
  clear j8 HTx
  have HBl := Lib.hid (pblank_any 3 zeroAa y8)
  go_wp2_with fail
  refine (show Calls _ _ _ _ _ from HBl.out).mono ?_
  rintro e y9 ⟨v9, rfl, ho9, j9⟩
  obtain ⟨A9, c9, rfl, _⟩ := own_lies ho9
  have J9 := Lib.hid (J8.out.trans (j9.mono J8.out.size))
  have hl9 : (blankV 3 zeroAa).length = 3 := rfl
  rw [hl9]
  clear j9 HBl ho9 hl9
  go_wp2
  go_ret
  exact ⟨rfl, B4.out.trans (J9.out.mono B4.out.size)⟩
theorem great_any (u : Value) (l : List Ce) (w : World) (h : Lies w u l) (hl : l.length ≤ 9223372036854775807) : Calls Try.prog 20 #[u] w fun e w' => e = .returned (.bool (decide (500 < l.length))) ∧ w' = w := by
  obtain ⟨A, c, rfl, _⟩ := h
  have g : decide ((l.length : Int) > 500) = decide (500 < l.length) := by
    by_cases e : 500 < l.length
    · rw [decide_eq_true e]; simp; omega
    · rw [decide_eq_false e]; simp; omega
  go_enter Try.func20, Try.ntmps20
  go_wp2
  go_ret
  exact ⟨rfl, rfl⟩
end Go.Proofs.Ythpnmhllgjibgaa.Rw
