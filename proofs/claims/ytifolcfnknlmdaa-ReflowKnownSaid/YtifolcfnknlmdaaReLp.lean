/- Layer 15: ReflowPlaces' walk. -/
import Derived.Test.YtifolcfnknlmdaaReY
import Derived.Test.YtifolcfnknlmdaaReK
set_option linter.unusedVariables false
namespace Go.Proofs.Ytifolcfnknlmdaa.Re
open Go.RowKit Go.Proofs.Ytifolcfnknlmdaa.Rw

theorem small_sum {l : List LnC} (h : smallB l = true) : l.length ≤ 60 ∧ sumV l ≤ 3600 := ⟨((small_iff l).1 h).1, (lines_small 2 (by decide) (by decide) l h).2.2⟩
set_option maxRecDepth 100000 in
set_option maxHeartbeats 2000000 in
theorem places_law {F : Nat → Prop} {v : Value} {l : List LnC} {w : World} (h : LinesAt F w v l) (W x y : Int) (hW : IntIn W) (hx : IntIn x) (hy : IntIn y) : Calls Try.prog 5 #[v, .int .i64 W, .int .i64 x, .int .i64 y] w fun e w' => e = .returned (.bool true) ∧ Below w.heap.size w w' := by
  have KG := Lib.hid (great_any h)
  have HH := Lib.hid h
  clear h
  cases hs : smallB l with
  | false =>
    rw [hs] at KG
    clear hs
    go_enter Try.func5, Try.ntmps5
    go_wp2_with fail
    refine (show Calls _ _ _ _ _ from KG.out).mono ?_
    rintro e w1 ⟨rfl, b1⟩
    have HB1 := Lib.hid b1
    have KW := Lib.hid (wakes_any w1)
    clear b1 KG
    go_wp2_with fail
    refine (show Calls _ _ _ _ _ from KW.out).mono ?_
    rintro e w2 ⟨rfl, b2⟩
    have HB2 := Lib.hid (HB1.out.trans (b2.mono HB1.out.size))
    clear b2 KW HB1
    go_wp2
    go_ret
    exact ⟨rfl, HB2.out⟩
  | true =>
    have hsm := small_sum hs
    have hl : l.length ≤ 100000 := by omega
    have hsv : sumV l ≤ 100000 := by omega
    rw [hs] at KG
    have HSm := Lib.hid (And.intro hl hsv)
    clear hs hsm hl hsv
    go_enter Try.func5, Try.ntmps5
    go_wp2_with fail
    refine (show Calls _ _ _ _ _ from KG.out).mono ?_
    rintro e w1 ⟨rfl, b1⟩
    have K1 := Lib.hid (pplace_any (HH.out.below b1) HSm.out.1 HSm.out.2 W x y hW hx hy)
    have HB1 := Lib.hid b1
    have KD : Hid (∀ (V : World) (G : Nat → Prop) (u : Value), LinesAt G V u l → Calls Try.prog 16 #[u, .int .i64 W, .int .i64 x, .int .i64 y] V fun e w' => e = .returned (.tuple #[.int .i64 ((placeI l W x y).1 : Int), .int .i64 ((placeI l W x y).2 : Int)]) ∧ Below V.heap.size V w') := Lib.hid fun V G u hu => place_any hu HSm.out.1 HSm.out.2 W x y hx.2
    generalize (placeI l W x y).1 = px at *
    generalize (placeI l W x y).2 = py at *
    clear b1 KG hW hx hy
    go_wp2_with fail
    refine (show Calls _ _ _ _ _ from K1.out).mono ?_
    rintro e w2 ⟨rfl, b2⟩
    have HB2 := Lib.hid (HB1.out.trans (b2.mono HB1.out.size))
    clear b2 K1 HB1
    have K2 := Lib.hid (given_any (HH.out.below HB2.out) (Nat.le_trans HSm.out.1 (by decide)))
    go_wp2_with fail
    refine (show Calls _ _ _ _ _ from K2.out).mono ?_
    rintro e w3 ⟨u, rfl, hu, b3⟩
    have HB3 := Lib.hid (HB2.out.trans (b3.mono HB2.out.size))
    have K3 := Lib.hid (KD.out w3 _ u hu)
    clear b3 hu K2 HB2 KD
    go_wp2_with fail
    refine (show Calls _ _ _ _ _ from K3.out).mono ?_
    rintro e w4 ⟨rfl, b4⟩
    have HB4 := Lib.hid (HB3.out.trans (b4.mono HB3.out.size))
    have KW := Lib.hid (wakes_any w4)
    clear b4 K3 HB3
    go_wp2_with fail
    refine (show Calls _ _ _ _ _ from KW.out).mono ?_
    rintro e w5 ⟨rfl, b5⟩
    have HB5 := Lib.hid (HB4.out.trans (b5.mono HB4.out.size))
    clear b5 KW HB4
    go_wp2
    go_ret
    exact ⟨rfl, HB5.out⟩
theorem placesW (v : Value) (l : List LnC) (W x y : Int) (w : World) (h : LinesAt (fun b => b < w.heap.size) w v l) (hW : IntIn W) (hx : IntIn x) (hy : IntIn y) : Calls Try.prog 5 #[v, .int .i64 W, .int .i64 x, .int .i64 y] w fun e w' => e = .returned (.bool true) ∧ Below w.heap.size w w' := places_law h W x y hW hx hy
end Go.Proofs.Ytifolcfnknlmdaa.Re
