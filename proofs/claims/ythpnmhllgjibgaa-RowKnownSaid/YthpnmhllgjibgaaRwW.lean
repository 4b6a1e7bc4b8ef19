/- Layer 11: RowKnown. -/
import Derived.Test.YthpnmhllgjibgaaRwK
import Derived.Deep.Cut
import Derived.Deep.DeepCutAuto
set_option linter.unusedVariables false
namespace Go.Proofs.Ythpnmhllgjibgaa.Rw
open Go.RowKit

/-! The program's calls from call to call. -/
section
variable {W : World} (V : World) (hV : Below W.heap.size W V) {u : Value} {l : List Ce} (h : Lies V u l) (hl : l.length ≤ 100000)
include hV h hl
theorem ins_at (x n : Int) (l2 : List Ce) (hn : IntIn n) (he : insV l x n zeroAa = l2) : Calls Try.prog 15 #[u, .int .i64 x, .int .i64 n, attrV zeroAa] V fun e w' => ∃ v, e = .returned v ∧ Lies w' v l2 ∧ Below W.heap.size W w' := by
  subst he
  exact (pins_any u l x n zeroAa V h hl hn).mono fun _ _ ⟨v, e, ho, hb⟩ => ⟨v, e, own_lies ho, hV.trans (hb.mono hV.size)⟩
theorem del_at (x n : Int) (l2 : List Ce) (hn : IntIn n) (he : delV l x n zeroAa = l2) : Calls Try.prog 16 #[u, .int .i64 x, .int .i64 n, attrV zeroAa] V fun e w' => ∃ v, e = .returned v ∧ Lies w' v l2 ∧ Below W.heap.size W w' := by
  subst he
  exact (pdel_any u l x n zeroAa V h hl hn).mono fun _ _ ⟨v, e, ho, hb⟩ => ⟨v, e, own_lies ho, hV.trans (hb.mono hV.size)⟩
theorem era_at (x n : Int) (l2 : List Ce) (hn : IntIn n) (he : eraV l x n zeroAa = l2) : Calls Try.prog 17 #[u, .int .i64 x, .int .i64 n, attrV zeroAa] V fun e w' => ∃ v, e = .returned v ∧ Lies w' v l2 ∧ Below W.heap.size W w' := by
  subst he
  exact (pera_any u l x n zeroAa V h hl hn).mono fun _ _ ⟨v, e, ho, hb⟩ => ⟨v, e, own_lies ho, hV.trans (hb.mono hV.size)⟩
theorem res_at (x : Int) (l2 : List Ce) (he : resV l x zeroAa = l2) : Calls Try.prog 18 #[u, .int .i64 x, attrV zeroAa] V fun e w' => ∃ v, e = .returned v ∧ Lies w' v l2 ∧ Below W.heap.size W w' := by
  subst he
  exact (pres_any u l x zeroAa V h hl).mono fun _ _ ⟨v, e, ho, hb⟩ => ⟨v, e, own_lies ho, hV.trans (hb.mono hV.size)⟩
theorem wri_at (x r : Int) (wide ok : Bool) (l2 : List Ce) (he : wriV l x r wide zeroAa = l2) (hf : fitsV l.length x wide = ok) : Calls Try.prog 14 #[u, .int .i64 x, .int .i32 r, .bool wide, attrV zeroAa] V fun e w' => ∃ v, e = .returned (.tuple #[v, .bool ok]) ∧ Lies w' v (if ok then l2 else []) ∧ Below W.heap.size W w' := by
  subst he hf
  exact (pwri_any u l x r wide zeroAa V h hl).mono fun _ _ ⟨v, e, ho, hb⟩ => ⟨v, e, own_lies ho, hV.trans (hb.mono hV.size)⟩
theorem who_at (b : Bool) (he : wholeB l = b) : Calls Try.prog 12 #[u] V fun e w' => e = .returned (.bool b) ∧ Below W.heap.size W w' := by
  subst he
  exact (pwhole_any u l V h hl).mono fun _ _ ⟨e, hb⟩ => ⟨e, hV.trans (hb.mono hV.size)⟩
theorem txt_at (b : ByteArray) (he : textV l = b) (hr : runesB l = true) : Calls Try.prog 13 #[u] V fun e w' => e = .returned (.string b) ∧ Below W.heap.size W w' := by
  subst he
  exact (ptext_any u l V h hl hr).mono fun _ _ ⟨e, hb⟩ => ⟨e, hV.trans (hb.mono hV.size)⟩
end

/-! Literals. -/
theorem lit_row (w : World) (l : List Ce) : RowR (w.alloc (.cells (flatC l).toArray 44 (0, 0))) (w.alloc (.cells (flatC l).toArray 44 (0, 0))).heap.size (some ⟨w.heap.size, 0, none⟩) l := fun _ => by
  refine ⟨w.heap.size, 0, rfl, by simp, fun i hi j u hj => ?_⟩
  have hj7 : j < 7 := by
    have := (List.getElem?_eq_some_iff.1 hj).1
    rwa [cells_len] at this
  rw [cell_of (heap_alloc_new w _), Nat.zero_add]
  have := flat_get l i hi j hj7
  rw [hj] at this
  simpa using this
theorem lit_lies (w : World) (l : List Ce) (hl : l.length ≤ 1000) : Lies (w.alloc (.cells (flatC l).toArray 44 (0, 0))) (.slice (some ⟨w.heap.size, 0, none⟩) l.length l.length) l :=
  ⟨_, l.length, rfl, fun e => (by cases e), ⟨Nat.le_refl _, by omega⟩, lit_row w l⟩
abbrev wideC (k : Nat) : Ce := ⟨0, k, zeroAa⟩
abbrev runeC (r : Int) : Ce := ⟨r, 0, zeroAa⟩
abbrev badL : List Ce := [wideC 2, wideC 1, wideC 3]
abbrev midL : List Ce := [wideC 1, wideC 1, wideC 2, wideC 2]
abbrev lowL : List Ce := [runeC (-1), runeC 55296]
abbrev litO (cs : Array Value) : Obj := .cells cs 44 (0, 0)
theorem bad_row (w : World) : RowR (w.alloc (litO #[.int .i32 0, .int .u8 2, .int .u16 0, .int .u8 0, .int .u32 0, .int .u8 0, .int .u32 0, .int .i32 0, .int .u8 1, .int .u16 0, .int .u8 0, .int .u32 0, .int .u8 0, .int .u32 0, .int .i32 0, .int .u8 3, .int .u16 0, .int .u8 0, .int .u32 0, .int .u8 0, .int .u32 0])) (w.alloc (litO #[.int .i32 0, .int .u8 2, .int .u16 0, .int .u8 0, .int .u32 0, .int .u8 0, .int .u32 0, .int .i32 0, .int .u8 1, .int .u16 0, .int .u8 0, .int .u32 0, .int .u8 0, .int .u32 0, .int .i32 0, .int .u8 3, .int .u16 0, .int .u8 0, .int .u32 0, .int .u8 0, .int .u32 0])).heap.size (some ⟨w.heap.size, 0, none⟩) badL := lit_row w badL
theorem mid_lies (w : World) : Lies (w.alloc (litO #[.int .i32 0, .int .u8 1, .int .u16 0, .int .u8 0, .int .u32 0, .int .u8 0, .int .u32 0, .int .i32 0, .int .u8 1, .int .u16 0, .int .u8 0, .int .u32 0, .int .u8 0, .int .u32 0, .int .i32 0, .int .u8 2, .int .u16 0, .int .u8 0, .int .u32 0, .int .u8 0, .int .u32 0, .int .i32 0, .int .u8 2, .int .u16 0, .int .u8 0, .int .u32 0, .int .u8 0, .int .u32 0])) (.slice (some ⟨w.heap.size, 0, none⟩) 4 4) midL := lit_lies w midL (by decide)
theorem low_lies (w : World) : Lies (w.alloc (litO #[.int .i32 (-1), .int .u8 0, .int .u16 0, .int .u8 0, .int .u32 0, .int .u8 0, .int .u32 0, .int .i32 55296, .int .u8 0, .int .u16 0, .int .u8 0, .int .u32 0, .int .u8 0, .int .u32 0])) (.slice (some ⟨w.heap.size, 0, none⟩) 2 2) lowL := lit_lies w lowL (by decide)
theorem bad_cut {w : World} {b : Nat} (hR : RowR w w.heap.size (some ⟨b, 0, none⟩) badL) : Lies w (.slice (some ⟨b, 0, none⟩) 1 3) [wideC 2] ∧ Lies w (.slice (some ⟨b, 7, none⟩) 1 2) [wideC 1] ∧ Lies w (.slice (some ⟨b, 14, none⟩) 1 1) [wideC 3] :=
  ⟨Lies.cut (x := 0) (y := 1) (c := 3) hR (by decide) (by decide) (by decide) (by decide) (Or.inl rfl) rfl rfl, Lies.cut (x := 1) (y := 2) (c := 3) hR (by decide) (by decide) (by decide) (by decide) (Or.inl rfl) rfl rfl, Lies.cut (x := 2) (y := 3) (c := 3) hR (by decide) (by decide) (by decide) (by decide) (Or.inl rfl) rfl rfl⟩

set_option maxRecDepth 100000 in
set_option maxHeartbeats 4000000 in
theorem known_any (w : World) : Calls Try.prog 7 #[] w fun e w' => e = .returned (.bool true) ∧ Below w.heap.size w w' := by
  have H1 := Lib.hid (of_at (W := w) w (Below.refl _ _) ⟨#[97, 228, 184, 128, 98]⟩ [97, 19968, 98] (by decide +kernel) (by decide))
  go_enter Try.func7, Try.ntmps7
  go_wp2_with fail
  refine (show Calls _ _ _ _ _ from H1.out).mono ?_
  rintro e w1 ⟨v1, rfl, hl1, b1⟩
  obtain ⟨W0, hW0, hB0, _, hat⟩ := box_at w1 zeroAa
  have L1 : Hid (∀ V, Below W0.heap.size W0 V → Lies V v1 wkL) := Lib.hid fun V hV => hl1.below (hB0.trans (hV.mono hB0.size))
  have B0 := Lib.hid (b1.trans (hB0.mono b1.size))
  obtain ⟨pn, hpn⟩ : ∃ pn, pn = w1.heap.size := ⟨_, rfl⟩
  rw [← hpn] at hat
  have HAt := Lib.hid hat
  have HW0 := Lib.hid hW0
  have HPn := Lib.hid hpn
  clear hl1 b1 H1 hW0 hB0 hat hpn
  go_upto_region 4 with fail
  change Code.wp _ _ _ _ (w1.alloc (attrO zeroAa))
  rw [← HW0.out, ← HPn.out]
  clear HW0 HPn
  have b0 : Below W0.heap.size W0 W0 := Below.refl _ _
  have hat := HAt.out W0 b0
  have d0 := cell_of hat 0
  have d1 := cell_of hat 1
  have d2 := cell_of hat 2
  have d3 := cell_of hat 3
  have d4 := cell_of hat 4
  clear hat
  have J := Lib.hid b0
  clear b0
  have Iv1 := Lib.hid (L1.out W0 J.out)
  clear L1
  go_wp2_with fail
  refine (wri_at W0 (Below.refl _ _) Iv1.out (by decide +kernel) 2 120 false true (ofV [97, 32, 120, 98]) (by first | rfl | decide +kernel) (by decide +kernel)).mono ?_
  rintro e W1 ⟨x0, rfl, hx0, b⟩
  have J := Lib.hid (J.out.trans (b.mono J.out.size))
  have Iv1 := Lib.hid (Iv1.out.below b)
  have Ix0 := Lib.hid hx0
  clear b hx0 d0 d1 d2 d3 d4
  have hat := HAt.out W1 J.out
  have d0 := cell_of hat 0
  have d1 := cell_of hat 1
  have d2 := cell_of hat 2
  have d3 := cell_of hat 3
  have d4 := cell_of hat 4
  clear hat
  go_wp2_with fail
  refine (wri_at W1 (Below.refl _ _) Iv1.out (by decide +kernel) 0 19969 true true (ofV [19969, 32, 98]) (by first | rfl | decide +kernel) (by decide +kernel)).mono ?_
  rintro e W2 ⟨x1, rfl, hx1, b⟩
  have J := Lib.hid (J.out.trans (b.mono J.out.size))
  have Iv1 := Lib.hid (Iv1.out.below b)
  have Ix0 := Lib.hid (Ix0.out.below b)
  have Ix1 := Lib.hid hx1
  clear b hx1 d0 d1 d2 d3 d4
  have hat := HAt.out W2 J.out
  have d0 := cell_of hat 0
  have d1 := cell_of hat 1
  have d2 := cell_of hat 2
  have d3 := cell_of hat 3
  have d4 := cell_of hat 4
  clear hat
  go_wp2_with fail
  refine (wri_at W2 (Below.refl _ _) Iv1.out (by decide +kernel) 3 19969 true false _ (by first | rfl | decide +kernel) (by decide +kernel)).mono ?_
  rintro e W3 ⟨x2, rfl, hx2, b⟩
  have J := Lib.hid (J.out.trans (b.mono J.out.size))
  have Iv1 := Lib.hid (Iv1.out.below b)
  have Ix0 := Lib.hid (Ix0.out.below b)
  have Ix1 := Lib.hid (Ix1.out.below b)
  have Ix2 := Lib.hid hx2
  clear b hx2 d0 d1 d2 d3 d4
  have hat := HAt.out W3 J.out
  have d0 := cell_of hat 0
  have d1 := cell_of hat 1
  have d2 := cell_of hat 2
  have d3 := cell_of hat 3
  have d4 := cell_of hat 4
  clear hat
  clear Ix2
  go_wp2_with fail
  refine (wri_at W3 (Below.refl _ _) Iv1.out (by decide +kernel) 4 120 false false _ (by first | rfl | decide +kernel) (by decide +kernel)).mono ?_
  rintro e W4 ⟨x3, rfl, hx3, b⟩
  have J := Lib.hid (J.out.trans (b.mono J.out.size))
  have Iv1 := Lib.hid (Iv1.out.below b)
  have Ix0 := Lib.hid (Ix0.out.below b)
  have Ix1 := Lib.hid (Ix1.out.below b)
  have Ix3 := Lib.hid hx3
  clear b hx3 d0 d1 d2 d3 d4
  have hat := HAt.out W4 J.out
  have d0 := cell_of hat 0
  have d1 := cell_of hat 1
  have d2 := cell_of hat 2
  have d3 := cell_of hat 3
  have d4 := cell_of hat 4
  clear hat
  clear Ix3
  go_wp2_with fail
  refine (wri_at W4 (Below.refl _ _) Iv1.out (by decide +kernel) (-1) 120 false false _ (by first | rfl | decide +kernel) (by decide +kernel)).mono ?_
  rintro e W5 ⟨x4, rfl, hx4, b⟩
  have J := Lib.hid (J.out.trans (b.mono J.out.size))
  have Iv1 := Lib.hid (Iv1.out.below b)
  have Ix0 := Lib.hid (Ix0.out.below b)
  have Ix1 := Lib.hid (Ix1.out.below b)
  have Ix4 := Lib.hid hx4
  clear b hx4 d0 d1 d2 d3 d4
  have hat := HAt.out W5 J.out
  have d0 := cell_of hat 0
  have d1 := cell_of hat 1
  have d2 := cell_of hat 2
  have d3 := cell_of hat 3
  have d4 := cell_of hat 4
  clear hat
  clear Ix4
  go_wp2_with fail
  refine (of_at W5 (Below.refl _ _) ⟨#[97, 32, 120, 98]⟩ [97, 32, 120, 98] (by decide +kernel) (by decide +kernel)).mono ?_
  rintro e W6 ⟨t0, rfl, ht0, b⟩
  have J := Lib.hid (J.out.trans (b.mono J.out.size))
  have Iv1 := Lib.hid (Iv1.out.below b)
  have Ix0 := Lib.hid (Ix0.out.below b)
  have Ix1 := Lib.hid (Ix1.out.below b)
  have It0 := Lib.hid ht0
  clear b ht0 d0 d1 d2 d3 d4
  have hat := HAt.out W6 J.out
  have d0 := cell_of hat 0
  have d1 := cell_of hat 1
  have d2 := cell_of hat 2
  have d3 := cell_of hat 3
  have d4 := cell_of hat 4
  clear hat
  go_wp2_with fail
  refine (same_at W6 (Below.refl _ _) Ix0.out It0.out (by decide +kernel) true (by decide +kernel)).mono ?_
  rintro e W7 ⟨rfl, b⟩
  have J := Lib.hid (J.out.trans (b.mono J.out.size))
  have Iv1 := Lib.hid (Iv1.out.below b)
  have Ix0 := Lib.hid (Ix0.out.below b)
  have Ix1 := Lib.hid (Ix1.out.below b)
  have It0 := Lib.hid (It0.out.below b)
  clear b d0 d1 d2 d3 d4
  have hat := HAt.out W7 J.out
  have d0 := cell_of hat 0
  have d1 := cell_of hat 1
  have d2 := cell_of hat 2
  have d3 := cell_of hat 3
  have d4 := cell_of hat 4
  clear hat
  clear Ix0 It0
  go_wp2_with fail
  refine (of_at W7 (Below.refl _ _) ⟨#[228, 184, 129, 32, 98]⟩ [19969, 32, 98] (by decide +kernel) (by decide +kernel)).mono ?_
  rintro e W8 ⟨t1, rfl, ht1, b⟩
  have J := Lib.hid (J.out.trans (b.mono J.out.size))
  have Iv1 := Lib.hid (Iv1.out.below b)
  have Ix1 := Lib.hid (Ix1.out.below b)
  have It1 := Lib.hid ht1
  clear b ht1 d0 d1 d2 d3 d4
  have hat := HAt.out W8 J.out
  have d0 := cell_of hat 0
  have d1 := cell_of hat 1
  have d2 := cell_of hat 2
  have d3 := cell_of hat 3
  have d4 := cell_of hat 4
  clear hat
  go_wp2_with fail
  refine (same_at W8 (Below.refl _ _) Ix1.out It1.out (by decide +kernel) true (by decide +kernel)).mono ?_
  rintro e W9 ⟨rfl, b⟩
  have J := Lib.hid (J.out.trans (b.mono J.out.size))
  have Iv1 := Lib.hid (Iv1.out.below b)
  have Ix1 := Lib.hid (Ix1.out.below b)
  have It1 := Lib.hid (It1.out.below b)
  clear b d0 d1 d2 d3 d4
  have hat := HAt.out W9 J.out
  have d0 := cell_of hat 0
  have d1 := cell_of hat 1
  have d2 := cell_of hat 2
  have d3 := cell_of hat 3
  have d4 := cell_of hat 4
  clear hat
  clear Ix1 It1
  go_wp2_with fail
  refine (ins_at W9 (Below.refl _ _) Iv1.out (by decide +kernel) 2 1 (ofV [97, 32, 32, 32]) (by unfold IntIn; decide) (by decide +kernel)).mono ?_
  rintro e W10 ⟨u, rfl, hu, b⟩
  have J := Lib.hid (J.out.trans (b.mono J.out.size))
  have Iv1 := Lib.hid (Iv1.out.below b)
  have Iu := Lib.hid hu
  clear b hu d0 d1 d2 d3 d4
  have hat := HAt.out W10 J.out
  have d0 := cell_of hat 0
  have d1 := cell_of hat 1
  have d2 := cell_of hat 2
  have d3 := cell_of hat 3
  have d4 := cell_of hat 4
  clear hat
  go_wp2_with fail
  refine (of_at W10 (Below.refl _ _) ⟨#[97, 32, 32, 32]⟩ [97, 32, 32, 32] (by decide +kernel) (by decide +kernel)).mono ?_
  rintro e W11 ⟨t, rfl, ht, b⟩
  have J := Lib.hid (J.out.trans (b.mono J.out.size))
  have Iv1 := Lib.hid (Iv1.out.below b)
  have Iu := Lib.hid (Iu.out.below b)
  have It := Lib.hid ht
  clear b ht d0 d1 d2 d3 d4
  have hat := HAt.out W11 J.out
  have d0 := cell_of hat 0
  have d1 := cell_of hat 1
  have d2 := cell_of hat 2
  have d3 := cell_of hat 3
  have d4 := cell_of hat 4
  clear hat
  go_wp2_with fail
  refine (same_at W11 (Below.refl _ _) Iu.out It.out (by decide +kernel) true (by decide +kernel)).mono ?_
  rintro e W12 ⟨rfl, b⟩
  have J := Lib.hid (J.out.trans (b.mono J.out.size))
  have Iv1 := Lib.hid (Iv1.out.below b)
  have Iu := Lib.hid (Iu.out.below b)
  have It := Lib.hid (It.out.below b)
  clear b d0 d1 d2 d3 d4
  have hat := HAt.out W12 J.out
  have d0 := cell_of hat 0
  have d1 := cell_of hat 1
  have d2 := cell_of hat 2
  have d3 := cell_of hat 3
  have d4 := cell_of hat 4
  clear hat
  clear It
  clear Iu
  go_wp2_with fail
  refine (ins_at W12 (Below.refl _ _) Iv1.out (by decide +kernel) 0 1 (ofV [32, 97, 19968]) (by unfold IntIn; decide) (by decide +kernel)).mono ?_
  rintro e W13 ⟨u, rfl, hu, b⟩
  have J := Lib.hid (J.out.trans (b.mono J.out.size))
  have Iv1 := Lib.hid (Iv1.out.below b)
  have Iu := Lib.hid hu
  clear b hu d0 d1 d2 d3 d4
  have hat := HAt.out W13 J.out
  have d0 := cell_of hat 0
  have d1 := cell_of hat 1
  have d2 := cell_of hat 2
  have d3 := cell_of hat 3
  have d4 := cell_of hat 4
  clear hat
  go_wp2_with fail
  refine (of_at W13 (Below.refl _ _) ⟨#[32, 97, 228, 184, 128]⟩ [32, 97, 19968] (by decide +kernel) (by decide +kernel)).mono ?_
  rintro e W14 ⟨t, rfl, ht, b⟩
  have J := Lib.hid (J.out.trans (b.mono J.out.size))
  have Iv1 := Lib.hid (Iv1.out.below b)
  have Iu := Lib.hid (Iu.out.below b)
  have It := Lib.hid ht
  clear b ht d0 d1 d2 d3 d4
  have hat := HAt.out W14 J.out
  have d0 := cell_of hat 0
  have d1 := cell_of hat 1
  have d2 := cell_of hat 2
  have d3 := cell_of hat 3
  have d4 := cell_of hat 4
  clear hat
  go_wp2_with fail
  refine (same_at W14 (Below.refl _ _) Iu.out It.out (by decide +kernel) true (by decide +kernel)).mono ?_
  rintro e W15 ⟨rfl, b⟩
  have J := Lib.hid (J.out.trans (b.mono J.out.size))
  have Iv1 := Lib.hid (Iv1.out.below b)
  have Iu := Lib.hid (Iu.out.below b)
  have It := Lib.hid (It.out.below b)
  clear b d0 d1 d2 d3 d4
  have hat := HAt.out W15 J.out
  have d0 := cell_of hat 0
  have d1 := cell_of hat 1
  have d2 := cell_of hat 2
  have d3 := cell_of hat 3
  have d4 := cell_of hat 4
  clear hat
  clear It
  clear Iu
  go_wp2_with fail
  refine (ins_at W15 (Below.refl _ _) Iv1.out (by decide +kernel) 0 2 (ofV [32, 32, 97, 32]) (by unfold IntIn; decide) (by decide +kernel)).mono ?_
  rintro e W16 ⟨u, rfl, hu, b⟩
  have J := Lib.hid (J.out.trans (b.mono J.out.size))
  have Iv1 := Lib.hid (Iv1.out.below b)
  have Iu := Lib.hid hu
  clear b hu d0 d1 d2 d3 d4
  have hat := HAt.out W16 J.out
  have d0 := cell_of hat 0
  have d1 := cell_of hat 1
  have d2 := cell_of hat 2
  have d3 := cell_of hat 3
  have d4 := cell_of hat 4
  clear hat
  go_wp2_with fail
  refine (of_at W16 (Below.refl _ _) ⟨#[32, 32, 97, 32]⟩ [32, 32, 97, 32] (by decide +kernel) (by decide +kernel)).mono ?_
  rintro e W17 ⟨t, rfl, ht, b⟩
  have J := Lib.hid (J.out.trans (b.mono J.out.size))
  have Iv1 := Lib.hid (Iv1.out.below b)
  have Iu := Lib.hid (Iu.out.below b)
  have It := Lib.hid ht
  clear b ht d0 d1 d2 d3 d4
  have hat := HAt.out W17 J.out
  have d0 := cell_of hat 0
  have d1 := cell_of hat 1
  have d2 := cell_of hat 2
  have d3 := cell_of hat 3
  have d4 := cell_of hat 4
  clear hat
  go_wp2_with fail
  refine (same_at W17 (Below.refl _ _) Iu.out It.out (by decide +kernel) true (by decide +kernel)).mono ?_
  rintro e W18 ⟨rfl, b⟩
  have J := Lib.hid (J.out.trans (b.mono J.out.size))
  have Iv1 := Lib.hid (Iv1.out.below b)
  have Iu := Lib.hid (Iu.out.below b)
  have It := Lib.hid (It.out.below b)
  clear b d0 d1 d2 d3 d4
  have hat := HAt.out W18 J.out
  have d0 := cell_of hat 0
  have d1 := cell_of hat 1
  have d2 := cell_of hat 2
  have d3 := cell_of hat 3
  have d4 := cell_of hat 4
  clear hat
  clear It
  clear Iu
  go_wp2_with fail
  refine (del_at W18 (Below.refl _ _) Iv1.out (by decide +kernel) 2 1 (ofV [97, 32, 98, 32]) (by unfold IntIn; decide) (by decide +kernel)).mono ?_
  rintro e W19 ⟨u, rfl, hu, b⟩
  have J := Lib.hid (J.out.trans (b.mono J.out.size))
  have Iv1 := Lib.hid (Iv1.out.below b)
  have Iu := Lib.hid hu
  clear b hu d0 d1 d2 d3 d4
  have hat := HAt.out W19 J.out
  have d0 := cell_of hat 0
  have d1 := cell_of hat 1
  have d2 := cell_of hat 2
  have d3 := cell_of hat 3
  have d4 := cell_of hat 4
  clear hat
  go_wp2_with fail
  refine (of_at W19 (Below.refl _ _) ⟨#[97, 32, 98, 32]⟩ [97, 32, 98, 32] (by decide +kernel) (by decide +kernel)).mono ?_
  rintro e W20 ⟨t, rfl, ht, b⟩
  have J := Lib.hid (J.out.trans (b.mono J.out.size))
  have Iv1 := Lib.hid (Iv1.out.below b)
  have Iu := Lib.hid (Iu.out.below b)
  have It := Lib.hid ht
  clear b ht d0 d1 d2 d3 d4
  have hat := HAt.out W20 J.out
  have d0 := cell_of hat 0
  have d1 := cell_of hat 1
  have d2 := cell_of hat 2
  have d3 := cell_of hat 3
  have d4 := cell_of hat 4
  clear hat
  go_wp2_with fail
  refine (same_at W20 (Below.refl _ _) Iu.out It.out (by decide +kernel) true (by decide +kernel)).mono ?_
  rintro e W21 ⟨rfl, b⟩
  have J := Lib.hid (J.out.trans (b.mono J.out.size))
  have Iv1 := Lib.hid (Iv1.out.below b)
  have Iu := Lib.hid (Iu.out.below b)
  have It := Lib.hid (It.out.below b)
  clear b d0 d1 d2 d3 d4
  have hat := HAt.out W21 J.out
  have d0 := cell_of hat 0
  have d1 := cell_of hat 1
  have d2 := cell_of hat 2
  have d3 := cell_of hat 3
  have d4 := cell_of hat 4
  clear hat
  clear It
  clear Iu
  go_wp2_with fail
  refine (del_at W21 (Below.refl _ _) Iv1.out (by decide +kernel) 1 9 (ofV [97, 32, 32, 32]) (by unfold IntIn; decide) (by decide +kernel)).mono ?_
  rintro e W22 ⟨u, rfl, hu, b⟩
  have J := Lib.hid (J.out.trans (b.mono J.out.size))
  have Iv1 := Lib.hid (Iv1.out.below b)
  have Iu := Lib.hid hu
  clear b hu d0 d1 d2 d3 d4
  have hat := HAt.out W22 J.out
  have d0 := cell_of hat 0
  have d1 := cell_of hat 1
  have d2 := cell_of hat 2
  have d3 := cell_of hat 3
  have d4 := cell_of hat 4
  clear hat
  go_wp2_with fail
  refine (of_at W22 (Below.refl _ _) ⟨#[97, 32, 32, 32]⟩ [97, 32, 32, 32] (by decide +kernel) (by decide +kernel)).mono ?_
  rintro e W23 ⟨t, rfl, ht, b⟩
  have J := Lib.hid (J.out.trans (b.mono J.out.size))
  have Iv1 := Lib.hid (Iv1.out.below b)
  have Iu := Lib.hid (Iu.out.below b)
  have It := Lib.hid ht
  clear b ht d0 d1 d2 d3 d4
  have hat := HAt.out W23 J.out
  have d0 := cell_of hat 0
  have d1 := cell_of hat 1
  have d2 := cell_of hat 2
  have d3 := cell_of hat 3
  have d4 := cell_of hat 4
  clear hat
  go_wp2_with fail
  refine (same_at W23 (Below.refl _ _) Iu.out It.out (by decide +kernel) true (by decide +kernel)).mono ?_
  rintro e W24 ⟨rfl, b⟩
  have J := Lib.hid (J.out.trans (b.mono J.out.size))
  have Iv1 := Lib.hid (Iv1.out.below b)
  have Iu := Lib.hid (Iu.out.below b)
  have It := Lib.hid (It.out.below b)
  clear b d0 d1 d2 d3 d4
  have hat := HAt.out W24 J.out
  have d0 := cell_of hat 0
  have d1 := cell_of hat 1
  have d2 := cell_of hat 2
  have d3 := cell_of hat 3
  have d4 := cell_of hat 4
  clear hat
  clear It
  clear Iu
  go_wp2_with fail
  refine (era_at W24 (Below.refl _ _) Iv1.out (by decide +kernel) 1 1 (ofV [97, 32, 32, 98]) (by unfold IntIn; decide) (by decide +kernel)).mono ?_
  rintro e W25 ⟨u, rfl, hu, b⟩
  have J := Lib.hid (J.out.trans (b.mono J.out.size))
  have Iv1 := Lib.hid (Iv1.out.below b)
  have Iu := Lib.hid hu
  clear b hu d0 d1 d2 d3 d4
  have hat := HAt.out W25 J.out
  have d0 := cell_of hat 0
  have d1 := cell_of hat 1
  have d2 := cell_of hat 2
  have d3 := cell_of hat 3
  have d4 := cell_of hat 4
  clear hat
  go_wp2_with fail
  refine (of_at W25 (Below.refl _ _) ⟨#[97, 32, 32, 98]⟩ [97, 32, 32, 98] (by decide +kernel) (by decide +kernel)).mono ?_
  rintro e W26 ⟨t, rfl, ht, b⟩
  have J := Lib.hid (J.out.trans (b.mono J.out.size))
  have Iv1 := Lib.hid (Iv1.out.below b)
  have Iu := Lib.hid (Iu.out.below b)
  have It := Lib.hid ht
  clear b ht d0 d1 d2 d3 d4
  have hat := HAt.out W26 J.out
  have d0 := cell_of hat 0
  have d1 := cell_of hat 1
  have d2 := cell_of hat 2
  have d3 := cell_of hat 3
  have d4 := cell_of hat 4
  clear hat
  go_wp2_with fail
  refine (same_at W26 (Below.refl _ _) Iu.out It.out (by decide +kernel) true (by decide +kernel)).mono ?_
  rintro e W27 ⟨rfl, b⟩
  have J := Lib.hid (J.out.trans (b.mono J.out.size))
  have Iv1 := Lib.hid (Iv1.out.below b)
  have Iu := Lib.hid (Iu.out.below b)
  have It := Lib.hid (It.out.below b)
  clear b d0 d1 d2 d3 d4
  have hat := HAt.out W27 J.out
  have d0 := cell_of hat 0
  have d1 := cell_of hat 1
  have d2 := cell_of hat 2
  have d3 := cell_of hat 3
  have d4 := cell_of hat 4
  clear hat
  clear It
  clear Iu
  go_wp2_with fail
  refine (era_at W27 (Below.refl _ _) Iv1.out (by decide +kernel) 3 4611686018427387904 (ofV [97, 19968, 32]) (by unfold IntIn; decide) (by decide +kernel)).mono ?_
  rintro e W28 ⟨u, rfl, hu, b⟩
  have J := Lib.hid (J.out.trans (b.mono J.out.size))
  have Iv1 := Lib.hid (Iv1.out.below b)
  have Iu := Lib.hid hu
  clear b hu d0 d1 d2 d3 d4
  have hat := HAt.out W28 J.out
  have d0 := cell_of hat 0
  have d1 := cell_of hat 1
  have d2 := cell_of hat 2
  have d3 := cell_of hat 3
  have d4 := cell_of hat 4
  clear hat
  go_wp2_with fail
  refine (of_at W28 (Below.refl _ _) ⟨#[97, 228, 184, 128, 32]⟩ [97, 19968, 32] (by decide +kernel) (by decide +kernel)).mono ?_
  rintro e W29 ⟨t, rfl, ht, b⟩
  have J := Lib.hid (J.out.trans (b.mono J.out.size))
  have Iv1 := Lib.hid (Iv1.out.below b)
  have Iu := Lib.hid (Iu.out.below b)
  have It := Lib.hid ht
  clear b ht d0 d1 d2 d3 d4
  have hat := HAt.out W29 J.out
  have d0 := cell_of hat 0
  have d1 := cell_of hat 1
  have d2 := cell_of hat 2
  have d3 := cell_of hat 3
  have d4 := cell_of hat 4
  clear hat
  go_wp2_with fail
  refine (same_at W29 (Below.refl _ _) Iu.out It.out (by decide +kernel) true (by decide +kernel)).mono ?_
  rintro e W30 ⟨rfl, b⟩
  have J := Lib.hid (J.out.trans (b.mono J.out.size))
  have Iv1 := Lib.hid (Iv1.out.below b)
  have Iu := Lib.hid (Iu.out.below b)
  have It := Lib.hid (It.out.below b)
  clear b d0 d1 d2 d3 d4
  have hat := HAt.out W30 J.out
  have d0 := cell_of hat 0
  have d1 := cell_of hat 1
  have d2 := cell_of hat 2
  have d3 := cell_of hat 3
  have d4 := cell_of hat 4
  clear hat
  clear It
  clear Iu
  go_wp2_with fail
  refine (era_at W30 (Below.refl _ _) Iv1.out (by decide +kernel) 4 1 wkL (by unfold IntIn; decide) (by decide +kernel)).mono ?_
  rintro e W31 ⟨u, rfl, hu, b⟩
  have J := Lib.hid (J.out.trans (b.mono J.out.size))
  have Iv1 := Lib.hid (Iv1.out.below b)
  have Iu := Lib.hid hu
  clear b hu d0 d1 d2 d3 d4
  have hat := HAt.out W31 J.out
  have d0 := cell_of hat 0
  have d1 := cell_of hat 1
  have d2 := cell_of hat 2
  have d3 := cell_of hat 3
  have d4 := cell_of hat 4
  clear hat
  go_wp2_with fail
  refine (same_at W31 (Below.refl _ _) Iu.out Iv1.out (by decide +kernel) true (by decide +kernel)).mono ?_
  rintro e W32 ⟨rfl, b⟩
  have J := Lib.hid (J.out.trans (b.mono J.out.size))
  have Iv1 := Lib.hid (Iv1.out.below b)
  have Iu := Lib.hid (Iu.out.below b)
  clear b d0 d1 d2 d3 d4
  have hat := HAt.out W32 J.out
  have d0 := cell_of hat 0
  have d1 := cell_of hat 1
  have d2 := cell_of hat 2
  have d3 := cell_of hat 3
  have d4 := cell_of hat 4
  clear hat
  clear Iu
  go_wp2_with fail
  refine (del_at W32 (Below.refl _ _) Iv1.out (by decide +kernel) (-1) 3 wkL (by unfold IntIn; decide) (by decide +kernel)).mono ?_
  rintro e W33 ⟨u, rfl, hu, b⟩
  have J := Lib.hid (J.out.trans (b.mono J.out.size))
  have Iv1 := Lib.hid (Iv1.out.below b)
  have Iu := Lib.hid hu
  clear b hu d0 d1 d2 d3 d4
  have hat := HAt.out W33 J.out
  have d0 := cell_of hat 0
  have d1 := cell_of hat 1
  have d2 := cell_of hat 2
  have d3 := cell_of hat 3
  have d4 := cell_of hat 4
  clear hat
  go_wp2_with fail
  refine (same_at W33 (Below.refl _ _) Iu.out Iv1.out (by decide +kernel) true (by decide +kernel)).mono ?_
  rintro e W34 ⟨rfl, b⟩
  have J := Lib.hid (J.out.trans (b.mono J.out.size))
  have Iv1 := Lib.hid (Iv1.out.below b)
  have Iu := Lib.hid (Iu.out.below b)
  clear b d0 d1 d2 d3 d4
  have hat := HAt.out W34 J.out
  have d0 := cell_of hat 0
  have d1 := cell_of hat 1
  have d2 := cell_of hat 2
  have d3 := cell_of hat 3
  have d4 := cell_of hat 4
  clear hat
  clear Iu
  go_wp2_with fail
  refine (ins_at W34 (Below.refl _ _) Iv1.out (by decide +kernel) 0 0 wkL (by unfold IntIn; decide) (by decide +kernel)).mono ?_
  rintro e W35 ⟨u, rfl, hu, b⟩
  have J := Lib.hid (J.out.trans (b.mono J.out.size))
  have Iv1 := Lib.hid (Iv1.out.below b)
  have Iu := Lib.hid hu
  clear b hu d0 d1 d2 d3 d4
  have hat := HAt.out W35 J.out
  have d0 := cell_of hat 0
  have d1 := cell_of hat 1
  have d2 := cell_of hat 2
  have d3 := cell_of hat 3
  have d4 := cell_of hat 4
  clear hat
  go_wp2_with fail
  refine (same_at W35 (Below.refl _ _) Iu.out Iv1.out (by decide +kernel) true (by decide +kernel)).mono ?_
  rintro e W36 ⟨rfl, b⟩
  have J := Lib.hid (J.out.trans (b.mono J.out.size))
  have Iv1 := Lib.hid (Iv1.out.below b)
  have Iu := Lib.hid (Iu.out.below b)
  clear b d0 d1 d2 d3 d4
  have hat := HAt.out W36 J.out
  have d0 := cell_of hat 0
  have d1 := cell_of hat 1
  have d2 := cell_of hat 2
  have d3 := cell_of hat 3
  have d4 := cell_of hat 4
  clear hat
  clear Iu
  go_wp2_with fail
  refine (res_at W36 (Below.refl _ _) Iv1.out (by decide +kernel) 2 (ofV [97, 32]) (by decide +kernel)).mono ?_
  rintro e W37 ⟨u, rfl, hu, b⟩
  have J := Lib.hid (J.out.trans (b.mono J.out.size))
  have Iv1 := Lib.hid (Iv1.out.below b)
  have Iu := Lib.hid hu
  clear b hu d0 d1 d2 d3 d4
  have hat := HAt.out W37 J.out
  have d0 := cell_of hat 0
  have d1 := cell_of hat 1
  have d2 := cell_of hat 2
  have d3 := cell_of hat 3
  have d4 := cell_of hat 4
  clear hat
  go_wp2_with fail
  refine (of_at W37 (Below.refl _ _) ⟨#[97, 32]⟩ [97, 32] (by decide +kernel) (by decide +kernel)).mono ?_
  rintro e W38 ⟨t, rfl, ht, b⟩
  have J := Lib.hid (J.out.trans (b.mono J.out.size))
  have Iv1 := Lib.hid (Iv1.out.below b)
  have Iu := Lib.hid (Iu.out.below b)
  have It := Lib.hid ht
  clear b ht d0 d1 d2 d3 d4
  have hat := HAt.out W38 J.out
  have d0 := cell_of hat 0
  have d1 := cell_of hat 1
  have d2 := cell_of hat 2
  have d3 := cell_of hat 3
  have d4 := cell_of hat 4
  clear hat
  go_wp2_with fail
  refine (same_at W38 (Below.refl _ _) Iu.out It.out (by decide +kernel) true (by decide +kernel)).mono ?_
  rintro e W39 ⟨rfl, b⟩
  have J := Lib.hid (J.out.trans (b.mono J.out.size))
  have Iv1 := Lib.hid (Iv1.out.below b)
  have Iu := Lib.hid (Iu.out.below b)
  have It := Lib.hid (It.out.below b)
  clear b d0 d1 d2 d3 d4
  have hat := HAt.out W39 J.out
  have d0 := cell_of hat 0
  have d1 := cell_of hat 1
  have d2 := cell_of hat 2
  have d3 := cell_of hat 3
  have d4 := cell_of hat 4
  clear hat
  clear It
  clear Iu
  go_wp2_with fail
  refine (res_at W39 (Below.refl _ _) Iv1.out (by decide +kernel) 3 (ofV [97, 19968]) (by decide +kernel)).mono ?_
  rintro e W40 ⟨u, rfl, hu, b⟩
  have J := Lib.hid (J.out.trans (b.mono J.out.size))
  have Iv1 := Lib.hid (Iv1.out.below b)
  have Iu := Lib.hid hu
  clear b hu d0 d1 d2 d3 d4
  have hat := HAt.out W40 J.out
  have d0 := cell_of hat 0
  have d1 := cell_of hat 1
  have d2 := cell_of hat 2
  have d3 := cell_of hat 3
  have d4 := cell_of hat 4
  clear hat
  go_wp2_with fail
  refine (of_at W40 (Below.refl _ _) ⟨#[97, 228, 184, 128]⟩ [97, 19968] (by decide +kernel) (by decide +kernel)).mono ?_
  rintro e W41 ⟨t, rfl, ht, b⟩
  have J := Lib.hid (J.out.trans (b.mono J.out.size))
  have Iv1 := Lib.hid (Iv1.out.below b)
  have Iu := Lib.hid (Iu.out.below b)
  have It := Lib.hid ht
  clear b ht d0 d1 d2 d3 d4
  have hat := HAt.out W41 J.out
  have d0 := cell_of hat 0
  have d1 := cell_of hat 1
  have d2 := cell_of hat 2
  have d3 := cell_of hat 3
  have d4 := cell_of hat 4
  clear hat
  go_wp2_with fail
  refine (same_at W41 (Below.refl _ _) Iu.out It.out (by decide +kernel) true (by decide +kernel)).mono ?_
  rintro e W42 ⟨rfl, b⟩
  have J := Lib.hid (J.out.trans (b.mono J.out.size))
  have Iv1 := Lib.hid (Iv1.out.below b)
  have Iu := Lib.hid (Iu.out.below b)
  have It := Lib.hid (It.out.below b)
  clear b d0 d1 d2 d3 d4
  have hat := HAt.out W42 J.out
  have d0 := cell_of hat 0
  have d1 := cell_of hat 1
  have d2 := cell_of hat 2
  have d3 := cell_of hat 3
  have d4 := cell_of hat 4
  clear hat
  clear It
  clear Iu
  go_wp2_with fail
  refine (res_at W42 (Below.refl _ _) Iv1.out (by decide +kernel) 6 (ofV [97, 19968, 98, 32, 32]) (by decide +kernel)).mono ?_
  rintro e W43 ⟨u, rfl, hu, b⟩
  have J := Lib.hid (J.out.trans (b.mono J.out.size))
  have Iv1 := Lib.hid (Iv1.out.below b)
  have Iu := Lib.hid hu
  clear b hu d0 d1 d2 d3 d4
  have hat := HAt.out W43 J.out
  have d0 := cell_of hat 0
  have d1 := cell_of hat 1
  have d2 := cell_of hat 2
  have d3 := cell_of hat 3
  have d4 := cell_of hat 4
  clear hat
  go_wp2_with fail
  refine (of_at W43 (Below.refl _ _) ⟨#[97, 228, 184, 128, 98, 32, 32]⟩ [97, 19968, 98, 32, 32] (by decide +kernel) (by decide +kernel)).mono ?_
  rintro e W44 ⟨t, rfl, ht, b⟩
  have J := Lib.hid (J.out.trans (b.mono J.out.size))
  have Iv1 := Lib.hid (Iv1.out.below b)
  have Iu := Lib.hid (Iu.out.below b)
  have It := Lib.hid ht
  clear b ht d0 d1 d2 d3 d4
  have hat := HAt.out W44 J.out
  have d0 := cell_of hat 0
  have d1 := cell_of hat 1
  have d2 := cell_of hat 2
  have d3 := cell_of hat 3
  have d4 := cell_of hat 4
  clear hat
  go_wp2_with fail
  refine (same_at W44 (Below.refl _ _) Iu.out It.out (by decide +kernel) true (by decide +kernel)).mono ?_
  rintro e W45 ⟨rfl, b⟩
  have J := Lib.hid (J.out.trans (b.mono J.out.size))
  have Iv1 := Lib.hid (Iv1.out.below b)
  have Iu := Lib.hid (Iu.out.below b)
  have It := Lib.hid (It.out.below b)
  clear b d0 d1 d2 d3 d4
  have hat := HAt.out W45 J.out
  have d0 := cell_of hat 0
  have d1 := cell_of hat 1
  have d2 := cell_of hat 2
  have d3 := cell_of hat 3
  have d4 := cell_of hat 4
  clear hat
  clear It
  clear Iu
  go_wp2_with fail
  refine (res_at W45 (Below.refl _ _) Iv1.out (by decide +kernel) 0 wkL (by decide +kernel)).mono ?_
  rintro e W46 ⟨u, rfl, hu, b⟩
  have J := Lib.hid (J.out.trans (b.mono J.out.size))
  have Iv1 := Lib.hid (Iv1.out.below b)
  have Iu := Lib.hid hu
  clear b hu d0 d1 d2 d3 d4
  have hat := HAt.out W46 J.out
  have d0 := cell_of hat 0
  have d1 := cell_of hat 1
  have d2 := cell_of hat 2
  have d3 := cell_of hat 3
  have d4 := cell_of hat 4
  clear hat
  go_wp2_with fail
  refine (same_at W46 (Below.refl _ _) Iu.out Iv1.out (by decide +kernel) true (by decide +kernel)).mono ?_
  rintro e W47 ⟨rfl, b⟩
  have J := Lib.hid (J.out.trans (b.mono J.out.size))
  have Iv1 := Lib.hid (Iv1.out.below b)
  have Iu := Lib.hid (Iu.out.below b)
  clear b d0 d1 d2 d3 d4
  have hat := HAt.out W47 J.out
  have d0 := cell_of hat 0
  have d1 := cell_of hat 1
  have d2 := cell_of hat 2
  have d3 := cell_of hat 3
  have d4 := cell_of hat 4
  clear hat
  clear Iu
  go_wp2_with fail
  refine (res_at W47 (Below.refl _ _) Iv1.out (by decide +kernel) 401 wkL (by decide +kernel)).mono ?_
  rintro e W48 ⟨u, rfl, hu, b⟩
  have J := Lib.hid (J.out.trans (b.mono J.out.size))
  have Iv1 := Lib.hid (Iv1.out.below b)
  have Iu := Lib.hid hu
  clear b hu d0 d1 d2 d3 d4
  have hat := HAt.out W48 J.out
  have d0 := cell_of hat 0
  have d1 := cell_of hat 1
  have d2 := cell_of hat 2
  have d3 := cell_of hat 3
  have d4 := cell_of hat 4
  clear hat
  go_wp2_with fail
  refine (same_at W48 (Below.refl _ _) Iu.out Iv1.out (by decide +kernel) true (by decide +kernel)).mono ?_
  rintro e W49 ⟨rfl, b⟩
  have J := Lib.hid (J.out.trans (b.mono J.out.size))
  have Iv1 := Lib.hid (Iv1.out.below b)
  have Iu := Lib.hid (Iu.out.below b)
  clear b d0 d1 d2 d3 d4
  have hat := HAt.out W49 J.out
  have d0 := cell_of hat 0
  have d1 := cell_of hat 1
  have d2 := cell_of hat 2
  have d3 := cell_of hat 3
  have d4 := cell_of hat 4
  clear hat
  clear Iu
  clear d0 d1 d2 d3 d4 HAt Iv1
  obtain ⟨X, hX⟩ : ∃ X, X = W49.alloc (litO #[.int .i32 0, .int .u8 2, .int .u16 0, .int .u8 0, .int .u32 0, .int .u8 0, .int .u32 0, .int .i32 0, .int .u8 1, .int .u16 0, .int .u8 0, .int .u32 0, .int .u8 0, .int .u32 0, .int .i32 0, .int .u8 3, .int .u16 0, .int .u8 0, .int .u32 0, .int .u8 0, .int .u32 0]) := ⟨_, rfl⟩
  have hB : Below W49.heap.size W49 X := by rw [hX]; exact (Below.refl _ _).alloc (Nat.le_refl _) _
  have hR := bad_row W49
  rw [← hX] at hR
  obtain ⟨pb, hpb⟩ : ∃ pb, pb = W49.heap.size := ⟨_, rfl⟩
  rw [← hpb] at hR
  obtain ⟨q0, q1, q2⟩ := bad_cut hR
  have Iq0 := Lib.hid q0
  have Iq1 := Lib.hid q1
  have Iq2 := Lib.hid q2
  have J := Lib.hid (J.out.trans (hB.mono J.out.size))
  have HX := Lib.hid hX
  have HP := Lib.hid hpb
  clear hB hR q0 q1 q2 hX hpb
  go_upto_region 13 with fail
  change Code.wp _ _ _ _ (W49.alloc (litO #[.int .i32 0, .int .u8 2, .int .u16 0, .int .u8 0, .int .u32 0, .int .u8 0, .int .u32 0, .int .i32 0, .int .u8 1, .int .u16 0, .int .u8 0, .int .u32 0, .int .u8 0, .int .u32 0, .int .i32 0, .int .u8 3, .int .u16 0, .int .u8 0, .int .u32 0, .int .u8 0, .int .u32 0]))
  rw [← HX.out, ← HP.out]
  clear HX HP
  obtain ⟨W50, hW⟩ : ∃ V, V = X := ⟨_, rfl⟩
  subst hW
  go_wp2_with fail
  refine (who_at (W := W50) W50 (Below.refl _ _) Iq0.out (by decide) false (by decide +kernel)).mono ?_
  rintro e W51 ⟨rfl, b⟩
  have J := Lib.hid (J.out.trans (b.mono J.out.size))
  have Iq0 := Lib.hid (Iq0.out.below b)
  have Iq1 := Lib.hid (Iq1.out.below b)
  have Iq2 := Lib.hid (Iq2.out.below b)
  clear b
  clear Iq0
  go_wp2_with fail
  refine (who_at (W := W51) W51 (Below.refl _ _) Iq1.out (by decide) false (by decide +kernel)).mono ?_
  rintro e W52 ⟨rfl, b⟩
  have J := Lib.hid (J.out.trans (b.mono J.out.size))
  have Iq1 := Lib.hid (Iq1.out.below b)
  have Iq2 := Lib.hid (Iq2.out.below b)
  clear b
  clear Iq1
  go_wp2_with fail
  refine (who_at (W := W52) W52 (Below.refl _ _) Iq2.out (by decide) false (by decide +kernel)).mono ?_
  rintro e W53 ⟨rfl, b⟩
  have J := Lib.hid (J.out.trans (b.mono J.out.size))
  have Iq2 := Lib.hid (Iq2.out.below b)
  clear b
  clear Iq2
  go_wp2_with fail
  refine (who_at (W := W53) W53 (Below.refl _ _) (lies_nil W53) (by decide) true (by decide +kernel)).mono ?_
  rintro e W54 ⟨rfl, b⟩
  have J := Lib.hid (J.out.trans (b.mono J.out.size))
  clear b
  go_wp2_with fail
  refine (who_at (W := W54) (W54.alloc (litO #[.int .i32 0, .int .u8 1, .int .u16 0, .int .u8 0, .int .u32 0, .int .u8 0, .int .u32 0, .int .i32 0, .int .u8 1, .int .u16 0, .int .u8 0, .int .u32 0, .int .u8 0, .int .u32 0, .int .i32 0, .int .u8 2, .int .u16 0, .int .u8 0, .int .u32 0, .int .u8 0, .int .u32 0, .int .i32 0, .int .u8 2, .int .u16 0, .int .u8 0, .int .u32 0, .int .u8 0, .int .u32 0])) ((Below.refl _ _).alloc (Nat.le_refl _) _) (mid_lies W54) (by decide) false (by decide +kernel)).mono ?_
  rintro e W55 ⟨rfl, b⟩
  have J := Lib.hid (J.out.trans (b.mono J.out.size))
  clear b
  go_wp2_with fail
  refine (of_at W55 (Below.refl _ _) ⟨#[97, 228, 184, 128, 32, 32]⟩ [97, 19968, 32, 32] (by decide +kernel) (by decide +kernel)).mono ?_
  rintro e W56 ⟨t, rfl, ht, b⟩
  have J := Lib.hid (J.out.trans (b.mono J.out.size))
  have It := Lib.hid ht
  clear b ht
  go_wp2_with fail
  refine (txt_at W56 (Below.refl _ _) It.out (by decide +kernel) ⟨#[97, 228, 184, 128]⟩ (by decide +kernel) (by decide +kernel)).mono ?_
  rintro e W57 ⟨rfl, b⟩
  have J := Lib.hid (J.out.trans (b.mono J.out.size))
  have It := Lib.hid (It.out.below b)
  clear b
  clear It
  go_wp2_with fail
  refine (of_at W57 (Below.refl _ _) ⟨#[32, 32, 97]⟩ [32, 32, 97] (by decide +kernel) (by decide +kernel)).mono ?_
  rintro e W58 ⟨t, rfl, ht, b⟩
  have J := Lib.hid (J.out.trans (b.mono J.out.size))
  have It := Lib.hid ht
  clear b ht
  go_wp2_with fail
  refine (txt_at W58 (Below.refl _ _) It.out (by decide +kernel) ⟨#[32, 32, 97]⟩ (by decide +kernel) (by decide +kernel)).mono ?_
  rintro e W59 ⟨rfl, b⟩
  have J := Lib.hid (J.out.trans (b.mono J.out.size))
  have It := Lib.hid (It.out.below b)
  clear b
  clear It
  go_wp2_with fail
  refine (txt_at (W := W59) (W59.alloc (litO #[.int .i32 (-1), .int .u8 0, .int .u16 0, .int .u8 0, .int .u32 0, .int .u8 0, .int .u32 0, .int .i32 55296, .int .u8 0, .int .u16 0, .int .u8 0, .int .u32 0, .int .u8 0, .int .u32 0])) ((Below.refl _ _).alloc (Nat.le_refl _) _) (low_lies W59) (by decide) ⟨#[239, 191, 189, 239, 191, 189]⟩ (by decide +kernel) (by decide +kernel)).mono ?_
  rintro e W60 ⟨rfl, b⟩
  have J := Lib.hid (J.out.trans (b.mono J.out.size))
  clear b
  go_wp2_with fail
  refine (txt_at (W := W60) W60 (Below.refl _ _) (lies_nil W60) (by decide) ⟨#[]⟩ (by decide +kernel) (by decide +kernel)).mono ?_
  rintro e W61 ⟨rfl, b⟩
  have J := Lib.hid (J.out.trans (b.mono J.out.size))
  clear b
  go_wp2_with fail
  refine (wakes_any W61).mono ?_
  rintro e W62 ⟨rfl, b⟩
  have J := Lib.hid (J.out.trans (b.mono J.out.size))
  clear b
  go_wp2
  go_ret
  exact ⟨rfl, B0.out.trans (J.out.mono B0.out.size)⟩
end Go.Proofs.Ythpnmhllgjibgaa.Rw

