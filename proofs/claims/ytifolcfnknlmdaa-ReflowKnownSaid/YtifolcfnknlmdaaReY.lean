/- Layer 15: the law's wakes. -/
import Derived.Test.YtifolcfnknlmdaaReZ
import Derived.Test.YtifolcfnknlmdaaRePx
set_option linter.unusedVariables false
namespace Go.Proofs.Ytifolcfnknlmdaa.Re
open Go.RowKit Go.Proofs.Ytifolcfnknlmdaa.Rw

theorem st_abc : Steps ⟨#[97, 98, 99]⟩ 0 [97, 98, 99] := steps_of _ _ _ (by decide +kernel)
theorem st_def : Steps ⟨#[100, 101, 102]⟩ 0 [100, 101, 102] := steps_of _ _ _ (by decide +kernel)
theorem st_gh : Steps ⟨#[103, 104, 32]⟩ 0 [103, 104, 32] := steps_of _ _ _ (by decide +kernel)
theorem ru_page : (paras blC pageV).all runesB = true := by decide +kernel
theorem tx_page : (paras blC pageV).map textV = [⟨#[97, 98, 99, 100, 101, 102]⟩, ⟨#[103, 104]⟩] := by decide +kernel
theorem page_cells : ∀ k, (page3.getD k noLn).cells.length ≤ 100000
  | 0 => by decide +kernel
  | 1 => by decide +kernel
  | 2 => by decide +kernel
  | k + 3 => by simp [page3, noLn]
/-- A page, and what is asked of it. -/
theorem page_at (V w : World) (hV : Below w.heap.size w V) : Calls Try.prog 12 #[] V fun e w' => ∃ u, e = .returned u ∧ LinesAt (fun b => w.heap.size ≤ b) w' u pageV ∧ Below w.heap.size w w' := (page_any V).mono fun e w' ⟨u, he, h, hb⟩ => ⟨u, he, h.more fun b hb' => Nat.le_trans hV.size hb', hV.trans (hb.mono hV.size)⟩
set_option maxRecDepth 100000 in
set_option maxHeartbeats 2000000 in
theorem wakes_any (w : World) : Calls Try.prog 9 #[] w fun e w' => e = .returned (.bool true) ∧ Below w.heap.size w w' := by
  have KP := Lib.hid fun V hV => page_at V w hV
  have eqs : ∀ W, (binOp .eql 9 (.string ⟨#[97, 98, 99, 100, 101, 102]⟩) (.string ⟨#[97, 98, 99, 100, 101, 102]⟩)).run Try.prog W = .ok (.bool true) W := fun W => by kernel_rfl
  go_enter Try.func9, Try.ntmps9
  go_wp2_with fail
  refine (show Calls _ _ _ _ _ from KP.out w (Below.refl _ _)).mono ?_
  rintro e w1 ⟨u1, rfl, h1, b1⟩
  have K1 := Lib.hid (pplace_any h1 sm_page.1 sm_page.2 3 1 1 ⟨by decide, by decide⟩ ⟨by decide, by decide⟩ ⟨by decide, by decide⟩)
  rw [pl_311] at K1
  have HB1 := Lib.hid b1
  clear h1 b1
  go_wp2_with fail
  refine (show Calls _ _ _ _ _ from K1.out).mono ?_
  rintro e w2 ⟨rfl, b2⟩
  have HB2 := Lib.hid (HB1.out.trans (b2.mono HB1.out.size))
  clear b2 K1 HB1
  go_wp2_with fail
  refine (show Calls _ _ _ _ _ from KP.out w2 HB2.out).mono ?_
  rintro e w3 ⟨u3, rfl, h3, b3⟩
  have K3 := Lib.hid (ptexts_any h3 sm_page.1 sm_page.2 ru_page)
  rw [tx_page] at K3
  have HB3 := Lib.hid b3
  clear h3 b3 HB2
  go_wp2_with fail
  refine (show Calls _ _ _ _ _ from K3.out).mono ?_
  rintro e w4 ⟨t4, rfl, ht4, b4⟩
  have HB4 := Lib.hid (HB3.out.trans (b4.mono HB3.out.size))
  obtain ⟨At, ct, rfl, htt⟩ := ht4
  obtain ⟨bt, ot, rfl, hbt, htc⟩ := htt (by decide)
  have q0 : w4.cell? ⟨bt, ot, none⟩ = some (.string ⟨#[97, 98, 99, 100, 101, 102]⟩) := htc 0 (by decide)
  have HQ := Lib.hid (And.intro hbt q0)
  have it := idx_text bt ot 2 ct 0 (by decide)
  rw [Nat.add_zero] at it
  clear K3 b4 HB3 htt htc hbt q0
  have KP4 := Lib.hid fun V hV => page_at V w4 hV
  have HS4 : Hid (w.heap.size ≤ w4.heap.size) := Lib.hid HB4.out.size
  go_wp2_with fail
  refine (show Calls _ _ _ _ _ from KP4.out w4 (Below.refl _ _)).mono ?_
  rintro e w5 ⟨u5, rfl, h5, b5⟩
  have K5 := Lib.hid (plines_any h5 sm_page.1 sm_page.2 3 ⟨by decide, by decide⟩)
  rw [ln_page3] at K5
  have HB5 := Lib.hid b5
  clear h5 b5
  go_wp2_with fail
  refine (show Calls _ _ _ _ _ from K5.out).mono ?_
  rintro e w6 ⟨u6, rfl, h6, b6⟩
  have HB6 := Lib.hid (HB5.out.trans (b6.mono HB5.out.size))
  have H6 := Lib.hid (h6.more (G := fun b => w4.heap.size ≤ b) fun b hb => Nat.le_trans HB5.out.size hb)
  clear h6 b6 K5 HB5
  have KO1 := Lib.hid (of_any _ true false _ st_abc (by decide) w6)
  go_wp2_with fail
  refine (show Calls _ _ _ _ _ from KO1.out).mono ?_
  rintro e w7 ⟨v1, rfl, o1, b7⟩
  have HO1 := Lib.hid (And.intro o1 b7)
  clear o1 b7 KO1
  have KO2 := Lib.hid (of_any _ false false _ st_def (by decide) w7)
  go_wp2_with fail
  refine (show Calls _ _ _ _ _ from KO2.out).mono ?_
  rintro e w8 ⟨v2, rfl, o2, b8⟩
  have HO2 := Lib.hid (And.intro o2 b8)
  clear o2 b8 KO2
  have KO3 := Lib.hid (of_any _ false false _ st_gh (by decide) w8)
  go_wp2_with fail
  refine (show Calls _ _ _ _ _ from KO3.out).mono ?_
  rintro e w9 ⟨v3, rfl, o3, b9⟩
  have hz7 := HO1.out.2.size
  have hz8 := HO2.out.2.size
  have hz6 := HB6.out.size
  have r3 : RowF (fun b => w4.heap.size ≤ b) w9 v3 (ofV [103, 104, 32]) := ⟨own_lies o3, fun b e _ => Nat.le_trans (by omega) (own_ge o3 b e)⟩
  have r2 : RowF (fun b => w4.heap.size ≤ b) w9 v2 (ofV [100, 101, 102]) := ⟨(own_lies HO2.out.1).below b9, fun b e _ => Nat.le_trans (by omega) (own_ge HO2.out.1 b e)⟩
  have r1 : RowF (fun b => w4.heap.size ≤ b) w9 v1 (ofV [97, 98, 99]) := ⟨((own_lies HO1.out.1).below HO2.out.2).below b9, fun b e _ => Nat.le_trans (by omega) (own_ge HO1.out.1 b e)⟩
  have hb9 : Below w4.heap.size w4 w9 := ((HB6.out.trans (HO1.out.2.mono hz6)).trans (HO2.out.2.mono (by omega))).trans (b9.mono (by omega))
  have h69 : Below w6.heap.size w6 w9 := (HO1.out.2.trans (HO2.out.2.mono hz7)).trans (b9.mono (by omega))
  have HF := (lits_lines (F := fun b => w4.heap.size ≤ b) [⟨v1, true, false⟩, ⟨v2, false, false⟩, ⟨v3, false, false⟩] page3 rfl (by decide) (fun k hk => by
    have hk : k < 3 := hk
    match k, hk with
    | 0, _ => exact ⟨rfl, rfl, r1⟩
    | 1, _ => exact ⟨rfl, rfl, r2⟩
    | 2, _ => exact ⟨rfl, rfl, r3⟩))
  have hal : Below w9.heap.size w9 (w9.alloc (.cells (rawsC [⟨v1, true, false⟩, ⟨v2, false, false⟩, ⟨v3, false, false⟩]).toArray 30)) := (Below.refl _ _).alloc (Nat.le_refl _) _
  have KS := Lib.hid (law_same (H6.out.below (h69.trans (hal.mono h69.size))) HF (by decide) (by decide) page_cells)
  have HB9 := Lib.hid (hb9.trans (hal.mono hb9.size))
  obtain ⟨A3, n3, c3, rfl⟩ : ∃ A n c, v3 = .slice A n c := by obtain ⟨A, c, e, -⟩ := own_lies o3; exact ⟨_, _, _, e⟩
  obtain ⟨A2, n2, c2, rfl⟩ : ∃ A n c, v2 = .slice A n c := by obtain ⟨A, c, e, -⟩ := own_lies HO2.out.1; exact ⟨_, _, _, e⟩
  obtain ⟨A1, n1, c1, rfl⟩ : ∃ A n c, v1 = .slice A n c := by obtain ⟨A, c, e, -⟩ := own_lies HO1.out.1; exact ⟨_, _, _, e⟩
  rw [decide_eq_true rfl] at KS
  clear o3 b9 r1 r2 r3 hb9 h69 HF hal hz6 hz7 hz8 KO3 HB6 H6 HO1 HO2
  go_wp2_with fail
  refine (show Calls _ _ _ _ _ from KS.out).mono ?_
  rintro e w10 ⟨rfl, b10⟩
  have HB10 := Lib.hid (HB9.out.trans (b10.mono HB9.out.size))
  have q0 := (HB10.out.cell (p := ⟨bt, ot, none⟩) HQ.out.1).trans HQ.out.2
  clear b10 KS HB9
  go_wp2_with fail
  refine (show Calls _ _ _ _ _ from KP4.out w10 HB10.out).mono ?_
  rintro e w11 ⟨u11, rfl, h11, b11⟩
  have K11 := Lib.hid (pparas_any h11 sm_page.1 sm_page.2)
  have HB11 := Lib.hid b11
  clear h11 b11 HB10 q0
  go_wp2_with fail
  refine (show Calls _ _ _ _ _ from K11.out).mono ?_
  rintro e w12 ⟨t12, rfl, ht12, b12⟩
  obtain ⟨At2, ct2, rfl, -⟩ := ht12
  rw [pa_page]
  have HF2 := Lib.hid (HB4.out.trans ((HB11.out.trans (b12.mono HB11.out.size)).mono HS4.out))
  clear b12 K11 HB11
  go_wp2
  go_ret
  exact ⟨rfl, HF2.out⟩
end Go.Proofs.Ytifolcfnknlmdaa.Re
