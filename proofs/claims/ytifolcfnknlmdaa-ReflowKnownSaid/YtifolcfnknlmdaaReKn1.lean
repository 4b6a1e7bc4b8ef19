/- Layer 15: ReflowKnown's walk. -/
import Derived.Test.YtifolcfnknlmdaaReKn
set_option linter.unusedVariables false
namespace Go.Proofs.Ytifolcfnknlmdaa.Re
open Go.RowKit Go.Proofs.Ytifolcfnknlmdaa.Rw

set_option maxRecDepth 100000 in
set_option maxHeartbeats 16000000 in
theorem known_law (w : World) : Calls Try.prog 4 #[] w fun e w' => e = .returned (.bool true) ∧ Below w.heap.size w w' := by
  go_enter Try.func4, Try.ntmps4
  go_upto_region 2 with fail
  change Code.wp _ _ _ _ (w.alloc rowsO)
  obtain ⟨V0, hV0⟩ : ∃ V0, w.alloc rowsO = V0 := ⟨_, rfl⟩
  have h0 : V0.heap[w.heap.size]? = some rowsO := by rw [← hV0]; exact heap_alloc_new w _
  have hb0 : Below w.heap.size w V0 := by rw [← hV0]; exact (Below.refl _ _).alloc (Nat.le_refl _) _
  rw [hV0]
  have H0 := Lib.hid h0
  have HB0 := Lib.hid hb0
  have HG : Hid (w.heap.size < V0.heap.size) := Lib.hid (blk_lt h0)
  obtain ⟨g, hg⟩ : ∃ g, g = w.heap.size := ⟨_, rfl⟩
  rw [← hg] at H0 HG ⊢
  have HGq := Lib.hid hg
  clear h0 hb0 hV0 hg
  go_wp2
  go_loopw [2] (fun iv wr => ∃ (k : Nat) (wz : World), wz = wr ∧ k ≤ 10 ∧ iv = .int .i64 (k : Int) ∧ Hid (Below V0.heap.size V0 wz)) (fun iv _ => 10 - (RowKit.intOf iv).toNat)
  case atStart => exact ⟨0, _, rfl, Nat.zero_le _, rfl, Lib.hid (Below.refl _ _)⟩
  case round =>
    obtain ⟨k, wr, rfl, hk, rfl, H⟩ := hrel
    by_cases hlt : k < 10
    · have glt : decide ((k : Int) < 10) = true := by simp; omega
      have glt' : decide (k < 10) = true := by simp; omega
      obtain ⟨q0, q1, q2, q3⟩ := row_cells V0 g H0.out k hlt
      have hpl := row_place k hlt
      have hin := row_in k hlt
      obtain ⟨⟨ra, rb, rc, rd⟩, hr⟩ : ∃ r, r = rowK k := ⟨_, rfl⟩
      rw [← hr] at q0 q1 q2 q3 hpl hin
      dsimp only at q0 q1 q2 q3 hpl hin
      have i1 := idx_row4 g 10 10 k hlt
      have Q0 := fun (V : World) (hV : Below V0.heap.size V0 V) => (hV.cell (p := ⟨g, k * 4, none⟩) HG.out).trans q0
      have Q1 := fun (V : World) (hV : Below V0.heap.size V0 V) => (hV.cell (p := ⟨g, k * 4 + 1, none⟩) HG.out).trans q1
      have HQ : Hid (∀ V, Below V0.heap.size V0 V → V.cell? ⟨g, k * 4 + 2, none⟩ = some (.int .i64 (rc : Int)) ∧ V.cell? ⟨g, k * 4 + 3, none⟩ = some (.int .i64 (rd : Int))) := Lib.hid fun V hV => ⟨(hV.cell (p := ⟨g, k * 4 + 2, none⟩) HG.out).trans q2, (hV.cell (p := ⟨g, k * 4 + 3, none⟩) HG.out).trans q3⟩
      have KP : Hid (∀ V, Below V0.heap.size V0 V → Calls Try.prog 12 #[] V fun e w' => ∃ A n c, e = .returned (.slice A n c) ∧ Hid (LinesAt T_ w' (.slice A n c) pageV) ∧ Below V.heap.size V w' ∧ Below V0.heap.size V0 w') := Lib.hid fun V hV => (page_any V).mono fun e w' ⟨u, he, hl, hb⟩ => by
        obtain ⟨A, c, e2, -⟩ := id hl
        exact ⟨A, _, c, by rw [he, e2], Lib.hid (by rw [e2] at hl; exact hl.any), hb, hV.trans (hb.mono hV.size)⟩
      have KL : Hid (∀ V A n c, LinesAt T_ V (.slice A n c) pageV → Below V0.heap.size V0 V → Calls Try.prog 11 #[.slice A n c, .int .i64 3, .int .i64 ra, .int .i64 rb] V fun e w' => e = .returned (.tuple #[.int .i64 (rc : Int), .int .i64 (rd : Int)]) ∧ Below V0.heap.size V0 w') := Lib.hid fun V A n c hl hV => by
        have := pplace_any hl sm_page.1 sm_page.2 3 ra rb ⟨by decide, by decide⟩ hin.1 hin.2
        rw [hpl] at this
        exact this.mono fun e w' ⟨he, hb⟩ => ⟨he, hV.trans (hb.mono hV.size)⟩
      have n1 : ((rc : Int) != (rc : Int)) = false := by simp
      have n2 : ((rd : Int) != (rd : Int)) = false := by simp
      have kd := below_drew H.out 1
      clear q0 q1 q2 q3 hpl hin hr
      go_wp2_with fail
      go_region_held3 (fun V => Below V0.heap.size V0 V) (assumption)
        (first
          | (go_at_call 12; (with_reducible refine (KP.out _ (by assumption)).mono ?_); rintro e v1 ⟨Ap, np, cp, rfl, L1, j0, j1⟩)
          | (go_at_call 11; (with_reducible refine (KL.out _ _ _ _ L1.out (by assumption)).mono ?_); rintro e v2 ⟨rfl, j2⟩))
      have HJ := Lib.hid (show Below V0.heap.size V0 _ from j2)
      have d2 := (HQ.out _ HJ.out).1
      have d3 := (HQ.out _ HJ.out).2
      clear Q0 Q1 HQ KP KL L1 j0 j1 j2 kd H
      go_wp2
      go_roundw
      case rel => exact ⟨k + 1, _, rfl, hlt, by go_num, HJ⟩
      case measure => simp [RowKit.intOf]; omega
    · have glt : decide ((k : Int) < 10) = false := by simp; omega
      have glt' : decide (k < 10) = false := by simp; omega
      have HBr : Hid (Below w.heap.size w wr) := Lib.hid (HB0.out.trans (H.out.mono HB0.out.size))
      clear H H0 HG HGq
      have K := Lib.hid (of_law _ false false _ st_1 (by decide) wr)
      go_wp2_with fail
      refine (show Calls _ _ _ _ _ from K.out).mono ?_
      rintro e x1 ⟨A1, n1, c1, rfl, L1, b1⟩
      have HB_1 := Lib.hid (HBr.out.trans (b1.mono HBr.out.size))
      clear b1 K HBr
      have HF := Lib.hid (lits_any [⟨.slice A1 n1 c1, false, false⟩] wideL rfl (by decide) (fun k hk => by
          have hk : k < 1 := hk
          match k, hk with
          | 0, _ => exact ⟨rfl, rfl, L1.out⟩))
      have hal : Below x1.heap.size x1 (x1.alloc (.cells (rawsC [⟨.slice A1 n1 c1, false, false⟩]).toArray 30)) := (Below.refl _ _).alloc (Nat.le_refl _) _
      go_upto_region 9 with fail
      change Code.wp _ _ _ _ (x1.alloc (.cells (rawsC [⟨.slice A1 n1 c1, false, false⟩]).toArray 30))
      obtain ⟨x2, hx2⟩ : ∃ x, x1.alloc (.cells (rawsC [⟨.slice A1 n1 c1, false, false⟩]).toArray 30) = x := ⟨_, rfl⟩
      rw [hx2] at HF hal ⊢
      obtain ⟨g2, hg2⟩ : ∃ g, g = x1.heap.size := ⟨_, rfl⟩
      have HB_2 := Lib.hid (HB_1.out.trans (hal.mono HB_1.out.size))
      rw [← hg2] at HF ⊢
      have Wd_2 := HF
      clear HF hal hx2 hg2 HB_1 L1
      have K := Lib.hid (of_law _ true true _ st_2 (by decide) x2)
      go_wp2_with fail
      refine (show Calls _ _ _ _ _ from K.out).mono ?_
      rintro e x3 ⟨A3, n3, c3, rfl, L3, b3⟩
      have HB_3 := Lib.hid (HB_2.out.trans (b3.mono HB_2.out.size))
      have Wd_3 := Lib.hid (Wd_2.out.below b3)
      clear b3 K HB_2 Wd_2
      have K := Lib.hid (of_law _ false false _ st_3 (by decide) x3)
      go_wp2_with fail
      refine (show Calls _ _ _ _ _ from K.out).mono ?_
      rintro e x4 ⟨A4, n4, c4, rfl, L4, b4⟩
      have HB_4 := Lib.hid (HB_3.out.trans (b4.mono HB_3.out.size))
      have Wd_4 := Lib.hid (Wd_3.out.below b4)
      have o1_4 := Lib.hid (L3.out.below b4)
      clear b4 K HB_3 Wd_3 L3
      have HF := Lib.hid (lits_any [⟨.slice A3 n3 c3, true, true⟩, ⟨.slice A4 n4 c4, false, false⟩] threeL rfl (by decide) (fun k hk => by
          have hk : k < 2 := hk
          match k, hk with
          | 0, _ => exact ⟨rfl, rfl, o1_4.out⟩
          | 1, _ => exact ⟨rfl, rfl, L4.out⟩))
      have hal : Below x4.heap.size x4 (x4.alloc (.cells (rawsC [⟨.slice A3 n3 c3, true, true⟩, ⟨.slice A4 n4 c4, false, false⟩]).toArray 30)) := (Below.refl _ _).alloc (Nat.le_refl _) _
      go_upto_region 10 with fail
      change Code.wp _ _ _ _ (x4.alloc (.cells (rawsC [⟨.slice A3 n3 c3, true, true⟩, ⟨.slice A4 n4 c4, false, false⟩]).toArray 30))
      obtain ⟨x5, hx5⟩ : ∃ x, x4.alloc (.cells (rawsC [⟨.slice A3 n3 c3, true, true⟩, ⟨.slice A4 n4 c4, false, false⟩]).toArray 30) = x := ⟨_, rfl⟩
      rw [hx5] at HF hal ⊢
      obtain ⟨g5, hg5⟩ : ∃ g, g = x4.heap.size := ⟨_, rfl⟩
      have HB_5 := Lib.hid (HB_4.out.trans (hal.mono HB_4.out.size))
      have Wd_5 := Lib.hid (Wd_4.out.below hal)
      rw [← hg5] at HF ⊢
      have Th_5 := HF
      clear HF hal hx5 hg5 HB_4 Wd_4 o1_4 L4
      have K := Lib.hid (lines_law Wd_5.out sm_wide 3 ⟨by decide, by decide⟩ threeL ln_w3)
      go_wp2_with fail
      refine (show Calls _ _ _ _ _ from K.out).mono ?_
      rintro e x6 ⟨A6, n6, c6, rfl, L6, b6⟩
      have HB_6 := Lib.hid (HB_5.out.trans (b6.mono HB_5.out.size))
      have Wd_6 := Lib.hid (Wd_5.out.below b6)
      have Th_6 := Lib.hid (Th_5.out.below b6)
      clear b6 K HB_5 Wd_5 Th_5
      have R6 := Lib.hid L6.out.2
      clear L6
      have K := Lib.hid (same_law R6.out Th_6.out rfl sm_three.1 sm_three.2)
      go_wp2_with fail
      refine (show Calls _ _ _ _ _ from K.out).mono ?_
      rintro e x7 ⟨rfl, b7⟩
      have HB_7 := Lib.hid (HB_6.out.trans (b7.mono HB_6.out.size))
      have Wd_7 := Lib.hid (Wd_6.out.below b7)
      have Th_7 := Lib.hid (Th_6.out.below b7)
      have r_7 := Lib.hid (R6.out.below b7)
      clear b7 K HB_6 Wd_6 Th_6 R6
      clear r_7
      have K := Lib.hid (lines_law Th_7.out sm_three 5 ⟨by decide, by decide⟩ wideL ln_t5)
      go_wp2_with fail
      refine (show Calls _ _ _ _ _ from K.out).mono ?_
      rintro e x8 ⟨A8, n8, c8, rfl, L8, b8⟩
      have HB_8 := Lib.hid (HB_7.out.trans (b8.mono HB_7.out.size))
      have Wd_8 := Lib.hid (Wd_7.out.below b8)
      have Th_8 := Lib.hid (Th_7.out.below b8)
      clear b8 K HB_7 Wd_7 Th_7
      have R8 := Lib.hid L8.out.2
      clear L8
      have K := Lib.hid (same_law R8.out Wd_8.out rfl sm_wide.1 sm_wide.2)
      go_wp2_with fail
      refine (show Calls _ _ _ _ _ from K.out).mono ?_
      rintro e x9 ⟨rfl, b9⟩
      have HB_9 := Lib.hid (HB_8.out.trans (b9.mono HB_8.out.size))
      have Wd_9 := Lib.hid (Wd_8.out.below b9)
      have Th_9 := Lib.hid (Th_8.out.below b9)
      have r_9 := Lib.hid (R8.out.below b9)
      clear b9 K HB_8 Wd_8 Th_8 R8
      clear r_9
      have K := Lib.hid (lines_law Wd_9.out sm_wide 2 ⟨by decide, by decide⟩ twoL ln_w2)
      go_wp2_with fail
      refine (show Calls _ _ _ _ _ from K.out).mono ?_
      rintro e x10 ⟨A10, n10, c10, rfl, L10, b10⟩
      have HB_10 := Lib.hid (HB_9.out.trans (b10.mono HB_9.out.size))
      have Wd_10 := Lib.hid (Wd_9.out.below b10)
      have Th_10 := Lib.hid (Th_9.out.below b10)
      clear b10 K HB_9 Wd_9 Th_9
      have R10 := Lib.hid L10.out.2
      clear L10
      clear Wd_10
      have K := Lib.hid (of_law _ true false _ st_4 (by decide) x10)
      go_wp2_with fail
      refine (show Calls _ _ _ _ _ from K.out).mono ?_
      rintro e x11 ⟨A11, n11, c11, rfl, L11, b11⟩
      have HB_11 := Lib.hid (HB_10.out.trans (b11.mono HB_10.out.size))
      have Th_11 := Lib.hid (Th_10.out.below b11)
      have r_11 := Lib.hid (R10.out.below b11)
      clear b11 K HB_10 Th_10 R10
      have K := Lib.hid (of_law _ true false _ st_5 (by decide) x11)
      go_wp2_with fail
      refine (show Calls _ _ _ _ _ from K.out).mono ?_
      rintro e x12 ⟨A12, n12, c12, rfl, L12, b12⟩
      have HB_12 := Lib.hid (HB_11.out.trans (b12.mono HB_11.out.size))
      have Th_12 := Lib.hid (Th_11.out.below b12)
      have r_12 := Lib.hid (r_11.out.below b12)
      have o1_12 := Lib.hid (L11.out.below b12)
      clear b12 K HB_11 Th_11 r_11 L11
      have K := Lib.hid (of_law _ false false _ st_6 (by decide) x12)
      go_wp2_with fail
      refine (show Calls _ _ _ _ _ from K.out).mono ?_
      rintro e x13 ⟨A13, n13, c13, rfl, L13, b13⟩
      have HB_13 := Lib.hid (HB_12.out.trans (b13.mono HB_12.out.size))
      have Th_13 := Lib.hid (Th_12.out.below b13)
      have r_13 := Lib.hid (r_12.out.below b13)
      have o1_13 := Lib.hid (o1_12.out.below b13)
      have o2_13 := Lib.hid (L12.out.below b13)
      clear b13 K HB_12 Th_12 r_12 o1_12 L12
      have HF := Lib.hid (lits_any [⟨.slice A11 n11 c11, true, false⟩, ⟨.slice A12 n12 c12, true, false⟩, ⟨.slice A13 n13 c13, false, false⟩] twoL rfl (by decide) (fun k hk => by
          have hk : k < 3 := hk
          match k, hk with
          | 0, _ => exact ⟨rfl, rfl, o1_13.out⟩
          | 1, _ => exact ⟨rfl, rfl, o2_13.out⟩
          | 2, _ => exact ⟨rfl, rfl, L13.out⟩))
      have hal : Below x13.heap.size x13 (x13.alloc (.cells (rawsC [⟨.slice A11 n11 c11, true, false⟩, ⟨.slice A12 n12 c12, true, false⟩, ⟨.slice A13 n13 c13, false, false⟩]).toArray 30)) := (Below.refl _ _).alloc (Nat.le_refl _) _
      have K := Lib.hid (same_law (r_13.out.below hal) HF.out rfl sm_two.1 sm_two.2)
      have HB_14 := Lib.hid (HB_13.out.trans (hal.mono HB_13.out.size))
      have Th_14 := Lib.hid (Th_13.out.below hal)
      clear HF hal HB_13 Th_13 r_13 o1_13 o2_13 L13
      go_wp2_with fail
      refine (show Calls _ _ _ _ _ from K.out).mono ?_
      rintro e x15 ⟨rfl, b15⟩
      have HB_15 := Lib.hid (HB_14.out.trans (b15.mono HB_14.out.size))
      have Th_15 := Lib.hid (Th_14.out.below b15)
      clear b15 K HB_14 Th_14
      have K := Lib.hid (of_law _ true false _ st_2 (by decide) x15)
      go_wp2_with fail
      refine (show Calls _ _ _ _ _ from K.out).mono ?_
      rintro e x16 ⟨A16, n16, c16, rfl, L16, b16⟩
      have HB_16 := Lib.hid (HB_15.out.trans (b16.mono HB_15.out.size))
      have Th_16 := Lib.hid (Th_15.out.below b16)
      clear b16 K HB_15 Th_15
      have K := Lib.hid (of_law _ false false _ st_7 (by decide) x16)
      go_wp2_with fail
      refine (show Calls _ _ _ _ _ from K.out).mono ?_
      rintro e x17 ⟨A17, n17, c17, rfl, L17, b17⟩
      have HB_17 := Lib.hid (HB_16.out.trans (b17.mono HB_16.out.size))
      have Th_17 := Lib.hid (Th_16.out.below b17)
      have o1_17 := Lib.hid (L16.out.below b17)
      clear b17 K HB_16 Th_16 L16
      have K := Lib.hid (of_law _ false false _ st_8 (by decide) x17)
      go_wp2_with fail
      refine (show Calls _ _ _ _ _ from K.out).mono ?_
      rintro e x18 ⟨A18, n18, c18, rfl, L18, b18⟩
      have HB_18 := Lib.hid (HB_17.out.trans (b18.mono HB_17.out.size))
      have Th_18 := Lib.hid (Th_17.out.below b18)
      have o1_18 := Lib.hid (o1_17.out.below b18)
      have o2_18 := Lib.hid (L17.out.below b18)
      clear b18 K HB_17 Th_17 o1_17 L17
      have K := Lib.hid (of_law _ true false _ st_9 (by decide) x18)
      go_wp2_with fail
      refine (show Calls _ _ _ _ _ from K.out).mono ?_
      rintro e x19 ⟨A19, n19, c19, rfl, L19, b19⟩
      have HB_19 := Lib.hid (HB_18.out.trans (b19.mono HB_18.out.size))
      have Th_19 := Lib.hid (Th_18.out.below b19)
      have o1_19 := Lib.hid (o1_18.out.below b19)
      have o2_19 := Lib.hid (o2_18.out.below b19)
      have o3_19 := Lib.hid (L18.out.below b19)
      clear b19 K HB_18 Th_18 o1_18 o2_18 L18
      have HF := Lib.hid (lits_any [⟨.slice A16 n16 c16, true, false⟩, ⟨.slice A17 n17 c17, false, false⟩, ⟨.slice A18 n18 c18, false, false⟩, ⟨.slice A19 n19 c19, true, false⟩] blankL rfl (by decide) (fun k hk => by
          have hk : k < 4 := hk
          match k, hk with
          | 0, _ => exact ⟨rfl, rfl, o1_19.out⟩
          | 1, _ => exact ⟨rfl, rfl, o2_19.out⟩
          | 2, _ => exact ⟨rfl, rfl, o3_19.out⟩
          | 3, _ => exact ⟨rfl, rfl, L19.out⟩))
      have hal : Below x19.heap.size x19 (x19.alloc (.cells (rawsC [⟨.slice A16 n16 c16, true, false⟩, ⟨.slice A17 n17 c17, false, false⟩, ⟨.slice A18 n18 c18, false, false⟩, ⟨.slice A19 n19 c19, true, false⟩]).toArray 30)) := (Below.refl _ _).alloc (Nat.le_refl _) _
      go_upto_region 12 with fail
      change Code.wp _ _ _ _ (x19.alloc (.cells (rawsC [⟨.slice A16 n16 c16, true, false⟩, ⟨.slice A17 n17 c17, false, false⟩, ⟨.slice A18 n18 c18, false, false⟩, ⟨.slice A19 n19 c19, true, false⟩]).toArray 30))
      obtain ⟨x20, hx20⟩ : ∃ x, x19.alloc (.cells (rawsC [⟨.slice A16 n16 c16, true, false⟩, ⟨.slice A17 n17 c17, false, false⟩, ⟨.slice A18 n18 c18, false, false⟩, ⟨.slice A19 n19 c19, true, false⟩]).toArray 30) = x := ⟨_, rfl⟩
      rw [hx20] at HF hal ⊢
      obtain ⟨g20, hg20⟩ : ∃ g, g = x19.heap.size := ⟨_, rfl⟩
      have HB_20 := Lib.hid (HB_19.out.trans (hal.mono HB_19.out.size))
      have Th_20 := Lib.hid (Th_19.out.below hal)
      rw [← hg20] at HF ⊢
      have Bl_20 := HF
      clear HF hal hx20 hg20 HB_19 Th_19 o1_19 o2_19 o3_19 L19
      have K := Lib.hid (lines_law Bl_20.out sm_blank 2 ⟨by decide, by decide⟩ cutL ln_b2)
      go_wp2_with fail
      refine (show Calls _ _ _ _ _ from K.out).mono ?_
      rintro e x21 ⟨A21, n21, c21, rfl, L21, b21⟩
      have HB_21 := Lib.hid (HB_20.out.trans (b21.mono HB_20.out.size))
      have Th_21 := Lib.hid (Th_20.out.below b21)
      have Bl_21 := Lib.hid (Bl_20.out.below b21)
      clear b21 K HB_20 Th_20 Bl_20
      have R21 := Lib.hid L21.out.2
      clear L21
      have K := Lib.hid (of_law _ false false _ st_4 (by decide) x21)
      go_wp2_with fail
      refine (show Calls _ _ _ _ _ from K.out).mono ?_
      rintro e x22 ⟨A22, n22, c22, rfl, L22, b22⟩
      have HB_22 := Lib.hid (HB_21.out.trans (b22.mono HB_21.out.size))
      have Th_22 := Lib.hid (Th_21.out.below b22)
      have Bl_22 := Lib.hid (Bl_21.out.below b22)
      have r_22 := Lib.hid (R21.out.below b22)
      clear b22 K HB_21 Th_21 Bl_21 R21
      have K := Lib.hid (of_law _ false false _ st_10 (by decide) x22)
      go_wp2_with fail
      refine (show Calls _ _ _ _ _ from K.out).mono ?_
      rintro e x23 ⟨A23, n23, c23, rfl, L23, b23⟩
      have HB_23 := Lib.hid (HB_22.out.trans (b23.mono HB_22.out.size))
      have Th_23 := Lib.hid (Th_22.out.below b23)
      have Bl_23 := Lib.hid (Bl_22.out.below b23)
      have r_23 := Lib.hid (r_22.out.below b23)
      have o1_23 := Lib.hid (L22.out.below b23)
      clear b23 K HB_22 Th_22 Bl_22 r_22 L22
      have K := Lib.hid (of_law _ true false _ st_10 (by decide) x23)
      go_wp2_with fail
      refine (show Calls _ _ _ _ _ from K.out).mono ?_
      rintro e x24 ⟨A24, n24, c24, rfl, L24, b24⟩
      have HB_24 := Lib.hid (HB_23.out.trans (b24.mono HB_23.out.size))
      have Th_24 := Lib.hid (Th_23.out.below b24)
      have Bl_24 := Lib.hid (Bl_23.out.below b24)
      have r_24 := Lib.hid (r_23.out.below b24)
      have o1_24 := Lib.hid (o1_23.out.below b24)
      have o2_24 := Lib.hid (L23.out.below b24)
      clear b24 K HB_23 Th_23 Bl_23 r_23 o1_23 L23
      have K := Lib.hid (of_law _ false false _ st_6 (by decide) x24)
      go_wp2_with fail
      refine (show Calls _ _ _ _ _ from K.out).mono ?_
      rintro e x25 ⟨A25, n25, c25, rfl, L25, b25⟩
      have HB_25 := Lib.hid (HB_24.out.trans (b25.mono HB_24.out.size))
      have Th_25 := Lib.hid (Th_24.out.below b25)
      have Bl_25 := Lib.hid (Bl_24.out.below b25)
      have r_25 := Lib.hid (r_24.out.below b25)
      have o1_25 := Lib.hid (o1_24.out.below b25)
      have o2_25 := Lib.hid (o2_24.out.below b25)
      have o3_25 := Lib.hid (L24.out.below b25)
      clear b25 K HB_24 Th_24 Bl_24 r_24 o1_24 o2_24 L24
      have HF := Lib.hid (lits_any [⟨.slice A22 n22 c22, false, false⟩, ⟨.slice A23 n23 c23, false, false⟩, ⟨.slice A24 n24 c24, true, false⟩, ⟨.slice A25 n25 c25, false, false⟩] cutL rfl (by decide) (fun k hk => by
          have hk : k < 4 := hk
          match k, hk with
          | 0, _ => exact ⟨rfl, rfl, o1_25.out⟩
          | 1, _ => exact ⟨rfl, rfl, o2_25.out⟩
          | 2, _ => exact ⟨rfl, rfl, o3_25.out⟩
          | 3, _ => exact ⟨rfl, rfl, L25.out⟩))
      have hal : Below x25.heap.size x25 (x25.alloc (.cells (rawsC [⟨.slice A22 n22 c22, false, false⟩, ⟨.slice A23 n23 c23, false, false⟩, ⟨.slice A24 n24 c24, true, false⟩, ⟨.slice A25 n25 c25, false, false⟩]).toArray 30)) := (Below.refl _ _).alloc (Nat.le_refl _) _
      have K := Lib.hid (same_law (r_25.out.below hal) HF.out rfl sm_cut.1 sm_cut.2)
      have HB_26 := Lib.hid (HB_25.out.trans (hal.mono HB_25.out.size))
      have Th_26 := Lib.hid (Th_25.out.below hal)
      have Bl_26 := Lib.hid (Bl_25.out.below hal)
      clear HF hal HB_25 Th_25 Bl_25 r_25 o1_25 o2_25 o3_25 L25
      go_wp2_with fail
      refine (show Calls _ _ _ _ _ from K.out).mono ?_
      rintro e x27 ⟨rfl, b27⟩
      have HB_27 := Lib.hid (HB_26.out.trans (b27.mono HB_26.out.size))
      have Th_27 := Lib.hid (Th_26.out.below b27)
      have Bl_27 := Lib.hid (Bl_26.out.below b27)
      clear b27 K HB_26 Th_26 Bl_26
      have K := Lib.hid (text_law Bl_27.out)
      go_wp2_with fail
      refine (show Calls _ _ _ _ _ from K.out).mono ?_
      rintro e x28 ⟨bt, ot, ct, rfl, X28, b28⟩
      have HB_28 := Lib.hid (HB_27.out.trans (b28.mono HB_27.out.size))
      have Th_28 := Lib.hid (Th_27.out.below b28)
      have Bl_28 := Lib.hid (Bl_27.out.below b28)
      clear b28 K HB_27 Th_27 Bl_27
      clear Bl_28
      have K := Lib.hid (place_law Th_28.out)
      go_wp2_with fail
      refine (show Calls _ _ _ _ _ from K.out).mono ?_
      rintro e x29 ⟨rfl, b29⟩
      have HB_29 := Lib.hid (HB_28.out.trans (b29.mono HB_28.out.size))
      have Th_29 := Lib.hid (Th_28.out.below b29)
      have Tx_29 := Lib.hid (X28.out.below b29)
      clear b29 K HB_28 Th_28 X28
      clear Th_29
      have t0 := Tx_29.out.c0
      have t1 := Tx_29.out.c1
      have t2 := Tx_29.out.c2
      have it0 : ∀ V, (Instr.indexAt 45 (.slice (some ⟨bt, ot, none⟩) 3 ct) (.int .i64 0)).run Try.prog V = .ok (.pointer (some ⟨bt, ot, none⟩)) V := fun V => idx_text bt ot 3 ct 0 (by decide) V
      have it1 : ∀ V, (Instr.indexAt 45 (.slice (some ⟨bt, ot, none⟩) 3 ct) (.int .i64 1)).run Try.prog V = .ok (.pointer (some ⟨bt, ot + 1, none⟩)) V := fun V => idx_text bt ot 3 ct 1 (by decide) V
      have it2 : ∀ V, (Instr.indexAt 45 (.slice (some ⟨bt, ot, none⟩) 3 ct) (.int .i64 2)).run Try.prog V = .ok (.pointer (some ⟨bt, ot + 2, none⟩)) V := fun V => idx_text bt ot 3 ct 2 (by decide) V
      have eq0 : ∀ V, (binOp .eql 9 (.string ⟨#[97, 98]⟩) (.string ⟨#[97, 98]⟩)).run Try.prog V = .ok (.bool true) V := fun V => by kernel_rfl
      have eq1 : ∀ V, (binOp .eql 9 (.string ⟨#[]⟩) (.string ⟨#[]⟩)).run Try.prog V = .ok (.bool true) V := fun V => by kernel_rfl
      have eq2 : ∀ V, (binOp .eql 9 (.string ⟨#[32, 32, 99]⟩) (.string ⟨#[32, 32, 99]⟩)).run Try.prog V = .ok (.bool true) V := fun V => by kernel_rfl
      have K := Lib.hid (page_law x29)
      go_wp2_with fail
      refine (show Calls _ _ _ _ _ from K.out).mono ?_
      rintro e x30 ⟨A30, n30, c30, rfl, L30, b30⟩
      have HB_30 := Lib.hid (HB_29.out.trans (b30.mono HB_29.out.size))
      have Tx_30 := Lib.hid (Tx_29.out.below b30)
      clear b30 K HB_29 Tx_29
      have K := Lib.hid (lines0_law L30.out sm_page 1 ⟨by decide, by decide⟩ ln_p1)
      go_wp2_with fail
      refine (show Calls _ _ _ _ _ from K.out).mono ?_
      rintro e x31 ⟨A31, c31, rfl, b31⟩
      have HB_31 := Lib.hid (HB_30.out.trans (b31.mono HB_30.out.size))
      have Tx_31 := Lib.hid (Tx_30.out.below b31)
      have pg_31 := Lib.hid (L30.out.below b31)
      clear b31 K HB_30 Tx_30 L30
      clear pg_31
      try clear t0 t1 t2
      have K := Lib.hid (page_law x31)
      go_wp2_with fail
      refine (show Calls _ _ _ _ _ from K.out).mono ?_
      rintro e x32 ⟨A32, n32, c32, rfl, L32, b32⟩
      have HB_32 := Lib.hid (HB_31.out.trans (b32.mono HB_31.out.size))
      have Tx_32 := Lib.hid (Tx_31.out.below b32)
      clear b32 K HB_31 Tx_31
      have K := Lib.hid (lines0_law L32.out sm_page 401 ⟨by decide, by decide⟩ ln_p401)
      go_wp2_with fail
      refine (show Calls _ _ _ _ _ from K.out).mono ?_
      rintro e x33 ⟨A33, c33, rfl, b33⟩
      have HB_33 := Lib.hid (HB_32.out.trans (b33.mono HB_32.out.size))
      have Tx_33 := Lib.hid (Tx_32.out.below b33)
      have pg_33 := Lib.hid (L32.out.below b33)
      clear b33 K HB_32 Tx_32 L32
      clear pg_33
      have K := Lib.hid (lines0_law (lines_nil T_ x33) sm_nil 3 ⟨by decide, by decide⟩ ln_n3)
      go_wp2_with fail
      refine (show Calls _ _ _ _ _ from K.out).mono ?_
      rintro e x34 ⟨A34, c34, rfl, b34⟩
      have HB_34 := Lib.hid (HB_33.out.trans (b34.mono HB_33.out.size))
      have Tx_34 := Lib.hid (Tx_33.out.below b34)
      clear b34 K HB_33 Tx_33
      have K := Lib.hid (wakes_any x34)
      go_wp2_with fail
      refine (show Calls _ _ _ _ _ from K.out).mono ?_
      rintro e x35 ⟨rfl, b35⟩
      have HB_35 := Lib.hid (HB_34.out.trans (b35.mono HB_34.out.size))
      have Tx_35 := Lib.hid (Tx_34.out.below b35)
      clear b35 K HB_34 Tx_34
      go_wp2
      go_ret
      exact ⟨rfl, HB_35.out⟩
end Go.Proofs.Ytifolcfnknlmdaa.Re
