/- Layer 9: WidthBounds' walk. -/
import Derived.Test.YtablkipcngbkjaaDoorWdE
import Derived.Deep.RegionHeld3
import Derived.Deep.QuietTactic
import Derived.BigQuiet
set_option linter.unusedVariables false
namespace Go.Proofs.YtablkipcngbkjaaDoor
open Go.RowKit Wid

theorem below_drew {B : Nat} {a w : World} (h : Below B a w) (n : Nat) : Below B a (w.drewN n) := ⟨h.os, h.tape, h.output, h.size, h.block⟩
theorem ends_all : docT.all (fun x => decide (ofV x.1 = x.2.2) && decide (ofV x.2.1 = x.2.2)) = true := by decide +kernel
theorem ends_row {k : Nat} (hk : k < docT.length) : ofV (docT[k]).1 = (docT[k]).2.2 ∧ ofV (docT[k]).2.1 = (docT[k]).2.2 := by simpa using List.all_eq_true.1 ends_all _ (List.getElem_mem hk)
theorem bo_fits : Fits [101, 769, 98] 1 2 := fits_is 2 (by decide) (by decide +kernel) (fun _ => by decide +kernel)
theorem bo_left : 1 - sumV ([101, 769, 98].take 2) = 0 := by decide +kernel

set_option maxHeartbeats 8000000 in
set_option maxRecDepth 100000 in
theorem bounds_walk (w : World) (hT : WTab w) : Calls Tryd.prog 3 #[] w fun e w' => e = .returned (.bool true) ∧ Below w.heap.size w w' := by
  have HT := Lib.hid hT
  clear hT
  have kb := build3
  go_enter Tryd.func3, Tryd.ntmps3
  go_upto_region 1 with fail
  go_cut [1] (fun s1 wc => s1 = .slice (some ⟨w.heap.size, 0, none⟩) 26 26 ∧ DocAt wc w.heap.size ∧ Below w.heap.size w wc ∧ w.heap.size < wc.heap.size)
  case first =>
    go_wp2
    go_meet
    exact ⟨rfl, doc_new w, (Below.refl _ _).alloc (Nat.le_refl _) _, by simp⟩
  case rest =>
    obtain ⟨rfl, hD, hB, hS⟩ := hcut
    have HD := Lib.hid hD
    have HB0 := Lib.hid hB
    have HS0 := Lib.hid hS
    clear hD hB kb hS
    rename_i wc
    obtain ⟨R, hR⟩ : ∃ R, R = w.heap.size := ⟨_, rfl⟩
    have HR := Lib.hid hR
    rw [← hR] at HD HS0 ⊢
    clear hR
    go_wp2
    go_loopw [2] (fun i wr => ∃ k : Nat, k ≤ 26 ∧ i = .int .i64 k ∧ Hid (Below wc.heap.size wc wr)) (fun i _ => 26 - (RowKit.intOf i).toNat)
    case atStart => exact ⟨0, by omega, rfl, Lib.hid (Below.refl _ _)⟩
    case round =>
      obtain ⟨k, hk, rfl, HB⟩ := hrel
      obtain ⟨wo, rfl⟩ : ∃ wo : World, wo = wr := ⟨_, rfl⟩
      by_cases hlt : k < 26
      · have hlt' : k < docT.length := by rw [doc_len]; exact hlt
        have HC := Lib.hid (fun (W : World) (hW : Below wc.heap.size wc W) => (HD.out.below hW HS0.out) k hlt')
        have g3 := doc_row hlt'
        have HV := Lib.hid (ends_row hlt')
        generalize docT[k] = x at HC HV g3
        obtain ⟨x1, x2, x3⟩ := x
        dsimp only at HC HV g3
        obtain ⟨g3, g4⟩ := g3
        have gk : decide ((k : Int) < 26) = true := by simp; omega
        have HTell := Lib.hid (fun (r : Int) (W : World) (hW : Below wc.heap.size wc W) => tells_any r W (HT.out.below (HB0.out.trans (hW.mono HB0.out.size)) (Nat.le_refl _)))
        go_wp2
        go_loopw [3] (fun s3 wi => ∃ d : Int, -1 ≤ d ∧ d ≤ 2 ∧ s3 = .int .i32 d ∧ Hid (Below wc.heap.size wc wi)) (fun s3 _ => (2 - RowKit.intOf s3).toNat)
        case atStart => exact ⟨-1, by omega, by omega, rfl, HB⟩
        case round =>
          obtain ⟨d, hd1, hd2, rfl, HBi⟩ := hrel
          by_cases hdd : d ≤ 1
          · obtain ⟨c1, c2, c3⟩ := HC.out wr HBi.out
            go_wp2_with fail
            refine (HTell.out _ _ HBi.out).mono ?_
            rintro e w1 ⟨rfl, hb⟩
            have HB1 := Lib.hid (HBi.out.trans (hb.mono HBi.out.size))
            obtain ⟨c1', c2', c3'⟩ := HC.out w1 HB1.out
            clear hb c1 c2 c3
            go_wp2_with fail
            refine (HTell.out _ _ HB1.out).mono ?_
            rintro e w2 ⟨rfl, hb⟩
            have HB2 := Lib.hid (HB1.out.trans (hb.mono HB1.out.size))
            clear hb c1' c2' c3'
            go_wp2
            go_roundw
            case rel => exact ⟨d + 1, by omega, by omega, rfl, HB2⟩
            case measure => simp [RowKit.intOf]; omega
          · have hd : decide (d ≤ 1) = false := by simpa using hdd
            have HOf1 := Lib.hid (fun (W : World) (hW : Below wc.heap.size wc W) => of_is HV.out.1 W (HT.out.below (HB0.out.trans (hW.mono HB0.out.size)) (Nat.le_refl _)))
            have HOf2 := Lib.hid (fun (W : World) (hW : Below wc.heap.size wc W) => of_is HV.out.2 W (HT.out.below (HB0.out.trans (hW.mono HB0.out.size)) (Nat.le_refl _)))
            have HCW : Hid (∀ W, Below wr.heap.size wr W → (W.cell? ⟨R, k * 3, none⟩ = some (.int .i32 x1) ∧ W.cell? ⟨R, k * 3 + 1, none⟩ = some (.int .i32 x2) ∧ W.cell? ⟨R, k * 3 + 2, none⟩ = some (.int .i32 x3))) := Lib.hid fun W hW => HC.out W (HBi.out.trans (hW.mono HBi.out.size))
            have HO1 : Hid (∀ W, Below wr.heap.size wr W → Calls Tryd.prog 7 #[.int .i32 x1] W fun e w' => e = .returned (.int .i64 x3) ∧ Below wr.heap.size wr w') := Lib.hid fun W hW => (HOf1.out W (HBi.out.trans (hW.mono HBi.out.size))).mono fun _ _ hx => ⟨hx.1, hW.trans (hx.2.mono hW.size)⟩
            have HO2 : Hid (∀ W, Below wr.heap.size wr W → Calls Tryd.prog 7 #[.int .i32 x2] W fun e w' => e = .returned (.int .i64 x3) ∧ Below wr.heap.size wr w') := Lib.hid fun W hW => (HOf2.out W (HBi.out.trans (hW.mono HBi.out.size))).mono fun _ _ hx => ⟨hx.1, hW.trans (hx.2.mono hW.size)⟩
            have k0 : Below wr.heap.size wr wr.drew := below_drew (Below.refl _ _) 1
            have gi : (k : Int) < 26 := by omega
            have gj : (0 : Int) ≤ k := by omega
            have gx : (x3 != x3) = false := by simp
            have gw : IntKind.i64.wrap x3 = x3 := IntWalk.i64_in _ (by omega)

            clear HOf1 HOf2 HTell HV
            go_wp2_with fail
            go_region_held3 (fun W => (W.cell? ⟨R, k * 3, none⟩ = some (.int .i32 x1) ∧ W.cell? ⟨R, k * 3 + 1, none⟩ = some (.int .i32 x2) ∧ W.cell? ⟨R, k * 3 + 2, none⟩ = some (.int .i32 x3)))
              (first | exact HCW.out _ k2 | exact HCW.out _ k1 | exact HCW.out _ k0 | go_keep)
              (first | (go_at_call 7; (with_reducible refine (HO1.out _ k0).mono ?_); rintro e w4 ⟨rfl, k1⟩) | (go_at_call 7; (with_reducible refine (HO2.out _ k1).mono ?_); rintro e w5 ⟨rfl, k2⟩))
            have HB5 := Lib.hid (HBi.out.trans (k2.mono HBi.out.size))
            clear k0 k1 k2 HCW HO1 HO2 gw gx gi gj
            go_wp2
            go_roundw
            case rel => exact ⟨k + 1, by omega, by go_num, HB5⟩
            case measure => simp [RowKit.intOf]; omega
      · have hk26 : k = 26 := by omega
        subst hk26
        go_wp2_with fail
        refine (cut_is (l := [101, 769, 98]) 2 bo_fits bo_left (HT.out.below ((HB0.out.trans (HB.out.mono HB0.out.size)).alloc (by have := HB0.out.size; have := HB.out.size; omega) _) (Nat.le_refl _)) ((lit_at _ [101, 769, 98]).more (by simp)) rfl (by decide) (by decide) (by decide)).mono ?_
        rintro e w1 ⟨rfl, hb⟩
        have HBa := Lib.hid (HB0.out.trans (HB.out.mono HB0.out.size))
        have B1 := Lib.hid ((HBa.out.alloc HBa.out.size _).trans (hb.mono (by have := HBa.out.size; simp; omega)))
        clear hb HB HBa
        go_wp2_with fail
        refine (awake_any _ (HT.out.below B1.out (Nat.le_refl _))).mono ?_
        rintro e w2 ⟨rfl, hb⟩
        have B2 := Lib.hid (B1.out.trans (hb.mono B1.out.size))
        clear hb B1
        go_wp2_with fail
        refine (of_is (show ofV (-1) = 1 by decide +kernel) _ (HT.out.below B2.out (Nat.le_refl _))).mono ?_
        rintro e w3 ⟨rfl, hb⟩
        have B3 := Lib.hid (B2.out.trans (hb.mono B2.out.size))
        clear hb B2
        go_wp2_with fail
        refine (of_is (show ofV 1114112 = 1 by decide +kernel) _ (HT.out.below B3.out (Nat.le_refl _))).mono ?_
        rintro e w4 ⟨rfl, hb⟩
        have B4 := Lib.hid (B3.out.trans (hb.mono B3.out.size))
        clear hb B3
        go_wp2_with fail
        refine (of_is (show ofV 128512 = 2 by decide +kernel) _ (HT.out.below B4.out (Nat.le_refl _))).mono ?_
        rintro e w5 ⟨rfl, hb⟩
        have B5 := Lib.hid (B4.out.trans (hb.mono B4.out.size))
        clear hb B4
        go_wp2_with fail
        refine (of_is (show ofV 65533 = 1 by decide +kernel) _ (HT.out.below B5.out (Nat.le_refl _))).mono ?_
        rintro e w6 ⟨rfl, hb⟩
        have B6 := Lib.hid (B5.out.trans (hb.mono B5.out.size))
        clear hb B5
        go_wp2
        go_ret
        exact ⟨rfl, B6.out⟩
end Go.Proofs.YtablkipcngbkjaaDoor
