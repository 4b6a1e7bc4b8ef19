/- Layer 9: the document's Text and Cut; awake. -/
import Derived.Test.YtablkipcngbkjaaDoorWdC
namespace Go.Proofs.YtablkipcngbkjaaDoor
open Go.RowKit Wid

set_option maxHeartbeats 1000000 in
theorem ref_text (l : List Int) (A : Option Addr) (n c : Nat) (w : World) (hR : RunesAt w w.heap.size A l) (hn : n = l.length) (hl : n ≤ 1000000) :
    Calls Tryd.prog 13 #[.slice A n c] w fun e w' => e = .returned (.int .i64 (sumV l)) ∧ Below w.heap.size w w' := by
  have HR := Lib.hid hR
  have HN := Lib.hid hn
  clear hR hn
  go_enter Tryd.func13, Tryd.ntmps13
  go_wp2
  go_loopw [3, 4] (fun s i wr => ∃ k : Nat, k ≤ n ∧ i = .int .i64 k ∧ s = .int .i64 (sumV (l.take k)) ∧ Hid (Below w.heap.size w wr)) (fun _ i _ => n - (RowKit.intOf i).toNat)
  case atStart => exact ⟨0, by omega, rfl, by simp [sumV], Lib.hid (Below.refl _ _)⟩
  case round =>
    obtain ⟨k, hk, rfl, rfl, HB⟩ := hrel
    rename_i wr
    by_cases hlt : k < n
    · have hlt' : k < l.length := by rw [← HN.out]; exact hlt
      obtain ⟨b, o, rfl, hb, hc⟩ := HR.out.at_ hlt'
      have hc := (HB.out.cell (p := ⟨b, o + k, none⟩) hb).trans hc
      have E := Lib.hid (sum_succ hlt')
      have g1 := sum_in (l.take k)
      have g2 := of_in l[k]
      have g3 : (l.take k).length ≤ k := List.length_take_le _ _
      have HC := Lib.hid (ref_of l[k] wr)
      generalize l[k] = r at hc E g2 HC
      generalize hs : sumV (l.take k) = s at E g1 ⊢
      clear hs
      generalize ho : ofV r = q at E g2 HC
      clear ho
      go_wp2_with fail
      refine HC.out.mono ?_
      rintro e w1 ⟨rfl, hb1⟩
      have HB1 := Lib.hid (HB.out.trans (hb1.mono HB.out.size))
      clear hb1
      go_wp2
      go_roundw
      case rel => exact ⟨k + 1, by omega, by go_num, by rw [E.out], HB1⟩
      case measure => simp [RowKit.intOf]; omega
    · have hkn : k = n := by omega
      have E : Hid (sumV (l.take k) = sumV l) := Lib.hid (by rw [hkn, HN.out, List.take_length])
      generalize sumV (l.take k) = s at E ⊢
      subst hkn
      go_wp2
      go_ret
      exact ⟨ret_int E.out, HB.out⟩

theorem add_none (A : Option Addr) : (A.map fun x => x.add 0) = A := by
  cases A with
  | none => rfl
  | some a => simp [Addr.add]

set_option maxHeartbeats 2000000 in
theorem ref_cut (l : List Int) (A : Option Addr) (n cc : Nat) (c : Int) (w : World) (hR : RunesAt w w.heap.size A l) (hn : n = l.length) (hl : n ≤ 1000000) (hcc : n ≤ cc) (hc : 0 ≤ c) (hc2 : c ≤ 9223372036854775807) :
    Calls Tryd.prog 11 #[.slice A n cc, .int .i64 c] w (CutPost w l c) := by
  have HR := Lib.hid hR
  have HN := Lib.hid hn
  have g0 : decide (c < 0) = false := by simpa using hc
  clear hR hn
  go_enter Tryd.func11, Tryd.ntmps11
  go_wp2
  go_loopw [6] (fun m wr => ∃ k : Nat, k ≤ n ∧ m = .int .i64 k ∧ sumV (l.take k) ≤ c ∧ Hid (Below w.heap.size w wr)) (fun m _ => n - (RowKit.intOf m).toNat)
  case atStart => exact ⟨0, by omega, rfl, by simpa [sumV] using hc, Lib.hid (Below.refl _ _)⟩
  case round =>
    obtain ⟨k, hk, rfl, hsum, HB⟩ := hrel
    rename_i wr
    have g6 : (k : Int) ≤ cc := by omega
    have g8 : k ≤ cc := by omega
    have hAd := add_none A
    have HC0 := Lib.hid (fun (W : World) (hW : Below w.heap.size w W) => ref_text (l.take k) A k cc W (((HR.out.below hW (Nat.le_refl _)).more hW.size).take k) (by rw [List.length_take]; have := HN.out; omega) (by omega))
    by_cases hlt : k < n
    · have HC1 := Lib.hid (ref_text (l.take (k + 1)) A (k + 1) cc wr (((HR.out.below HB.out (Nat.le_refl _)).more HB.out.size).take (k + 1)) (by rw [List.length_take]; have := HN.out; omega) (by omega))
      have g7 : (k : Int) + 1 ≤ cc := by omega
      have g9 : k + 1 ≤ cc := by omega
      by_cases hnx : sumV (l.take (k + 1)) ≤ c
      · obtain ⟨s, HS⟩ : ∃ s, Hid (s = sumV (l.take (k + 1))) := ⟨_, Lib.hid rfl⟩
        rw [← HS.out] at hnx HC1
        go_wp2_with fail
        refine HC1.out.mono ?_
        rintro e w1 ⟨rfl, hb1⟩
        have HB1 := Lib.hid (HB.out.trans (hb1.mono HB.out.size))
        clear hb1 HC0
        go_wp2
        go_roundw
        case rel => exact ⟨k + 1, by omega, by go_num, by rw [← HS.out]; exact hnx, HB1⟩
        case measure => simp [RowKit.intOf]; omega
      · have F : Fits l c k := ⟨by rw [← HN.out]; omega, hsum, fun _ => by omega⟩
        have HF := Lib.hid F
        obtain ⟨s, HS⟩ : ∃ s, Hid (s = sumV (l.take (k + 1))) := ⟨_, Lib.hid rfl⟩
        obtain ⟨d, HD⟩ : ∃ d, Hid (d = sumV (l.take k)) := ⟨_, Lib.hid rfl⟩
        rw [← HS.out] at hnx HC1
        rw [← HD.out] at hsum HC0
        have g10 := (sum_in (l.take k)).1
        rw [← HD.out] at g10
        have d1 : decide (s ≤ c) = false := by simpa using hnx
        clear F
        go_wp2_with fail
        refine HC1.out.mono ?_
        rintro e w1 ⟨rfl, hb1⟩
        have HB1 := Lib.hid (HB.out.trans (hb1.mono HB.out.size))
        clear hb1
        go_wp2_with fail
        refine (HC0.out _ HB1.out).mono ?_
        rintro e w2 ⟨rfl, hb2⟩
        have HB2 := Lib.hid (HB1.out.trans (hb2.mono HB1.out.size))
        clear hb2
        go_wp2
        go_ret2
        exact ⟨k, HF.out, ret_two rfl (by rw [← HD.out]), HB2.out⟩
    · have F : Fits l c k := ⟨by rw [← HN.out]; omega, hsum, fun h => by rw [← HN.out] at h; omega⟩
      have HF := Lib.hid F
      obtain ⟨d, HD⟩ : ∃ d, Hid (d = sumV (l.take k)) := ⟨_, Lib.hid rfl⟩
      rw [← HD.out] at hsum HC0
      have g10 := (sum_in (l.take k)).1
      rw [← HD.out] at g10
      clear F
      have HCk := Lib.hid (HC0.out _ HB.out)
      clear HC0
      go_wp2_with fail
      refine HCk.out.mono ?_
      rintro e w2 ⟨rfl, hb2⟩
      have HB2 := Lib.hid (HB.out.trans (hb2.mono HB.out.size))
      clear hb2
      go_wp2
      go_ret2
      exact ⟨k, HF.out, ret_two rfl (by rw [← HD.out]), HB2.out⟩

theorem ref_low (A : Option Addr) (n cc : Nat) (c : Int) (w : World) (hc : c < 0) :
    Calls Tryd.prog 11 #[.slice A n cc, .int .i64 c] w fun e w' => e = .returned (.tuple #[.int .i64 0, .int .i64 0]) ∧ w = w' := by
  have g0 : decide (c < 0) = true := by simpa using hc
  go_enter Tryd.func11, Tryd.ntmps11
  go_wp2
  go_ret2
  exact ⟨rfl, rfl⟩

def runesV (l : List Int) : List Value := l.map fun r => .int .i32 r
/-- A slice of literals. -/
theorem lit_at (w : World) (l : List Int) : RunesAt (w.alloc (.cells (runesV l).toArray 21)) (w.heap.size + 1) (some ⟨w.heap.size, 0, none⟩) l := fun _ => by
  refine ⟨_, _, rfl, by omega, fun i hi => ?_⟩
  rw [cell_of (Deep.blk_alloc_new w _), Nat.zero_add, List.getElem?_toArray, runesV, List.getElem?_map, List.getElem?_eq_getElem hi]
  rfl

theorem of_is {r c : Int} (h : ofV r = c) (w : World) (hT : WTab w) : Calls Tryd.prog 7 #[.int .i32 r] w fun e w' => e = .returned (.int .i64 c) ∧ Below w.heap.size w w' := h ▸ of_any r w hT
theorem fits_is {l : List Int} {c : Int} (k : Nat) (h1 : k ≤ l.length) (h2 : sumV (l.take k) ≤ c) (h3 : k < l.length → c < sumV (l.take (k + 1))) : Fits l c k := ⟨h1, h2, h3⟩
theorem cut_is {l : List Int} {c d : Int} (k : Nat) (hF : Fits l c k) (hd : c - sumV (l.take k) = d) {A : Option Addr} {n cc : Nat} {w : World} (hT : WTab w) (hR : RunesAt w w.heap.size A l) (hn : n = l.length) (hl : n ≤ 1000000) (hc : 0 ≤ c) (hc2 : c ≤ 9223372036854775807) :
    Calls Tryd.prog 8 #[.slice A n cc, .int .i64 c] w fun e w' => e = .returned (.tuple #[.int .i64 (k : Int), .int .i64 d]) ∧ Below w.heap.size w w' := by
  refine (cut_any l A n cc c w hT hR hn hl hc hc2).mono ?_
  rintro e w' ⟨j, hj, rfl, hb⟩
  obtain rfl := hj.one hF
  exact ⟨by rw [hd], hb⟩

theorem aw_fits : Fits [97, 20013, 98] 2 1 := fits_is 1 (by decide) (by decide +kernel) (fun _ => by decide +kernel)
theorem aw_left : 2 - sumV ([97, 20013, 98].take 1) = 1 := by decide +kernel

set_option maxHeartbeats 1000000 in
theorem awake_any (w : World) (hT : WTab w) : Calls Tryd.prog 9 #[] w fun e w' => e = .returned (.bool true) ∧ Below w.heap.size w w' := by
  have HT := Lib.hid hT
  clear hT
  go_enter Tryd.func9, Tryd.ntmps9
  go_wp2_with fail
  refine (cut_is (l := [97, 20013, 98]) 1 aw_fits aw_left (HT.out.below ((Below.refl _ _).alloc (Nat.le_refl _) _) (Nat.le_refl _)) ((lit_at w [97, 20013, 98]).more (by simp)) rfl (by decide) (by decide) (by decide)).mono ?_
  rintro e w1 ⟨rfl, hb⟩
  have B1 := Lib.hid (((Below.refl w.heap.size w).alloc (Nat.le_refl _) _).trans (hb.mono (by simp)))
  clear hb
  go_wp2_with fail
  refine (of_is (show ofV 97 = 1 by decide +kernel) _ (HT.out.below B1.out (Nat.le_refl _))).mono ?_
  rintro e w2 ⟨rfl, hb⟩
  have B2 := Lib.hid (B1.out.trans (hb.mono B1.out.size))
  clear hb B1
  go_wp2_with fail
  refine (of_is (show ofV 20013 = 2 by decide +kernel) _ (HT.out.below B2.out (Nat.le_refl _))).mono ?_
  rintro e w3 ⟨rfl, hb⟩
  have B3 := Lib.hid (B2.out.trans (hb.mono B2.out.size))
  clear hb B2
  go_wp2_with fail
  refine (of_is (show ofV 769 = 0 by decide +kernel) _ (HT.out.below B3.out (Nat.le_refl _))).mono ?_
  rintro e w4 ⟨rfl, hb⟩
  have B4 := Lib.hid (B3.out.trans (hb.mono B3.out.size))
  have B5 := Lib.hid (B4.out.alloc B4.out.size (.cells (runesV [97, 20013]).toArray 21))
  clear hb B3
  go_wp2_with fail
  refine (text_any [97, 20013] _ _ _ _ (HT.out.below B5.out (Nat.le_refl _)) ((lit_at w4 [97, 20013]).more (by simp)) rfl (by decide)).mono ?_
  rintro e w5 ⟨rfl, hb⟩
  have B6 := Lib.hid (B5.out.trans (hb.mono B5.out.size))
  rw [show sumV [97, 20013] = 3 by decide +kernel]
  clear hb B5 B4
  go_wp2
  go_ret
  exact ⟨rfl, B6.out⟩
end Go.Proofs.YtablkipcngbkjaaDoor
