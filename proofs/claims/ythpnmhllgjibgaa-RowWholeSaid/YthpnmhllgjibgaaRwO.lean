/- Layer 11: RowWhole's walk. -/
import Derived.Test.YthpnmhllgjibgaaRwN
set_option linter.unusedVariables false
namespace Go.Proofs.Ythpnmhllgjibgaa.Rw
open Go.RowKit

set_option maxRecDepth 100000 in
set_option maxHeartbeats 4000000 in
theorem whole_big (x : Int) (A : Option Addr) (m c : Nat) (w : World) (hm : 80 < m) (hM : m ≤ 9223372036854775807) : Calls Try.prog 4 #[.int .i64 x, .slice A m c] w fun e w' => e = .returned (.bool true) ∧ Below w.heap.size w w' := by
  have HWk := Lib.hid (wakes_any w)
  have g : decide ((m : Int) > 80) = true := by simp; omega
  go_enter Try.func4, Try.ntmps4
  go_wp2_with fail
  refine (show Calls _ _ _ _ _ from HWk.out).mono ?_
  rintro e w1 ⟨rfl, b1⟩
  have B1 := Lib.hid b1
  clear b1
  go_wp2
  go_ret
  exact ⟨rfl, B1.out⟩

set_option maxRecDepth 100000 in
set_option maxHeartbeats 4000000 in
theorem whole_none (x : Int) (A : Option Addr) (m c : Nat) (w : World) (hm : m ≤ 80) (h : x < 1 ∨ 400 < x) : Calls Try.prog 4 #[.int .i64 x, .slice A m c] w fun e w' => e = .returned (.bool true) ∧ Below w.heap.size w w' := by
  have HWk : Hid (∀ V, Calls Try.prog 9 #[] V fun e w' => e = .returned (.bool true) ∧ Below V.heap.size V w') := Lib.hid fun V => wakes_any V
  have g : decide ((m : Int) > 80) = false := by simp; omega
  have HP : Hid (Calls Try.prog 8 #[.int .i64 x, attrV zeroAa] w (RowPost w [])) := Lib.hid (by
    have := pblank_any x zeroAa w
    unfold blankV at this
    rwa [if_pos h] at this)
  have g' : decide (x < 1) = true ∨ decide (x < 1) = false ∧ decide (x > 400) = true := by
    by_cases h1 : x < 1
    · exact Or.inl (by simpa using h1)
    · exact Or.inr ⟨by simpa using h1, by simpa using h.resolve_left h1⟩
  clear h
  rcases g' with g1 | ⟨g1, g2⟩
  all_goals
    go_enter Try.func4, Try.ntmps4
    go_wp2_with fail
    refine (show Calls _ _ _ _ _ from HP.out).mono ?_
    rintro e w1 ⟨v1, rfl, ho1, b1⟩
    obtain ⟨A1, c1, rfl, _⟩ := own_lies ho1
    rw [List.length_nil]
    have B1 := Lib.hid b1
    clear ho1 b1 HP
    go_wp2_with fail
    refine (HWk.out _).mono ?_
    rintro e w2 ⟨rfl, b2⟩
    have B2 := Lib.hid (B1.out.trans (b2.mono B1.out.size))
    clear b2
    go_wp2
    go_ret
    exact ⟨rfl, B2.out⟩

set_option maxRecDepth 100000 in
set_option maxHeartbeats 16000000 in
theorem whole_some (x : Int) (A : Option Addr) (m c : Nat) (X : Nat → Ac) (w : World) (hm : m ≤ 80) (h : ¬ (x < 1 ∨ 400 < x)) (hX : ActsR w w.heap.size A m X) : Calls Try.prog 4 #[.int .i64 x, .slice A m c] w fun e w' => e = .returned (.bool true) ∧ Below w.heap.size w w' := by
  have HWk : Hid (∀ V, Calls Try.prog 9 #[] V fun e w' => e = .returned (.bool true) ∧ Below V.heap.size V w') := Lib.hid fun V => wakes_any V
  have g : decide ((m : Int) > 80) = false := by simp; omega
  have hl0 : (blanks x.toNat zeroAa).length = x.toNat := blanks_len _ _
  have HP : Hid (Calls Try.prog 8 #[.int .i64 x, attrV zeroAa] w fun e w' => ∃ g c, e = .returned (.slice (some ⟨g, 0, none⟩) x.toNat c) ∧ Carry w w' (.slice (some ⟨g, 0, none⟩) x.toNat c) (blanks x.toNat zeroAa)) := Lib.hid (by
    have := pblank_any x zeroAa w
    unfold blankV at this
    rw [if_neg h] at this
    refine this.mono fun e w' hh => ?_
    have := Carry.post (Below.refl _ _) hh (blanks_whole _ _) (by rw [hl0]; omega) (by rw [hl0]; omega)
    rwa [hl0] at this)
  have HX := Lib.hid hX
  have g0 : (((x.toNat : Nat) : Int) == 0) = false := by simp; omega
  obtain ⟨N0, hN0⟩ : ∃ N0, N0 = x.toNat := ⟨_, rfl⟩
  rw [← hN0] at HP g0
  clear h hX hl0 hN0
  go_enter Try.func4, Try.ntmps4
  go_wp2_with fail
  refine (show Calls _ _ _ _ _ from HP.out).mono ?_
  rintro e w1 ⟨gb, c1, rfl, hc1⟩
  have C1 := Lib.hid hc1
  clear hc1 HP
  go_wp2
  go_loopw [5, 6] (fun v i wr => ∃ (k : Nat) (L : List Ce), k ≤ m ∧ i = .int .i64 k ∧ Hid (Carry w wr v L)) (fun _ i _ => m - (RowKit.intOf i).toNat)
  case atStart => exact ⟨0, _, Nat.zero_le _, rfl, C1⟩
  case round =>
    obtain ⟨k, L, hk, rfl, HC⟩ := hrel
    rename_i wr
    by_cases hlt : k < m
    · have glt : decide ((k : Int) < (m : Int)) = true := by simp; omega
      obtain ⟨gv, cv, rfl, _, _⟩ := own_some HC.out.1 HC.out.2.2.1
      obtain ⟨b, o, rfl, hb, hix, hin, p0, p1, p2, p3, p4, p5, p6, p7, p8, p9⟩ := HX.out.at_ hlt
      obtain ⟨ac, hac⟩ : ∃ ac, ac = X k := ⟨_, rfl⟩
      rw [← hac] at hix hin p0 p1 p2 p3 p4 p5 p6 p7 p8 p9
      obtain ⟨d, ax, an, ar, aw, aa⟩ := ac
      dsimp only at hix hin p0 p1 p2 p3 p4 p5 p6 p7 p8 p9
      have hB := HC.out.2.2.2.2
      have p0 := (hB.cell hb).trans p0
      have p1 := (hB.cell hb).trans p1
      have p2 := (hB.cell hb).trans p2
      have p3 := (hB.cell hb).trans p3
      have p4 := (hB.cell hb).trans p4
      have p5 := (hB.cell hb).trans p5
      have p6 := (hB.cell hb).trans p6
      have p7 := (hB.cell hb).trans p7
      have p8 := (hB.cell hb).trans p8
      have p9 := (hB.cell hb).trans p9
      have i1 := idx_act b o m c k hlt
      obtain ⟨W1, hW1⟩ : ∃ W1, W1 = wr.alloc (actP d ax an ar aw aa) := ⟨_, rfl⟩
      have hBA : Below wr.heap.size wr W1 := by rw [hW1]; exact (Below.refl _ _).alloc (Nat.le_refl _) _
      have HC1 := Lib.hid (HC.out.more hBA)
      have hat : ∀ V, Below W1.heap.size W1 V → V.heap[wr.heap.size]? = some (actP d ax an ar aw aa) := fun V hV => (hV.block _ (by rw [hW1]; simp)).trans (by rw [hW1]; exact heap_alloc_new wr _)
      have HAt := Lib.hid hat
      have HW1 := Lib.hid hW1
      have hIx := Lib.hid hix
      have hIn := Lib.hid hin
      have HLi := Lib.hid (own_lies HC1.out.1)
      obtain ⟨N, hN⟩ : ∃ N, N = L.length := ⟨_, rfl⟩
      rw [← hN] at HC HC1 HLi ⊢
      have HN := Lib.hid (And.intro hN (And.intro (show 1 ≤ N by rw [hN]; exact HC.out.2.2.1) (show N ≤ 400 by rw [hN]; exact HC.out.2.2.2.1)))
      clear hac hb hB hBA hat hW1 hix hin hN HC
      by_cases h1 : d = 1
      · subst h1
        go_wp2_with fail
        rw [← HW1.out]
        refine (pins_any _ L ax an aa W1 HLi.out (Nat.le_trans HC1.out.2.2.2.1 (by decide)) hIn.out).mono ?_
        rintro e w2 hh
        obtain ⟨g2, c2, rfl, hc2⟩ := Carry.post HC1.out.2.2.2.2 hh (insV_whole HC1.out.2.1 _ _ _) (by rw [insV_len, ← HN.out.1]; exact HN.out.2.1) (by rw [insV_len, ← HN.out.1]; exact HN.out.2.2)
        rw [insV_len, ← HN.out.1] at hc2 ⊢
        have C2 := Lib.hid hc2
        have HWh : Hid (Calls Try.prog 12 #[.slice (some ⟨g2, 0, none⟩) N c2] w2 fun e w' => e = .returned (.bool true) ∧ Below w2.heap.size w2 w') := Lib.hid (by
          have := pwhole_any _ _ w2 (own_lies hc2.1) (Nat.le_trans hc2.2.2.2.1 (by decide))
          rwa [hc2.2.1] at this)
        clear hc2 hh
        go_wp2_with fail
        refine (show Calls _ _ _ _ _ from HWh.out).mono ?_
        rintro e w3 ⟨rfl, b3⟩
        have C3 := Lib.hid (C2.out.more b3)
        clear b3 HWh
        go_wp2
        go_roundw
        case rel => exact ⟨k + 1, _, by omega, by go_num, C3⟩
        case measure => simp [RowKit.intOf]; omega
      have f1 : (d == 1) = false := by simpa using h1
      by_cases h2 : d = 2
      · subst h2
        go_wp2_with fail
        rw [← HW1.out]
        refine (pdel_any _ L ax an aa W1 HLi.out (Nat.le_trans HC1.out.2.2.2.1 (by decide)) hIn.out).mono ?_
        rintro e w2 hh
        obtain ⟨g2, c2, rfl, hc2⟩ := Carry.post HC1.out.2.2.2.2 hh (delV_whole HC1.out.2.1 _ _ _) (by rw [delV_len, ← HN.out.1]; exact HN.out.2.1) (by rw [delV_len, ← HN.out.1]; exact HN.out.2.2)
        rw [delV_len, ← HN.out.1] at hc2 ⊢
        have C2 := Lib.hid hc2
        have HWh : Hid (Calls Try.prog 12 #[.slice (some ⟨g2, 0, none⟩) N c2] w2 fun e w' => e = .returned (.bool true) ∧ Below w2.heap.size w2 w') := Lib.hid (by
          have := pwhole_any _ _ w2 (own_lies hc2.1) (Nat.le_trans hc2.2.2.2.1 (by decide))
          rwa [hc2.2.1] at this)
        clear hc2 hh
        go_wp2_with fail
        refine (show Calls _ _ _ _ _ from HWh.out).mono ?_
        rintro e w3 ⟨rfl, b3⟩
        have C3 := Lib.hid (C2.out.more b3)
        clear b3 HWh
        go_wp2
        go_roundw
        case rel => exact ⟨k + 1, _, by omega, by go_num, C3⟩
        case measure => simp [RowKit.intOf]; omega
      have f2 : (d == 2) = false := by simpa using h2
      by_cases h3 : d = 3
      · subst h3
        go_wp2_with fail
        rw [← HW1.out]
        refine (pera_any _ L ax an aa W1 HLi.out (Nat.le_trans HC1.out.2.2.2.1 (by decide)) hIn.out).mono ?_
        rintro e w2 hh
        obtain ⟨g2, c2, rfl, hc2⟩ := Carry.post HC1.out.2.2.2.2 hh (eraV_whole HC1.out.2.1 _ _ _) (by rw [eraV_len, ← HN.out.1]; exact HN.out.2.1) (by rw [eraV_len, ← HN.out.1]; exact HN.out.2.2)
        rw [eraV_len, ← HN.out.1] at hc2 ⊢
        have C2 := Lib.hid hc2
        have HWh : Hid (Calls Try.prog 12 #[.slice (some ⟨g2, 0, none⟩) N c2] w2 fun e w' => e = .returned (.bool true) ∧ Below w2.heap.size w2 w') := Lib.hid (by
          have := pwhole_any _ _ w2 (own_lies hc2.1) (Nat.le_trans hc2.2.2.2.1 (by decide))
          rwa [hc2.2.1] at this)
        clear hc2 hh
        go_wp2_with fail
        refine (show Calls _ _ _ _ _ from HWh.out).mono ?_
        rintro e w3 ⟨rfl, b3⟩
        have C3 := Lib.hid (C2.out.more b3)
        clear b3 HWh
        go_wp2
        go_roundw
        case rel => exact ⟨k + 1, _, by omega, by go_num, C3⟩
        case measure => simp [RowKit.intOf]; omega
      have f3 : (d == 3) = false := by simpa using h3
      by_cases h0 : d = 0
      · subst h0
        have z2 : IntKind.i64.wrap ((N : Int) - 1) = (N : Int) - 1 := IntWalk.i64_in _ (by have := HN.out.2.2; omega)
        have HPw := Lib.hid (pwri_any _ L ax ar aw aa W1 HLi.out (Nat.le_trans HC1.out.2.2.2.1 (by decide)))
        rw [← HN.out.1] at HPw
        by_cases hx0 : ax < 0
        · have e0 : fitsV N ax aw = false := by
            cases e : fitsV N ax aw
            · rfl
            · have := (fits_iff.1 e).1; omega
          rw [e0] at HPw
          have q1 : decide (ax ≥ 0) = false := by simp; omega
          clear e0
          go_wp2_with fail
          rw [← HW1.out]
          refine (show Calls _ _ _ _ _ from HPw.out).mono ?_
          rintro e w2 ⟨v2, rfl, _, b2⟩
          have C2 := Lib.hid (HC1.out.more b2)
          have hat := HAt.out w2 b2
          have r1 := cell_of hat 1
          have r4 := cell_of hat 4
          clear b2 hat HPw
          have HWh : Hid (Calls Try.prog 12 #[.slice (some ⟨gv, 0, none⟩) N cv] w2 fun e w' => e = .returned (.bool true) ∧ Below w2.heap.size w2 w') := Lib.hid (by
            have := pwhole_any _ _ w2 (own_lies C2.out.1) (Nat.le_trans C2.out.2.2.2.1 (by decide))
            rwa [C2.out.2.1] at this)
          go_wp2_with fail
          refine (show Calls _ _ _ _ _ from HWh.out).mono ?_
          rintro e w3 ⟨rfl, b3⟩
          have C3 := Lib.hid (C2.out.more b3)
          clear b3 HWh
          go_wp2
          go_roundw
          case rel => exact ⟨k + 1, _, by omega, by go_num, C3⟩
          case measure => simp [RowKit.intOf]; omega
        by_cases hxN : (N : Int) ≤ ax
        · have e0 : fitsV N ax aw = false := by
            cases e : fitsV N ax aw
            · rfl
            · have := (fits_iff.1 e).2; cases aw <;> simp at this <;> omega
          rw [e0] at HPw
          have q1 : decide (ax ≥ 0) = true := by simp; omega
          have q2 : decide (ax < (N : Int)) = false := by simp; omega
          clear e0
          go_wp2_with fail
          rw [← HW1.out]
          refine (show Calls _ _ _ _ _ from HPw.out).mono ?_
          rintro e w2 ⟨v2, rfl, _, b2⟩
          have C2 := Lib.hid (HC1.out.more b2)
          have hat := HAt.out w2 b2
          have r1 := cell_of hat 1
          have r4 := cell_of hat 4
          clear b2 hat HPw
          have HWh : Hid (Calls Try.prog 12 #[.slice (some ⟨gv, 0, none⟩) N cv] w2 fun e w' => e = .returned (.bool true) ∧ Below w2.heap.size w2 w') := Lib.hid (by
            have := pwhole_any _ _ w2 (own_lies C2.out.1) (Nat.le_trans C2.out.2.2.2.1 (by decide))
            rwa [C2.out.2.1] at this)
          go_wp2_with fail
          refine (show Calls _ _ _ _ _ from HWh.out).mono ?_
          rintro e w3 ⟨rfl, b3⟩
          have C3 := Lib.hid (C2.out.more b3)
          clear b3 HWh
          go_wp2
          go_roundw
          case rel => exact ⟨k + 1, _, by omega, by go_num, C3⟩
          case measure => simp [RowKit.intOf]; omega
        have q1 : decide (ax ≥ 0) = true := by simp; omega
        have q2 : decide (ax < (N : Int)) = true := by simp; omega
        cases aw with
        | false =>
          have e0 : fitsV N ax false = true := fits_iff.2 ⟨by omega, by simp; omega⟩
          rw [e0] at HPw
          have HW0 := Lib.hid (wriV_whole HC1.out.2.1 (x := ax) (r := ar) (wide := false) (by rw [← HN.out.1]; exact e0) aa)
          have HW1l := Lib.hid (wriV_len (l := L) (x := ax) (r := ar) (wide := false) (by rw [← HN.out.1]; exact e0) aa)
          clear e0
          go_wp2_with fail
          rw [← HW1.out]
          refine (show Calls _ _ _ _ _ from HPw.out).mono ?_
          rintro e w2 ⟨v2, rfl, ho2, b2⟩
          rw [if_pos rfl] at ho2
          obtain ⟨g2, c2, rfl, hc2⟩ := Carry.own HC1.out.2.2.2.2 ho2 b2 HW0.out (by rw [HW1l.out, ← HN.out.1]; exact HN.out.2.1) (by rw [HW1l.out, ← HN.out.1]; exact HN.out.2.2)
          rw [HW1l.out, ← HN.out.1] at hc2 ⊢
          have C2 := Lib.hid hc2
          have hat := HAt.out w2 b2
          have r1 := cell_of hat 1
          have r4 := cell_of hat 4
          clear b2 hat HPw ho2 hc2
          have HWh : Hid (Calls Try.prog 12 #[.slice (some ⟨g2, 0, none⟩) N c2] w2 fun e w' => e = .returned (.bool true) ∧ Below w2.heap.size w2 w') := Lib.hid (by
            have := pwhole_any _ _ w2 (own_lies C2.out.1) (Nat.le_trans C2.out.2.2.2.1 (by decide))
            rwa [C2.out.2.1] at this)
          go_wp2_with fail
          refine (show Calls _ _ _ _ _ from HWh.out).mono ?_
          rintro e w3 ⟨rfl, b3⟩
          have C3 := Lib.hid (C2.out.more b3)
          clear b3 HWh
          go_wp2
          go_roundw
          case rel => exact ⟨k + 1, _, by omega, by go_num, C3⟩
          case measure => simp [RowKit.intOf]; omega
        | true =>
          by_cases hx1 : ax < (N : Int) - 1
          · have e0 : fitsV N ax true = true := fits_iff.2 ⟨by omega, by simp; omega⟩
            rw [e0] at HPw
            have q3 : decide (ax < (N : Int) - 1) = true := by simp; omega
            have HW0 := Lib.hid (wriV_whole HC1.out.2.1 (x := ax) (r := ar) (wide := true) (by rw [← HN.out.1]; exact e0) aa)
            have HW1l := Lib.hid (wriV_len (l := L) (x := ax) (r := ar) (wide := true) (by rw [← HN.out.1]; exact e0) aa)
            clear e0
            go_wp2_with fail
            rw [← HW1.out]
            refine (show Calls _ _ _ _ _ from HPw.out).mono ?_
            rintro e w2 ⟨v2, rfl, ho2, b2⟩
            rw [if_pos rfl] at ho2
            obtain ⟨g2, c2, rfl, hc2⟩ := Carry.own HC1.out.2.2.2.2 ho2 b2 HW0.out (by rw [HW1l.out, ← HN.out.1]; exact HN.out.2.1) (by rw [HW1l.out, ← HN.out.1]; exact HN.out.2.2)
            rw [HW1l.out, ← HN.out.1] at hc2 ⊢
            have C2 := Lib.hid hc2
            have hat := HAt.out w2 b2
            have r1 := cell_of hat 1
            have r4 := cell_of hat 4
            clear b2 hat HPw ho2 hc2
            have HWh : Hid (Calls Try.prog 12 #[.slice (some ⟨g2, 0, none⟩) N c2] w2 fun e w' => e = .returned (.bool true) ∧ Below w2.heap.size w2 w') := Lib.hid (by
              have := pwhole_any _ _ w2 (own_lies C2.out.1) (Nat.le_trans C2.out.2.2.2.1 (by decide))
              rwa [C2.out.2.1] at this)
            go_wp2_with fail
            refine (show Calls _ _ _ _ _ from HWh.out).mono ?_
            rintro e w3 ⟨rfl, b3⟩
            have C3 := Lib.hid (C2.out.more b3)
            clear b3 HWh
            go_wp2
            go_roundw
            case rel => exact ⟨k + 1, _, by omega, by go_num, C3⟩
            case measure => simp [RowKit.intOf]; omega
          · have e0 : fitsV N ax true = false := by
              cases e : fitsV N ax true
              · rfl
              · have := (fits_iff.1 e).2; simp at this; omega
            rw [e0] at HPw
            have q3 : decide (ax < (N : Int) - 1) = false := by simp; omega
            clear e0
            go_wp2_with fail
            rw [← HW1.out]
            refine (show Calls _ _ _ _ _ from HPw.out).mono ?_
            rintro e w2 ⟨v2, rfl, _, b2⟩
            have C2 := Lib.hid (HC1.out.more b2)
            have hat := HAt.out w2 b2
            have r1 := cell_of hat 1
            have r4 := cell_of hat 4
            clear b2 hat HPw
            have HWh : Hid (Calls Try.prog 12 #[.slice (some ⟨gv, 0, none⟩) N cv] w2 fun e w' => e = .returned (.bool true) ∧ Below w2.heap.size w2 w') := Lib.hid (by
              have := pwhole_any _ _ w2 (own_lies C2.out.1) (Nat.le_trans C2.out.2.2.2.1 (by decide))
              rwa [C2.out.2.1] at this)
            go_wp2_with fail
            refine (show Calls _ _ _ _ _ from HWh.out).mono ?_
            rintro e w3 ⟨rfl, b3⟩
            have C3 := Lib.hid (C2.out.more b3)
            clear b3 HWh
            go_wp2
            go_roundw
            case rel => exact ⟨k + 1, _, by omega, by go_num, C3⟩
            case measure => simp [RowKit.intOf]; omega
      have f0 : (d == 0) = false := by simpa using h0
      have HPr := Lib.hid (pres_any _ L an aa W1 HLi.out (Nat.le_trans HC1.out.2.2.2.1 (by decide)))
      by_cases hr : an < 1 ∨ 400 < an
      · have er : resV L an aa = L := by unfold resV; rw [if_pos hr]
        rw [er] at HPr
        have q : decide (an ≥ 1) = false ∨ decide (an ≥ 1) = true ∧ decide (an ≤ 400) = false := by
          by_cases h1 : an < 1
          · exact Or.inl (by simp; omega)
          · exact Or.inr ⟨by simp; omega, by have := hr.resolve_left h1; simp; omega⟩
        clear er hr
        rcases q with q1 | ⟨q1, q2⟩
        · go_wp2_with fail
          rw [← HW1.out]
          refine (show Calls _ _ _ _ _ from HPr.out).mono ?_
          rintro e w2 hh
          obtain ⟨g2, c2, rfl, hc2⟩ := Carry.post HC1.out.2.2.2.2 hh HC1.out.2.1 HC1.out.2.2.1 HC1.out.2.2.2.1
          have hbw2 : Below W1.heap.size W1 w2 := by obtain ⟨_, _, _, h⟩ := hh; exact h
          rw [← HN.out.1] at hc2 ⊢
          have C2 := Lib.hid hc2
          have hat := HAt.out w2 hbw2
          have r0 := cell_of hat 2
          clear hc2 hh hat hbw2 HPr
          have HWh : Hid (Calls Try.prog 12 #[.slice (some ⟨g2, 0, none⟩) N c2] w2 fun e w' => e = .returned (.bool true) ∧ Below w2.heap.size w2 w') := Lib.hid (by
            have := pwhole_any _ _ w2 (own_lies C2.out.1) (Nat.le_trans C2.out.2.2.2.1 (by decide))
            rwa [C2.out.2.1] at this)
          go_wp2_with fail
          refine (show Calls _ _ _ _ _ from HWh.out).mono ?_
          rintro e w3 ⟨rfl, b3⟩
          have C3 := Lib.hid (C2.out.more b3)
          clear b3 HWh
          go_wp2
          go_roundw
          case rel => exact ⟨k + 1, _, by omega, by go_num, C3⟩
          case measure => simp [RowKit.intOf]; omega
        · go_wp2_with fail
          rw [← HW1.out]
          refine (show Calls _ _ _ _ _ from HPr.out).mono ?_
          rintro e w2 hh
          obtain ⟨g2, c2, rfl, hc2⟩ := Carry.post HC1.out.2.2.2.2 hh HC1.out.2.1 HC1.out.2.2.1 HC1.out.2.2.2.1
          have hbw2 : Below W1.heap.size W1 w2 := by obtain ⟨_, _, _, h⟩ := hh; exact h
          rw [← HN.out.1] at hc2 ⊢
          have C2 := Lib.hid hc2
          have hat := HAt.out w2 hbw2
          have r0 := cell_of hat 2
          clear hc2 hh hat hbw2 HPr
          have HWh : Hid (Calls Try.prog 12 #[.slice (some ⟨g2, 0, none⟩) N c2] w2 fun e w' => e = .returned (.bool true) ∧ Below w2.heap.size w2 w') := Lib.hid (by
            have := pwhole_any _ _ w2 (own_lies C2.out.1) (Nat.le_trans C2.out.2.2.2.1 (by decide))
            rwa [C2.out.2.1] at this)
          go_wp2_with fail
          refine (show Calls _ _ _ _ _ from HWh.out).mono ?_
          rintro e w3 ⟨rfl, b3⟩
          have C3 := Lib.hid (C2.out.more b3)
          clear b3 HWh
          go_wp2
          go_roundw
          case rel => exact ⟨k + 1, _, by omega, by go_num, C3⟩
          case measure => simp [RowKit.intOf]; omega
      · obtain ⟨Y, rfl⟩ : ∃ Y : Nat, an = (Y : Int) := ⟨an.toNat, by omega⟩
        have HYL : Hid ((resV L (Y : Int) aa).length = Y) := Lib.hid (by rw [resV_len, if_neg hr]; omega)
        have HYw : Hid (wholeB (resV L (Y : Int) aa) = true) := Lib.hid (resV_whole HC1.out.2.1 _ _)
        have q1 : decide ((Y : Int) ≥ 1) = true := by simp; omega
        have q2 : decide ((Y : Int) ≤ 400) = true := by simp; omega
        have HYb := Lib.hid (show 1 ≤ Y ∧ Y ≤ 400 by omega)
        clear hr
        go_wp2_with fail
        rw [← HW1.out]
        refine (show Calls _ _ _ _ _ from HPr.out).mono ?_
        rintro e w2 hh
        obtain ⟨g2, c2, rfl, hc2⟩ := Carry.post HC1.out.2.2.2.2 hh HYw.out (by rw [HYL.out]; exact HYb.out.1) (by rw [HYL.out]; exact HYb.out.2)
        have hbw2 : Below W1.heap.size W1 w2 := by obtain ⟨_, _, _, h⟩ := hh; exact h
        rw [HYL.out] at hc2 ⊢
        have C2 := Lib.hid hc2
        have hat := HAt.out w2 hbw2
        have r0 := cell_of hat 2
        clear hc2 hh hat hbw2 HPr
        have HWh : Hid (Calls Try.prog 12 #[.slice (some ⟨g2, 0, none⟩) Y c2] w2 fun e w' => e = .returned (.bool true) ∧ Below w2.heap.size w2 w') := Lib.hid (by
          have := pwhole_any _ _ w2 (own_lies C2.out.1) (Nat.le_trans C2.out.2.2.2.1 (by decide))
          rwa [C2.out.2.1] at this)
        go_wp2_with fail
        refine (show Calls _ _ _ _ _ from HWh.out).mono ?_
        rintro e w3 ⟨rfl, b3⟩
        have C3 := Lib.hid (C2.out.more b3)
        clear b3 HWh
        go_wp2
        go_roundw
        case rel => exact ⟨k + 1, _, by omega, by go_num, C3⟩
        case measure => simp [RowKit.intOf]; omega
    · have hkm : k = m := by omega
      subst hkm
      have B := Lib.hid HC.out.2.2.2.2
      clear HC
      go_wp2_with fail
      refine (HWk.out _).mono ?_
      rintro e w2 ⟨rfl, b2⟩
      have B2 := Lib.hid (B.out.trans (b2.mono B.out.size))
      clear b2
      go_wp2
      go_ret
      exact ⟨rfl, B2.out⟩

theorem whole_law (x : Int) (A : Option Addr) (m c : Nat) (X : Nat → Ac) (w : World) (hM : m ≤ 9223372036854775807) (hX : ActsR w w.heap.size A m X) : Calls Try.prog 4 #[.int .i64 x, .slice A m c] w fun e w' => e = .returned (.bool true) ∧ Below w.heap.size w w' := by
  by_cases hm : 80 < m
  · exact whole_big x A m c w hm hM
  by_cases h : x < 1 ∨ 400 < x
  · exact whole_none x A m c w (by omega) h
  · exact whole_some x A m c X w (by omega) h hX
end Go.Proofs.Ythpnmhllgjibgaa.Rw
