/- Layer 11: the document's Resize. -/
import Derived.Test.YthpnmhllgjibgaaRwG
set_option linter.unusedVariables false
namespace Go.Proofs.Ythpnmhllgjibgaa.Rw
open Go.RowKit

theorem flat_take (l : List Ce) (k : Nat) : flatC (l.take k) = (flatC l).take (k * 7) := by
  induction l generalizing k with
  | nil => simp [flatC]
  | cons a l ih =>
    cases k with
    | zero => simp [flatC]
    | succ k =>
      have e1 : flatC ((a :: l).take (k + 1)) = cellsC a ++ flatC (l.take k) := rfl
      have e2 : flatC (a :: l) = cellsC a ++ flatC l := rfl
      have e3 : (cellsC a).take ((k + 1) * 7) = cellsC a := List.take_of_length_le (by rw [cells_len]; omega)
      rw [e1, e2, ih, List.take_append, cells_len, e3, show (k + 1) * 7 - 7 = k * 7 by omega]
theorem own_take {w : World} {base g n c : Nat} {l : List Ce} (h : OwnC w base (.slice (some ⟨g, 0, none⟩) n c) l) {k : Nat} (hk : k ≤ n) : OwnC w base (.slice (some ⟨g, 0, none⟩) k c) (l.take k) := by
  have hn := (own_lies h).row.1
  rcases own_shape h with ⟨e, _⟩ | ⟨g', c', cur, e, hb, hl, hh, hc, hm, hsz, hx⟩
  · cases e
  · cases e
    have hlk : (l.take k).length = k := by rw [List.length_take]; omega
    refine ⟨by rw [flat_len], Or.inr ⟨g, c, cur, by rw [hlk], hb, hh, by omega, hm, hsz, ?_⟩⟩
    rw [hlk, flat_take, ← hx, List.take_take]
    congr 1
    omega

set_option maxRecDepth 100000 in
set_option maxHeartbeats 2000000 in
theorem rres_no (l : List Ce) (A : Option Addr) (k c : Nat) (x : Int) (a : Aa) (w : World) (hL : Lies w (.slice A k c) l) (hk : k ≤ 100000) (hx : x < 1 ∨ 400 < x) :
    Calls Try.prog 33 #[.slice A k c, .int .i64 x, attrV a] w (RowPost w l) := by
  obtain ⟨W, hW, hB, hs, HA⟩ := box_at w a
  have hLW := hL.below hB
  have hkl := hL.row.1
  have hA0 : Below W.heap.size W (W.alloc (.cells #[] 44)) := (Below.refl _ _).alloc (Nat.le_refl _) _
  have HLi := Lib.hid (hLW.below hA0)
  have HA0 := Lib.hid hA0
  have H0 := Lib.hid (own_zero W)
  have HK := Lib.hid hkl
  have HW := Lib.hid hW
  have HB := Lib.hid hB
  have g : decide (x < 1) = true ∨ decide (x < 1) = false ∧ decide (x > 400) = true := by
    by_cases h1 : x < 1
    · exact Or.inl (by simpa using h1)
    · exact Or.inr ⟨by simpa using h1, by simpa using hx.resolve_left h1⟩
  clear hL hW hB hs hkl HA hLW hA0 hx
  rcases g with g1 | ⟨g1, g2⟩
  all_goals
    go_enter Try.func33, Try.ntmps33
    go_upto_region 2 with fail
    rw [← HW.out]
    go_wp2_with (at_builtin; refine append_cells _ rfl (.tmp 13) (.tmp 14) rfl W.heap.size _ _ [] l rfl H0.out rfl HLi.out (by have := HK.out; simp; omega) HA0.out.size ?_)
    intro v1 w1 ho1 hg1
    have B1 := Lib.hid (grown_below HA0.out hg1 H0.out HA0.out.size)
    have O1 : Hid (OwnC w1 W.heap.size v1 l) := Lib.hid ho1
    clear ho1 hg1
    go_wp2
    go_ret
    exact ⟨_, rfl, own_less O1.out HB.out.size, HB.out.trans (B1.out.mono HB.out.size)⟩

set_option maxRecDepth 100000 in
set_option maxHeartbeats 2000000 in
theorem rres_cut (l : List Ce) (A : Option Addr) (k c X : Nat) (a : Aa) (w : World) (hL : Lies w (.slice A k c) l) (hk : k ≤ 100000) (h1 : 1 ≤ X) (h4 : X ≤ 400) (hX : X ≤ k) :
    Calls Try.prog 33 #[.slice A k c, .int .i64 (X : Int), attrV a] w (RowPost w ((partC l X).take X)) := by
  obtain ⟨W, hW, hB, hs, HA⟩ := box_at w a
  have hLW := hL.below hB
  have hkl := hL.row.1
  have HP1 := Lib.hid (part_any l A k c X W hLW hkl hk)
  have HK := Lib.hid hkl
  have HW := Lib.hid hW
  have HB := Lib.hid hB
  have g1 : decide ((X : Int) < 1) = false := by simp; omega
  have g2 : decide ((X : Int) > 400) = false := by simp; omega
  have g3 : decide ((X : Int) ≤ (k : Int)) = true := by simp; omega
  clear hL hW hB hs hkl HA hLW
  go_enter Try.func33, Try.ntmps33
  go_wp2_with fail
  rw [← HW.out]
  refine (show Calls _ _ _ _ _ from HP1.out).mono ?_
  rintro e w1 ⟨v1, rfl, ho1, hb1⟩
  obtain ⟨g, c1, rfl, _, _, hc1, hM1, _⟩ := own_somek ho1 (k := k) (by rw [part_len]; exact HK.out) (by omega)
  have O1 : Hid (OwnC w1 W.heap.size (.slice (some ⟨g, 0, none⟩) X c1) ((partC l X).take X)) := Lib.hid (own_take ho1 hX)
  have B1 := Lib.hid hb1
  have y1 : (0 : Int) ≤ (X : Int) := by omega
  have y2 : (X : Int) ≤ (k : Int) := by omega
  have y3 : (X : Int) ≤ (c1 : Int) := by omega
  clear ho1 hb1 HP1
  go_wp2
  go_ret
  exact ⟨_, rfl, own_less O1.out HB.out.size, HB.out.trans (B1.out.mono HB.out.size)⟩

set_option maxRecDepth 100000 in
set_option maxHeartbeats 2000000 in
theorem rres_more (l : List Ce) (A : Option Addr) (k c X : Nat) (a : Aa) (w : World) (hL : Lies w (.slice A k c) l) (hk : k ≤ 100000) (h1 : 1 ≤ X) (h4 : X ≤ 400) (hX : k < X) :
    Calls Try.prog 33 #[.slice A k c, .int .i64 (X : Int), attrV a] w (RowPost w (l ++ blanks (X - k) a)) := by
  obtain ⟨W, hW, hB, hs, HA⟩ := box_at w a
  have hLW := hL.below hB
  have hkl := hL.row.1
  have HP1 : Hid (Calls Try.prog 35 #[.slice A k c, .int .i64 (X : Int)] W (RowPost W l)) := Lib.hid (by
    have := part_any l A k c X W hLW hkl hk
    rwa [Int.toNat_natCast, part_out l (Or.inr (by omega))] at this)
  have HK := Lib.hid hkl
  have HW := Lib.hid hW
  have HB := Lib.hid hB
  have HA := Lib.hid HA
  have g1 : decide ((X : Int) < 1) = false := by simp; omega
  have g2 : decide ((X : Int) > 400) = false := by simp; omega
  have g3 : decide ((X : Int) ≤ (k : Int)) = false := by simp; omega
  have z1 : IntKind.i64.wrap ((X : Int) - (k : Int)) = ((X - k : Nat) : Int) := by rw [IntWalk.i64_in _ (by omega)]; omega
  clear hL hW hB hs hkl hLW
  go_enter Try.func33, Try.ntmps33
  go_wp2_with fail
  rw [← HW.out]
  refine (show Calls _ _ _ _ _ from HP1.out).mono ?_
  rintro e w1 ⟨v1, rfl, ho1, hb1⟩
  obtain ⟨A1, c1, rfl, h01, hc1, hR1⟩ := own_lies ho1
  have hl1 := own_lies ho1
  rw [← HK.out] at hl1 ⊢
  have L1 := Lib.hid hl1
  have B1 := Lib.hid hb1
  have hat := HA.out w1 hb1
  have a0 := cell_of hat 0
  have a1 := cell_of hat 1
  have a2 := cell_of hat 2
  have a3 := cell_of hat 3
  have a4 := cell_of hat 4
  obtain ⟨m, hm⟩ : ∃ m, m = X - k := ⟨_, rfl⟩
  rw [← hm] at z1
  have HBl := Lib.hid (blanks_any (m : Int) a w1 (by omega))
  have HM := Lib.hid hm
  clear ho1 hb1 hl1 hR1 hat HP1 h01 hc1 hm
  go_wp2_with fail
  refine (show Calls _ _ _ _ _ from HBl.out).mono ?_
  rintro e w2 ⟨v2, rfl, ho2, hb2⟩
  have HJ : Hid (Calls Try.prog 36 #[.slice A1 k c1, v2, .slice none 0 0] w2 (RowPost w2 (l ++ blanks (X - k) a))) := Lib.hid (by
    have hl2 := own_lies ho2
    rw [Int.toNat_natCast] at hl2
    have := join_any _ _ _ _ _ _ w2 (L1.out.below hb2) hl2 (lies_nil w2) (by rw [blanks_len, ← HK.out]; have := HM.out; simp; omega)
    rwa [List.append_nil, HM.out] at this)
  have B2 := Lib.hid (B1.out.trans (hb2.mono B1.out.size))
  clear ho2 hb2 HBl
  go_wp2_with fail
  refine (show Calls _ _ _ _ _ from HJ.out).mono ?_
  rintro e w3 ⟨v3, rfl, ho3, hb3⟩
  have O3 := Lib.hid ho3
  have B3 := Lib.hid (B2.out.trans (hb3.mono B2.out.size))
  clear ho3 hb3 HJ
  go_wp2
  go_ret
  exact ⟨_, rfl, own_less O3.out (Nat.le_trans HB.out.size B2.out.size), HB.out.trans (B3.out.mono HB.out.size)⟩

theorem rres_any (l : List Ce) (A : Option Addr) (k c : Nat) (x : Int) (a : Aa) (w : World) (hL : Lies w (.slice A k c) l) (hk : k ≤ 100000) :
    Calls Try.prog 33 #[.slice A k c, .int .i64 x, attrV a] w (RowPost w (resV l x a)) := by
  have hkl := hL.row.1
  unfold resV
  by_cases h : x < 1 ∨ 400 < x
  · rw [if_pos h]
    exact rres_no l A k c x a w hL hk h
  · rw [if_neg h]
    obtain ⟨X, rfl⟩ : ∃ X : Nat, x = (X : Int) := ⟨x.toNat, by omega⟩
    rw [Int.toNat_natCast]
    unfold resN
    rw [← hkl]
    by_cases hX : X ≤ k
    · rw [if_pos hX]
      exact rres_cut l A k c X a w hL hk (by omega) (by omega) hX
    · rw [if_neg hX]
      exact rres_more l A k c X a w hL hk (by omega) (by omega) (by omega)
end Go.Proofs.Ythpnmhllgjibgaa.Rw
