/- Layer 11: the document's Insert, Delete, Erase. -/
import Derived.Test.YthpnmhllgjibgaaRwF
set_option linter.unusedVariables false
namespace Go.Proofs.Ythpnmhllgjibgaa.Rw
open Go.RowKit

abbrev attrO (a : Aa) : Obj := .cells #[.int .u16 (a.fl : Int), .int .u8 (a.fk : Int), .int .u32 (a.fn : Int), .int .u8 (a.bk : Int), .int .u32 (a.bn : Int)] 27 (0, 0)
/-- An Attr that came in, in its own block. -/
theorem box_at (w : World) (a : Aa) : ∃ W, W = w.alloc (attrO a) ∧ Below w.heap.size w W ∧ w.heap.size + 1 = W.heap.size ∧ ∀ V, Below W.heap.size W V → V.heap[w.heap.size]? = some (attrO a) := by
  refine ⟨_, rfl, (Below.refl _ _).alloc (Nat.le_refl _) _, by simp, fun V hV => (hV.block _ (by simp)).trans (heap_alloc_new w _)⟩
theorem own_somek {w : World} {base : Nat} {v : Value} {l : List Ce} {k : Nat} (h : OwnC w base v l) (hk : k = l.length) (hl : 0 < k) : ∃ g c, v = .slice (some ⟨g, 0, none⟩) k c ∧ base ≤ g ∧ g < w.heap.size ∧ k ≤ c ∧ c ≤ 9223372036854775807 ∧ RowR w w.heap.size (some ⟨g, 0, none⟩) l := by
  obtain ⟨g, c, rfl, h1, h2⟩ := own_some h (by omega)
  obtain ⟨_, _, ⟨h3, h4⟩, h5⟩ := (own_lies h).row
  exact ⟨g, c, by rw [hk], h1, h2, by omega, h4, h5⟩
theorem room_in {k : Nat} {x n : Int} (h : roomV k x n ≠ 0) : ∃ X : Nat, x = (X : Int) := ⟨x.toNat, by have := (room_le h).1; omega⟩

set_option maxRecDepth 100000 in
set_option maxHeartbeats 2000000 in
theorem rins_no (l : List Ce) (A : Option Addr) (k c : Nat) (x n : Int) (a : Aa) (w : World) (hL : Lies w (.slice A k c) l) (hk : k ≤ 100000) (hn : -9223372036854775808 ≤ n ∧ n ≤ 9223372036854775807) (hm : roomV k x n = 0) :
    Calls Try.prog 30 #[.slice A k c, .int .i64 x, .int .i64 n, attrV a] w (RowPost w l) := by
  obtain ⟨W, hW, hB, hs, HA⟩ := box_at w a
  have hLW := hL.below hB
  have hkl := hL.row.1
  have HRm : Hid (Calls Try.prog 37 #[.slice A k c, .int .i64 x, .int .i64 n] W fun e w' => e = .returned (.int .i64 0) ∧ W = w') := Lib.hid (by
    have := room_any A k c x n W hk hn
    rwa [hm] at this)
  have hA0 : Below W.heap.size W (W.alloc (.cells #[] 44)) := (Below.refl _ _).alloc (Nat.le_refl _) _
  have HLi := Lib.hid (hLW.below hA0)
  have HA0 := Lib.hid hA0
  have H0 := Lib.hid (own_zero W)
  have HK := Lib.hid hkl
  have HW := Lib.hid hW
  have HB := Lib.hid hB
  clear hL hn hm hW hB hs hkl HA hLW hA0
  go_enter Try.func30, Try.ntmps30
  go_wp2_with fail
  rw [← HW.out]
  refine (show Calls _ _ _ _ _ from HRm.out).mono ?_
  rintro e w' ⟨rfl, rfl⟩
  go_wp2_with (at_builtin; refine append_cells _ rfl (.tmp 15) (.tmp 16) rfl W.heap.size _ _ [] l rfl H0.out rfl HLi.out (by have := HK.out; simp; omega) HA0.out.size ?_)
  intro v1 w1 ho1 hg1
  have B1 := Lib.hid (grown_below HA0.out hg1 H0.out HA0.out.size)
  have O1 : Hid (OwnC w1 W.heap.size v1 l) := Lib.hid ho1
  clear ho1 hg1
  go_wp2
  go_ret
  exact ⟨_, rfl, own_less O1.out HB.out.size, HB.out.trans (B1.out.mono HB.out.size)⟩

set_option maxRecDepth 100000 in
set_option maxHeartbeats 4000000 in
theorem rins_yes (l : List Ce) (A : Option Addr) (k c X m Y : Nat) (n : Int) (a : Aa) (w : World) (hL : Lies w (.slice A k c) l) (hk : k ≤ 100000) (hn : -9223372036854775808 ≤ n ∧ n ≤ 9223372036854775807) (hm : roomV k (X : Int) n = m) (h1 : 1 ≤ m) (hXm : X + m ≤ k) (hY : Y = k - m) :
    Calls Try.prog 30 #[.slice A k c, .int .i64 (X : Int), .int .i64 n, attrV a] w (RowPost w (insN l X m a)) := by
  obtain ⟨W, hW, hB, hs, HA⟩ := box_at w a
  have HL := Lib.hid (hL.below hB)
  have hkl := hL.row.1
  have HRm : Hid (Calls Try.prog 37 #[.slice A k c, .int .i64 (X : Int), .int .i64 n] W fun e w' => e = .returned (.int .i64 (m : Int)) ∧ W = w') := Lib.hid (by
    have := room_any A k c X n W hk hn
    rwa [hm] at this)
  have HP1 := Lib.hid (part_any l A k c X W HL.out hkl hk)
  have HK := Lib.hid hkl
  have HW := Lib.hid hW
  have HB := Lib.hid hB
  have HA := Lib.hid HA
  have HY := Lib.hid hY
  have g0 : ((m : Int) == 0) = false := by simp; omega
  have z1 : IntKind.i64.wrap ((k : Int) - (m : Int)) = (Y : Int) := by rw [IntWalk.i64_in _ (by omega)]; omega
  clear hL hn hm hW hB hs hkl hY
  go_enter Try.func30, Try.ntmps30
  go_wp2_with fail
  rw [← HW.out]
  refine (show Calls _ _ _ _ _ from HRm.out).mono ?_
  rintro e w' ⟨rfl, rfl⟩
  go_wp2_with fail
  refine (show Calls _ _ _ _ _ from HP1.out).mono ?_
  rintro e w1 ⟨v1, rfl, ho1, hb1⟩
  obtain ⟨g1, c1, rfl, _, _, hc1, hM1, hR1⟩ := own_somek ho1 (k := k) (by rw [part_len]; exact HK.out) (by omega)
  have HP2 : Hid (Calls Try.prog 35 #[.slice (some ⟨g1, 0, none⟩) k c1, .int .i64 (Y : Int)] w1 (RowPost w1 (cutP l X Y))) := Lib.hid (part_any (partC l X) (some ⟨g1, 0, none⟩) k c1 (Y : Int) w1 (own_lies ho1) (by rw [part_len]; exact HK.out) hk)
  have B1 := Lib.hid (HB.out.trans (hb1.mono HB.out.size))
  have Bw1 := Lib.hid hb1
  clear ho1 hb1 hc1 hM1 hR1 HP1 HRm
  go_wp2_with fail
  refine (show Calls _ _ _ _ _ from HP2.out).mono ?_
  rintro e w2 ⟨v2, rfl, ho2, hb2⟩
  obtain ⟨g2, c2, rfl, _, _, hc2, hM2, hR2⟩ := own_somek ho2 (k := k) (by rw [cutP_len]; exact HK.out) (by omega)
  have B2 := Lib.hid (B1.out.trans (hb2.mono B1.out.size))
  have HAt : ∀ V, Below w2.heap.size w2 V → V.heap[w.heap.size]? = some (attrO a) := fun V hV => HA.out V ((Bw1.out.trans (hb2.mono Bw1.out.size)).trans (hV.mono (Bw1.out.trans (hb2.mono Bw1.out.size)).size))
  have a0 := fun V hV => cell_of (HAt V hV) 0
  have a1 := fun V hV => cell_of (HAt V hV) 1
  have a2 := fun V hV => cell_of (HAt V hV) 2
  have a3 := fun V hV => cell_of (HAt V hV) 3
  have a4 := fun V hV => cell_of (HAt V hV) 4
  have kd : Below w2.heap.size w2 w2.drew := below_drew (Below.refl _ _) 1
  have K1 : Hid (∀ V, Below w2.heap.size w2 V → Calls Try.prog 11 #[.int .i64 (m : Int), attrV a] V fun e w' => ∃ v, e = .returned v ∧ Lies w' v (blanks m a) ∧ Below w2.heap.size w2 w') := Lib.hid fun V hV => (blanks_any m a V (by omega)).mono fun e w' ⟨v, he, ho, hb⟩ => ⟨v, he, by have := own_lies ho; simpa using this, hV.trans (hb.mono hV.size)⟩
  have hlen : (cutP l X Y).length = k := by rw [cutP_len]; exact HK.out.symm
  have HRV : ∀ V, Below w2.heap.size w2 V → RowR V V.heap.size (some ⟨g2, 0, none⟩) (cutP l X Y) := fun V hV => (hR2.below hV (Nat.le_refl _)).more hV.size
  have L1 : ∀ V, Below w2.heap.size w2 V → Lies V (.slice (some ⟨g2, 0, none⟩) X c2) ((cutP l X Y).take X) := fun V hV => ⟨_, c2, by rw [List.length_take, hlen, Nat.min_eq_left (by have := HY.out; omega)], fun e => (by cases e), ⟨by rw [List.length_take]; have := HY.out; omega, hM2⟩, (HRV V hV).take X⟩
  have L3 : ∀ V, Below w2.heap.size w2 V → Lies V (.slice (some ⟨g2, X * 7, none⟩) (Y - X) (c2 - X)) (((cutP l X Y).take Y).drop X) := fun V hV => Lies.cut (HRV V hV) (by omega) hM2 (by have := HY.out; omega) (by have := HY.out; omega) (Or.inl (by rw [Nat.zero_add])) rfl rfl
  have K2 : Hid (∀ V v, Below w2.heap.size w2 V → Lies V v (blanks m a) → Calls Try.prog 36 #[.slice (some ⟨g2, 0, none⟩) X c2, v, .slice (some ⟨g2, X * 7, none⟩) (Y - X) (c2 - X)] V fun e w' => (∃ v, e = .returned v ∧ OwnC w' w2.heap.size v (insN l X m a)) ∧ Below w2.heap.size w2 w') := Lib.hid fun V v hV hv => by
    have hj := join_any _ _ _ _ _ _ V (L1 V hV) hv (L3 V hV) (by simp only [List.length_take, List.length_drop, blanks_len, cutP_len]; have := HK.out; have := HY.out; omega)
    refine hj.mono ?_
    rintro e w' ⟨v', rfl, ho, hb⟩
    refine ⟨⟨v', rfl, ?_⟩, hV.trans (hb.mono hV.size)⟩
    have e : insN l X m a = (cutP l X Y).take X ++ blanks m a ++ ((cutP l X Y).take Y).drop X := by
      unfold insN
      rw [← HK.out, ← HY.out]
    rw [e]
    exact own_less ho hV.size
  have y1 : (0 : Int) ≤ (X : Int) := by omega
  have y2 : (X : Int) ≤ (k : Int) := by omega
  have y3 : (X : Int) ≤ (c2 : Int) := by omega
  have y4 : (X : Int) ≤ (Y : Int) := by have := HY.out; omega
  have y5 : (Y : Int) ≤ (c2 : Int) := by have := HY.out; omega
  have y6 : (0 : Int) ≤ (Y : Int) := by omega
  have y7 : (Y : Int) ≤ (k : Int) := by have := HY.out; omega
  clear ho2 hb2 hR2 HP2 HAt hlen HRV L1 L3
  go_wp2_with fail
  go_region_held3 (fun V => Below w2.heap.size w2 V) (assumption)
    (first | (go_at_call 11; (with_reducible refine (K1.out _ (by assumption)).mono ?_); rintro e y1 ⟨v3, rfl, lb, j1⟩) | (go_at_call 36; (with_reducible refine (K2.out _ _ (by assumption) (by assumption)).mono ?_); rintro e y2 ⟨⟨v4, rfl, lo⟩, j2⟩))
  all_goals
    go_wp2
    go_ret
    exact ⟨_, rfl, own_less lo (by have := B2.out.size; omega), B2.out.trans (j2.mono B2.out.size)⟩

theorem rins_any (l : List Ce) (A : Option Addr) (k c : Nat) (x n : Int) (a : Aa) (w : World) (hL : Lies w (.slice A k c) l) (hk : k ≤ 100000) (hn : -9223372036854775808 ≤ n ∧ n ≤ 9223372036854775807) :
    Calls Try.prog 30 #[.slice A k c, .int .i64 x, .int .i64 n, attrV a] w (RowPost w (insV l x n a)) := by
  have hkl := hL.row.1
  unfold insV
  rw [← hkl]
  by_cases h : roomV k x n = 0
  · rw [if_pos h]
    exact rins_no l A k c x n a w hL hk hn h
  · rw [if_neg h]
    obtain ⟨X, rfl⟩ := room_in h
    have hr := room_le h
    rw [Int.toNat_natCast] at hr ⊢
    exact rins_yes l A k c X _ _ n a w hL hk hn rfl hr.2.1 hr.2.2 rfl

set_option maxRecDepth 100000 in
set_option maxHeartbeats 2000000 in
theorem rdel_no (l : List Ce) (A : Option Addr) (k c : Nat) (x n : Int) (a : Aa) (w : World) (hL : Lies w (.slice A k c) l) (hk : k ≤ 100000) (hn : -9223372036854775808 ≤ n ∧ n ≤ 9223372036854775807) (hm : roomV k x n = 0) :
    Calls Try.prog 31 #[.slice A k c, .int .i64 x, .int .i64 n, attrV a] w (RowPost w l) := by
  obtain ⟨W, hW, hB, hs, HA⟩ := box_at w a
  have hLW := hL.below hB
  have hkl := hL.row.1
  have HRm : Hid (Calls Try.prog 37 #[.slice A k c, .int .i64 x, .int .i64 n] W fun e w' => e = .returned (.int .i64 0) ∧ W = w') := Lib.hid (by
    have := room_any A k c x n W hk hn
    rwa [hm] at this)
  have hA0 : Below W.heap.size W (W.alloc (.cells #[] 44)) := (Below.refl _ _).alloc (Nat.le_refl _) _
  have HLi := Lib.hid (hLW.below hA0)
  have HA0 := Lib.hid hA0
  have H0 := Lib.hid (own_zero W)
  have HK := Lib.hid hkl
  have HW := Lib.hid hW
  have HB := Lib.hid hB
  clear hL hn hm hW hB hs hkl HA hLW hA0
  go_enter Try.func31, Try.ntmps31
  go_wp2_with fail
  rw [← HW.out]
  refine (show Calls _ _ _ _ _ from HRm.out).mono ?_
  rintro e w' ⟨rfl, rfl⟩
  go_wp2_with (at_builtin; refine append_cells _ rfl (.tmp 15) (.tmp 16) rfl W.heap.size _ _ [] l rfl H0.out rfl HLi.out (by have := HK.out; simp; omega) HA0.out.size ?_)
  intro v1 w1 ho1 hg1
  have B1 := Lib.hid (grown_below HA0.out hg1 H0.out HA0.out.size)
  have O1 : Hid (OwnC w1 W.heap.size v1 l) := Lib.hid ho1
  clear ho1 hg1
  go_wp2
  go_ret
  exact ⟨_, rfl, own_less O1.out HB.out.size, HB.out.trans (B1.out.mono HB.out.size)⟩

set_option maxRecDepth 100000 in
set_option maxHeartbeats 4000000 in
theorem rdel_yes (l : List Ce) (A : Option Addr) (k c X m Y : Nat) (n : Int) (a : Aa) (w : World) (hL : Lies w (.slice A k c) l) (hk : k ≤ 100000) (hn : -9223372036854775808 ≤ n ∧ n ≤ 9223372036854775807) (hm : roomV k (X : Int) n = m) (h1 : 1 ≤ m) (hXm : X + m ≤ k) (hY : Y = X + m) :
    Calls Try.prog 31 #[.slice A k c, .int .i64 (X : Int), .int .i64 n, attrV a] w (RowPost w (delN l X m a)) := by
  obtain ⟨W, hW, hB, hs, HA⟩ := box_at w a
  have HL := Lib.hid (hL.below hB)
  have hkl := hL.row.1
  have HRm : Hid (Calls Try.prog 37 #[.slice A k c, .int .i64 (X : Int), .int .i64 n] W fun e w' => e = .returned (.int .i64 (m : Int)) ∧ W = w') := Lib.hid (by
    have := room_any A k c X n W hk hn
    rwa [hm] at this)
  have HP1 := Lib.hid (part_any l A k c X W HL.out hkl hk)
  have HK := Lib.hid hkl
  have HW := Lib.hid hW
  have HB := Lib.hid hB
  have HA := Lib.hid HA
  have HY := Lib.hid hY
  have g0 : ((m : Int) == 0) = false := by simp; omega
  have z1 : IntKind.i64.wrap ((X : Int) + (m : Int)) = (Y : Int) := by rw [IntWalk.i64_in _ (by omega)]; omega
  clear hL hn hm hW hB hs hkl hY
  go_enter Try.func31, Try.ntmps31
  go_wp2_with fail
  rw [← HW.out]
  refine (show Calls _ _ _ _ _ from HRm.out).mono ?_
  rintro e w' ⟨rfl, rfl⟩
  go_wp2_with fail
  refine (show Calls _ _ _ _ _ from HP1.out).mono ?_
  rintro e w1 ⟨v1, rfl, ho1, hb1⟩
  obtain ⟨g1, c1, rfl, _, _, hc1, hM1, hR1⟩ := own_somek ho1 (k := k) (by rw [part_len]; exact HK.out) (by omega)
  have HP2 : Hid (Calls Try.prog 35 #[.slice (some ⟨g1, 0, none⟩) k c1, .int .i64 (Y : Int)] w1 (RowPost w1 (cutP l X Y))) := Lib.hid (part_any (partC l X) (some ⟨g1, 0, none⟩) k c1 (Y : Int) w1 (own_lies ho1) (by rw [part_len]; exact HK.out) hk)
  have B1 := Lib.hid (HB.out.trans (hb1.mono HB.out.size))
  have Bw1 := Lib.hid hb1
  clear ho1 hb1 hc1 hM1 hR1 HP1 HRm
  go_wp2_with fail
  refine (show Calls _ _ _ _ _ from HP2.out).mono ?_
  rintro e w2 ⟨v2, rfl, ho2, hb2⟩
  obtain ⟨g2, c2, rfl, _, _, hc2, hM2, hR2⟩ := own_somek ho2 (k := k) (by rw [cutP_len]; exact HK.out) (by omega)
  have B2 := Lib.hid (B1.out.trans (hb2.mono B1.out.size))
  have HAt : ∀ V, Below w2.heap.size w2 V → V.heap[w.heap.size]? = some (attrO a) := fun V hV => HA.out V ((Bw1.out.trans (hb2.mono Bw1.out.size)).trans (hV.mono (Bw1.out.trans (hb2.mono Bw1.out.size)).size))
  have a0 := fun V hV => cell_of (HAt V hV) 0
  have a1 := fun V hV => cell_of (HAt V hV) 1
  have a2 := fun V hV => cell_of (HAt V hV) 2
  have a3 := fun V hV => cell_of (HAt V hV) 3
  have a4 := fun V hV => cell_of (HAt V hV) 4
  have kd : Below w2.heap.size w2 w2.drew := below_drew (Below.refl _ _) 1
  have K1 : Hid (∀ V, Below w2.heap.size w2 V → Calls Try.prog 11 #[.int .i64 (m : Int), attrV a] V fun e w' => ∃ v, e = .returned v ∧ Lies w' v (blanks m a) ∧ Below w2.heap.size w2 w') := Lib.hid fun V hV => (blanks_any m a V (by omega)).mono fun e w' ⟨v, he, ho, hb⟩ => ⟨v, he, by have := own_lies ho; simpa using this, hV.trans (hb.mono hV.size)⟩
  have hlen : (cutP l X Y).length = k := by rw [cutP_len]; exact HK.out.symm
  have HRV : ∀ V, Below w2.heap.size w2 V → RowR V V.heap.size (some ⟨g2, 0, none⟩) (cutP l X Y) := fun V hV => (hR2.below hV (Nat.le_refl _)).more hV.size
  have L1 : ∀ V, Below w2.heap.size w2 V → Lies V (.slice (some ⟨g2, 0, none⟩) X c2) ((cutP l X Y).take X) := fun V hV => ⟨_, c2, by rw [List.length_take, hlen, Nat.min_eq_left (by have := HY.out; omega)], fun e => (by cases e), ⟨by rw [List.length_take]; have := HY.out; omega, hM2⟩, (HRV V hV).take X⟩
  have L3 : ∀ V A3, Below w2.heap.size w2 V → (A3 = some ⟨g2, Y * 7, none⟩ ∨ (∃ p, A3 = some p) ∧ k - Y = 0) → Lies V (.slice A3 (k - Y) (c2 - Y)) ((cutP l X Y).drop Y) := fun V A3 hV hA => by
    have := Lies.cut (HRV V hV) (by omega) hM2 (x := Y) (y := k) (by have := HY.out; omega) (by omega) (A := A3) (hA.imp (fun h => by rw [h, Nat.zero_add]) id) rfl rfl
    rwa [show (cutP l X Y).take k = cutP l X Y from List.take_of_length_le (by omega)] at this
  have y1 : (0 : Int) ≤ (X : Int) := by omega
  have y2 : (X : Int) ≤ (k : Int) := by omega
  have y3 : (X : Int) ≤ (c2 : Int) := by omega
  have y4 : (X : Int) ≤ (Y : Int) := by have := HY.out; omega
  have y5 : (Y : Int) ≤ (c2 : Int) := by have := HY.out; omega
  have y6 : (0 : Int) ≤ (Y : Int) := by omega
  have y7 : (Y : Int) ≤ (k : Int) := by have := HY.out; omega
  by_cases hcY : c2 = Y
  · have K2 : Hid (∀ V v, Below w2.heap.size w2 V → Lies V v (blanks m a) → Calls Try.prog 36 #[.slice (some ⟨g2, 0, none⟩) X c2, .slice (some ⟨g2, 0, none⟩) (k - Y) (c2 - Y), v] V fun e w' => (∃ v, e = .returned v ∧ OwnC w' w2.heap.size v (delN l X m a)) ∧ Below w2.heap.size w2 w') := Lib.hid fun V v hV hv => by
      have hj := join_any _ _ _ _ _ _ V (L1 V hV) (L3 V (some ⟨g2, 0, none⟩) hV (Or.inr ⟨⟨_, rfl⟩, by omega⟩)) hv (by simp only [List.length_take, List.length_drop, blanks_len, cutP_len]; have := HK.out; have := HY.out; omega)
      refine hj.mono ?_
      rintro e w' ⟨v', rfl, ho, hb⟩
      refine ⟨⟨v', rfl, ?_⟩, hV.trans (hb.mono hV.size)⟩
      have e : delN l X m a = (cutP l X Y).take X ++ (cutP l X Y).drop Y ++ blanks m a := by
        unfold delN
        rw [← HY.out]
      rw [e]
      exact own_less ho hV.size
    clear ho2 hb2 hR2 HP2 HAt hlen HRV L1 L3
    have hkY : k = Y := by omega
    subst hkY
    subst hcY
    simp only [Nat.sub_self] at K2
    go_wp2_with fail
    go_region_held3 (fun V => Below w2.heap.size w2 V) (assumption)
      (first | (go_at_call 11; (with_reducible refine (K1.out _ (by assumption)).mono ?_); rintro e y1 ⟨v3, rfl, lb, j1⟩) | (go_at_call 36; (with_reducible refine (K2.out _ _ (by assumption) (by assumption)).mono ?_); rintro e y2 ⟨⟨v4, rfl, lo⟩, j2⟩))
    all_goals
      go_wp2
      go_ret
      exact ⟨_, rfl, own_less lo (by have := B2.out.size; omega), B2.out.trans (j2.mono B2.out.size)⟩
  · have K2 : Hid (∀ V v, Below w2.heap.size w2 V → Lies V v (blanks m a) → Calls Try.prog 36 #[.slice (some ⟨g2, 0, none⟩) X c2, .slice (some ⟨g2, Y * 7, none⟩) (k - Y) (c2 - Y), v] V fun e w' => (∃ v, e = .returned v ∧ OwnC w' w2.heap.size v (delN l X m a)) ∧ Below w2.heap.size w2 w') := Lib.hid fun V v hV hv => by
      have hj := join_any _ _ _ _ _ _ V (L1 V hV) (L3 V _ hV (Or.inl rfl)) hv (by simp only [List.length_take, List.length_drop, blanks_len, cutP_len]; have := HK.out; have := HY.out; omega)
      refine hj.mono ?_
      rintro e w' ⟨v', rfl, ho, hb⟩
      refine ⟨⟨v', rfl, ?_⟩, hV.trans (hb.mono hV.size)⟩
      have e : delN l X m a = (cutP l X Y).take X ++ (cutP l X Y).drop Y ++ blanks m a := by
        unfold delN
        rw [← HY.out]
      rw [e]
      exact own_less ho hV.size
    have y8 : (Y : Int) ≠ (c2 : Int) := by omega
    clear ho2 hb2 hR2 HP2 HAt hlen HRV L1 L3
    go_wp2_with fail
    go_region_held3 (fun V => Below w2.heap.size w2 V) (assumption)
      (first | (go_at_call 11; (with_reducible refine (K1.out _ (by assumption)).mono ?_); rintro e y1 ⟨v3, rfl, lb, j1⟩) | (go_at_call 36; (with_reducible refine (K2.out _ _ (by assumption) (by assumption)).mono ?_); rintro e y2 ⟨⟨v4, rfl, lo⟩, j2⟩))
    all_goals
      go_wp2
      go_ret
      exact ⟨_, rfl, own_less lo (by have := B2.out.size; omega), B2.out.trans (j2.mono B2.out.size)⟩

theorem rdel_any (l : List Ce) (A : Option Addr) (k c : Nat) (x n : Int) (a : Aa) (w : World) (hL : Lies w (.slice A k c) l) (hk : k ≤ 100000) (hn : -9223372036854775808 ≤ n ∧ n ≤ 9223372036854775807) :
    Calls Try.prog 31 #[.slice A k c, .int .i64 x, .int .i64 n, attrV a] w (RowPost w (delV l x n a)) := by
  have hkl := hL.row.1
  unfold delV
  rw [← hkl]
  by_cases h : roomV k x n = 0
  · rw [if_pos h]
    exact rdel_no l A k c x n a w hL hk hn h
  · rw [if_neg h]
    obtain ⟨X, rfl⟩ := room_in h
    have hr := room_le h
    rw [Int.toNat_natCast] at hr ⊢
    exact rdel_yes l A k c X _ _ n a w hL hk hn rfl hr.2.1 hr.2.2 rfl

set_option maxRecDepth 100000 in
set_option maxHeartbeats 2000000 in
theorem rera_no (l : List Ce) (A : Option Addr) (k c : Nat) (x n : Int) (a : Aa) (w : World) (hL : Lies w (.slice A k c) l) (hk : k ≤ 100000) (hn : -9223372036854775808 ≤ n ∧ n ≤ 9223372036854775807) (hm : roomV k x n = 0) :
    Calls Try.prog 32 #[.slice A k c, .int .i64 x, .int .i64 n, attrV a] w (RowPost w l) := by
  obtain ⟨W, hW, hB, hs, HA⟩ := box_at w a
  have hLW := hL.below hB
  have hkl := hL.row.1
  have HRm : Hid (Calls Try.prog 37 #[.slice A k c, .int .i64 x, .int .i64 n] W fun e w' => e = .returned (.int .i64 0) ∧ W = w') := Lib.hid (by
    have := room_any A k c x n W hk hn
    rwa [hm] at this)
  have hA0 : Below W.heap.size W (W.alloc (.cells #[] 44)) := (Below.refl _ _).alloc (Nat.le_refl _) _
  have HLi := Lib.hid (hLW.below hA0)
  have HA0 := Lib.hid hA0
  have H0 := Lib.hid (own_zero W)
  have HK := Lib.hid hkl
  have HW := Lib.hid hW
  have HB := Lib.hid hB
  clear hL hn hm hW hB hs hkl HA hLW hA0
  go_enter Try.func32, Try.ntmps32
  go_wp2_with fail
  rw [← HW.out]
  refine (show Calls _ _ _ _ _ from HRm.out).mono ?_
  rintro e w' ⟨rfl, rfl⟩
  go_wp2_with (at_builtin; refine append_cells _ rfl (.tmp 15) (.tmp 16) rfl W.heap.size _ _ [] l rfl H0.out rfl HLi.out (by have := HK.out; simp; omega) HA0.out.size ?_)
  intro v1 w1 ho1 hg1
  have B1 := Lib.hid (grown_below HA0.out hg1 H0.out HA0.out.size)
  have O1 : Hid (OwnC w1 W.heap.size v1 l) := Lib.hid ho1
  clear ho1 hg1
  go_wp2
  go_ret
  exact ⟨_, rfl, own_less O1.out HB.out.size, HB.out.trans (B1.out.mono HB.out.size)⟩

set_option maxRecDepth 100000 in
set_option maxHeartbeats 4000000 in
theorem rera_yes (l : List Ce) (A : Option Addr) (k c X m Y : Nat) (n : Int) (a : Aa) (w : World) (hL : Lies w (.slice A k c) l) (hk : k ≤ 100000) (hn : -9223372036854775808 ≤ n ∧ n ≤ 9223372036854775807) (hm : roomV k (X : Int) n = m) (h1 : 1 ≤ m) (hXm : X + m ≤ k) (hY : Y = X + m) :
    Calls Try.prog 32 #[.slice A k c, .int .i64 (X : Int), .int .i64 n, attrV a] w (RowPost w (eraN l X m a)) := by
  obtain ⟨W, hW, hB, hs, HA⟩ := box_at w a
  have HL := Lib.hid (hL.below hB)
  have hkl := hL.row.1
  have HRm : Hid (Calls Try.prog 37 #[.slice A k c, .int .i64 (X : Int), .int .i64 n] W fun e w' => e = .returned (.int .i64 (m : Int)) ∧ W = w') := Lib.hid (by
    have := room_any A k c X n W hk hn
    rwa [hm] at this)
  have HP1 := Lib.hid (part_any l A k c X W HL.out hkl hk)
  have HK := Lib.hid hkl
  have HW := Lib.hid hW
  have HB := Lib.hid hB
  have HA := Lib.hid HA
  have HY := Lib.hid hY
  have g0 : ((m : Int) == 0) = false := by simp; omega
  have z1 : IntKind.i64.wrap ((X : Int) + (m : Int)) = (Y : Int) := by rw [IntWalk.i64_in _ (by omega)]; omega
  clear hL hn hm hW hB hs hkl hY
  go_enter Try.func32, Try.ntmps32
  go_wp2_with fail
  rw [← HW.out]
  refine (show Calls _ _ _ _ _ from HRm.out).mono ?_
  rintro e w' ⟨rfl, rfl⟩
  go_wp2_with fail
  refine (show Calls _ _ _ _ _ from HP1.out).mono ?_
  rintro e w1 ⟨v1, rfl, ho1, hb1⟩
  obtain ⟨g1, c1, rfl, _, _, hc1, hM1, hR1⟩ := own_somek ho1 (k := k) (by rw [part_len]; exact HK.out) (by omega)
  have HP2 : Hid (Calls Try.prog 35 #[.slice (some ⟨g1, 0, none⟩) k c1, .int .i64 (Y : Int)] w1 (RowPost w1 (cutP l X Y))) := Lib.hid (part_any (partC l X) (some ⟨g1, 0, none⟩) k c1 (Y : Int) w1 (own_lies ho1) (by rw [part_len]; exact HK.out) hk)
  have B1 := Lib.hid (HB.out.trans (hb1.mono HB.out.size))
  have Bw1 := Lib.hid hb1
  clear ho1 hb1 hc1 hM1 hR1 HP1 HRm
  go_wp2_with fail
  refine (show Calls _ _ _ _ _ from HP2.out).mono ?_
  rintro e w2 ⟨v2, rfl, ho2, hb2⟩
  obtain ⟨g2, c2, rfl, _, _, hc2, hM2, hR2⟩ := own_somek ho2 (k := k) (by rw [cutP_len]; exact HK.out) (by omega)
  have B2 := Lib.hid (B1.out.trans (hb2.mono B1.out.size))
  have HAt : ∀ V, Below w2.heap.size w2 V → V.heap[w.heap.size]? = some (attrO a) := fun V hV => HA.out V ((Bw1.out.trans (hb2.mono Bw1.out.size)).trans (hV.mono (Bw1.out.trans (hb2.mono Bw1.out.size)).size))
  have a0 := fun V hV => cell_of (HAt V hV) 0
  have a1 := fun V hV => cell_of (HAt V hV) 1
  have a2 := fun V hV => cell_of (HAt V hV) 2
  have a3 := fun V hV => cell_of (HAt V hV) 3
  have a4 := fun V hV => cell_of (HAt V hV) 4
  have kd : Below w2.heap.size w2 w2.drew := below_drew (Below.refl _ _) 1
  have K1 : Hid (∀ V, Below w2.heap.size w2 V → Calls Try.prog 11 #[.int .i64 (m : Int), attrV a] V fun e w' => ∃ v, e = .returned v ∧ Lies w' v (blanks m a) ∧ Below w2.heap.size w2 w') := Lib.hid fun V hV => (blanks_any m a V (by omega)).mono fun e w' ⟨v, he, ho, hb⟩ => ⟨v, he, by have := own_lies ho; simpa using this, hV.trans (hb.mono hV.size)⟩
  have hlen : (cutP l X Y).length = k := by rw [cutP_len]; exact HK.out.symm
  have HRV : ∀ V, Below w2.heap.size w2 V → RowR V V.heap.size (some ⟨g2, 0, none⟩) (cutP l X Y) := fun V hV => (hR2.below hV (Nat.le_refl _)).more hV.size
  have L1 : ∀ V, Below w2.heap.size w2 V → Lies V (.slice (some ⟨g2, 0, none⟩) X c2) ((cutP l X Y).take X) := fun V hV => ⟨_, c2, by rw [List.length_take, hlen, Nat.min_eq_left (by have := HY.out; omega)], fun e => (by cases e), ⟨by rw [List.length_take]; have := HY.out; omega, hM2⟩, (HRV V hV).take X⟩
  have L3 : ∀ V A3, Below w2.heap.size w2 V → (A3 = some ⟨g2, Y * 7, none⟩ ∨ (∃ p, A3 = some p) ∧ k - Y = 0) → Lies V (.slice A3 (k - Y) (c2 - Y)) ((cutP l X Y).drop Y) := fun V A3 hV hA => by
    have := Lies.cut (HRV V hV) (by omega) hM2 (x := Y) (y := k) (by have := HY.out; omega) (by omega) (A := A3) (hA.imp (fun h => by rw [h, Nat.zero_add]) id) rfl rfl
    rwa [show (cutP l X Y).take k = cutP l X Y from List.take_of_length_le (by omega)] at this
  have y1 : (0 : Int) ≤ (X : Int) := by omega
  have y2 : (X : Int) ≤ (k : Int) := by omega
  have y3 : (X : Int) ≤ (c2 : Int) := by omega
  have y4 : (X : Int) ≤ (Y : Int) := by have := HY.out; omega
  have y5 : (Y : Int) ≤ (c2 : Int) := by have := HY.out; omega
  have y6 : (0 : Int) ≤ (Y : Int) := by omega
  have y7 : (Y : Int) ≤ (k : Int) := by have := HY.out; omega
  by_cases hcY : c2 = Y
  · have K2 : Hid (∀ V v, Below w2.heap.size w2 V → Lies V v (blanks m a) → Calls Try.prog 36 #[.slice (some ⟨g2, 0, none⟩) X c2, v, .slice (some ⟨g2, 0, none⟩) (k - Y) (c2 - Y)] V fun e w' => (∃ v, e = .returned v ∧ OwnC w' w2.heap.size v (eraN l X m a)) ∧ Below w2.heap.size w2 w') := Lib.hid fun V v hV hv => by
      have hj := join_any _ _ _ _ _ _ V (L1 V hV) hv (L3 V (some ⟨g2, 0, none⟩) hV (Or.inr ⟨⟨_, rfl⟩, by omega⟩)) (by simp only [List.length_take, List.length_drop, blanks_len, cutP_len]; have := HK.out; have := HY.out; omega)
      refine hj.mono ?_
      rintro e w' ⟨v', rfl, ho, hb⟩
      refine ⟨⟨v', rfl, ?_⟩, hV.trans (hb.mono hV.size)⟩
      have e : eraN l X m a = (cutP l X Y).take X ++ blanks m a ++ (cutP l X Y).drop Y := by
        unfold eraN
        rw [← HY.out]
      rw [e]
      exact own_less ho hV.size
    clear ho2 hb2 hR2 HP2 HAt hlen HRV L1 L3
    have hkY : k = Y := by omega
    subst hkY
    subst hcY
    simp only [Nat.sub_self] at K2
    go_wp2_with fail
    go_region_held3 (fun V => Below w2.heap.size w2 V) (assumption)
      (first | (go_at_call 11; (with_reducible refine (K1.out _ (by assumption)).mono ?_); rintro e y1 ⟨v3, rfl, lb, j1⟩) | (go_at_call 36; (with_reducible refine (K2.out _ _ (by assumption) (by assumption)).mono ?_); rintro e y2 ⟨⟨v4, rfl, lo⟩, j2⟩))
    all_goals
      go_wp2
      go_ret
      exact ⟨_, rfl, own_less lo (by have := B2.out.size; omega), B2.out.trans (j2.mono B2.out.size)⟩
  · have K2 : Hid (∀ V v, Below w2.heap.size w2 V → Lies V v (blanks m a) → Calls Try.prog 36 #[.slice (some ⟨g2, 0, none⟩) X c2, v, .slice (some ⟨g2, Y * 7, none⟩) (k - Y) (c2 - Y)] V fun e w' => (∃ v, e = .returned v ∧ OwnC w' w2.heap.size v (eraN l X m a)) ∧ Below w2.heap.size w2 w') := Lib.hid fun V v hV hv => by
      have hj := join_any _ _ _ _ _ _ V (L1 V hV) hv (L3 V _ hV (Or.inl rfl)) (by simp only [List.length_take, List.length_drop, blanks_len, cutP_len]; have := HK.out; have := HY.out; omega)
      refine hj.mono ?_
      rintro e w' ⟨v', rfl, ho, hb⟩
      refine ⟨⟨v', rfl, ?_⟩, hV.trans (hb.mono hV.size)⟩
      have e : eraN l X m a = (cutP l X Y).take X ++ blanks m a ++ (cutP l X Y).drop Y := by
        unfold eraN
        rw [← HY.out]
      rw [e]
      exact own_less ho hV.size
    have y8 : (Y : Int) ≠ (c2 : Int) := by omega
    clear ho2 hb2 hR2 HP2 HAt hlen HRV L1 L3
    go_wp2_with fail
    go_region_held3 (fun V => Below w2.heap.size w2 V) (assumption)
      (first | (go_at_call 11; (with_reducible refine (K1.out _ (by assumption)).mono ?_); rintro e y1 ⟨v3, rfl, lb, j1⟩) | (go_at_call 36; (with_reducible refine (K2.out _ _ (by assumption) (by assumption)).mono ?_); rintro e y2 ⟨⟨v4, rfl, lo⟩, j2⟩))
    all_goals
      go_wp2
      go_ret
      exact ⟨_, rfl, own_less lo (by have := B2.out.size; omega), B2.out.trans (j2.mono B2.out.size)⟩

theorem rera_any (l : List Ce) (A : Option Addr) (k c : Nat) (x n : Int) (a : Aa) (w : World) (hL : Lies w (.slice A k c) l) (hk : k ≤ 100000) (hn : -9223372036854775808 ≤ n ∧ n ≤ 9223372036854775807) :
    Calls Try.prog 32 #[.slice A k c, .int .i64 x, .int .i64 n, attrV a] w (RowPost w (eraV l x n a)) := by
  have hkl := hL.row.1
  unfold eraV
  rw [← hkl]
  by_cases h : roomV k x n = 0
  · rw [if_pos h]
    exact rera_no l A k c x n a w hL hk hn h
  · rw [if_neg h]
    obtain ⟨X, rfl⟩ := room_in h
    have hr := room_le h
    rw [Int.toNat_natCast] at hr ⊢
    exact rera_yes l A k c X _ _ n a w hL hk hn rfl hr.2.1 hr.2.2 rfl
end Go.Proofs.Ythpnmhllgjibgaa.Rw
