/- Layer 11: the document's Write. -/
import Derived.Test.YthpnmhllgjibgaaRwH
set_option linter.unusedVariables false
namespace Go.Proofs.Ythpnmhllgjibgaa.Rw
open Go.RowKit

/-- Write's answer: a row of the call's own, or nothing. -/
def WriPost (w : World) (l : List Ce) (ok : Bool) (e : Ending) (w' : World) : Prop := (if ok then ∃ v, e = .returned (.tuple #[v, .bool true]) ∧ OwnC w' w.heap.size v l else e = .returned (.tuple #[.slice none 0 0, .bool false])) ∧ Below w.heap.size w w'
def litC1 (w : World) (a : Aa) (r : Int) : World := (w.alloc (attrO a)).alloc (.cells #[.int .i32 r, .int .u8 0, .int .u16 (a.fl : Int), .int .u8 (a.fk : Int), .int .u32 (a.fn : Int), .int .u8 (a.bk : Int), .int .u32 (a.bn : Int)] 44)
abbrev pen2O (a : Aa) (r : Int) : Obj := .cells #[.int .i32 r, .int .u8 1, .int .u16 (a.fl : Int), .int .u8 (a.fk : Int), .int .u32 (a.fn : Int), .int .u8 (a.bk : Int), .int .u32 (a.bn : Int), .int .i32 r, .int .u8 2, .int .u16 (a.fl : Int), .int .u8 (a.fk : Int), .int .u32 (a.fn : Int), .int .u8 (a.bk : Int), .int .u32 (a.bn : Int)] 44 (0, 0)
def litC2 (w : World) (a : Aa) (r : Int) : World := (litC1 w a r).alloc (pen2O a r)
theorem lit1_at (w : World) (a : Aa) (r : Int) : Below w.heap.size w (litC1 w a r) ∧ Lies (litC1 w a r) (.slice (some ⟨w.heap.size + 1, 0, none⟩) 1 1) (penV r false a) := by
  have hs : (w.alloc (attrO a)).heap.size = w.heap.size + 1 := by simp
  refine ⟨((Below.refl _ _).alloc (Nat.le_refl _) _).alloc (by simp) _, ?_⟩
  have := one_lies (w.alloc (attrO a)) ⟨r, 0, a⟩
  rw [hs] at this
  exact this
theorem lit2_at (w : World) (a : Aa) (r : Int) : Below w.heap.size w (litC2 w a r) ∧ Lies (litC2 w a r) (.slice (some ⟨w.heap.size + 1 + 1, 0, none⟩) 2 2) (penV r true a) := by
  have hs : (litC1 w a r).heap.size = w.heap.size + 1 + 1 := by simp [litC1]
  have hB := (lit1_at w a r).1
  refine ⟨hB.alloc hB.size _, _, 2, rfl, fun e => (by cases e), ⟨Nat.le_refl 2, by decide⟩, fun _ => ⟨w.heap.size + 1 + 1, 0, rfl, by simp [litC2, hs], fun i hi j u hj => ?_⟩⟩
  have hb : (litC2 w a r).heap[w.heap.size + 1 + 1]? = some (pen2O a r) := by
    rw [← hs]
    exact heap_alloc_new (litC1 w a r) _
  rw [cell_of hb]
  have hi : i < 2 := hi
  have hj7 : j < 7 := by
    have := (List.getElem?_eq_some_iff.1 hj).1
    rwa [cells_len] at this
  have : i = 0 ∨ i = 1 := by omega
  have hj8 : j = 0 ∨ j = 1 ∨ j = 2 ∨ j = 3 ∨ j = 4 ∨ j = 5 ∨ j = 6 := by omega
  rcases this with rfl | rfl <;> rcases hj8 with rfl | rfl | rfl | rfl | rfl | rfl | rfl <;> exact hj

set_option maxRecDepth 100000 in
set_option maxHeartbeats 2000000 in
theorem rwri_no1 (l : List Ce) (A : Option Addr) (k c : Nat) (x r : Int) (a : Aa) (w : World) (hk : k ≤ 100000) (hx : x < 0 ∨ (k : Int) < x + 1) (L : List Ce) :
    Calls Try.prog 29 #[.slice A k c, .int .i64 x, .int .i32 r, .bool false, attrV a] w (WriPost w L false) := by
  have HB := Lib.hid (lit1_at w a r).1
  have z2 : IntKind.i64.wrap ((k : Int) - 1) = (k : Int) - 1 := IntWalk.i64_in _ (by omega)
  have g : decide (x < 0) = true ∨ decide (x < 0) = false ∧ decide (x > (k : Int) - 1) = true := by
    by_cases h1 : x < 0
    · exact Or.inl (by simpa using h1)
    · exact Or.inr ⟨by simpa using h1, by have := hx.resolve_left h1; simp; omega⟩
  clear hx
  rcases g with g1 | ⟨g1, g2⟩
  all_goals
    go_enter Try.func29, Try.ntmps29
    go_upto_region 4 with fail
    change Code.wp _ _ _ _ (litC1 w a r)
    generalize litC1 w a r = W at HB ⊢
    go_wp2
    refine bodyPost_ret (v := .tuple #[.slice none 0 0, .bool false]) (by simp [results, Try.results29, go_sem]) rfl ?_
    exact ⟨rfl, HB.out⟩

set_option maxRecDepth 100000 in
set_option maxHeartbeats 4000000 in
theorem rwri_yes1 (l : List Ce) (A : Option Addr) (k c X Y : Nat) (r : Int) (a : Aa) (w : World) (hL : Lies w (.slice A k c) l) (hk : k ≤ 100000) (hXm : X + 1 ≤ k) (hY : Y = X + 1) :
    Calls Try.prog 29 #[.slice A k c, .int .i64 (X : Int), .int .i32 r, .bool false, attrV a] w (WriPost w (wriN l X (penV r false a)) true) := by
  obtain ⟨hB, hC⟩ := lit1_at w a r
  have hkl := hL.row.1
  have HP1 := Lib.hid (part_any l A k c X (litC1 w a r) (hL.below hB) hkl hk)
  have HK := Lib.hid hkl
  have HB := Lib.hid hB
  have HC := Lib.hid hC
  have HY := Lib.hid hY
  have z1 : IntKind.i64.wrap ((X : Int) + 1) = (Y : Int) := by rw [IntWalk.i64_in _ (by omega)]; omega
  have z2 : IntKind.i64.wrap ((k : Int) - 1) = (k : Int) - 1 := IntWalk.i64_in _ (by omega)
  have g1 : decide ((X : Int) < 0) = false := by simp
  have g2 : decide ((X : Int) > (k : Int) - 1) = false := by simp; omega
  have HX := Lib.hid (And.intro hXm hk)
  obtain ⟨cb, hcb⟩ : ∃ cb, cb = w.heap.size + 1 := ⟨_, rfl⟩
  have hcr : w.heap.size + 1 = cb := hcb.symm
  rw [hcr] at HC
  clear hL hkl hB hC hY hXm hcb
  go_enter Try.func29, Try.ntmps29
  go_upto_region 4 with fail
  change Code.wp _ _ _ _ (litC1 w a r)
  try rw [hcr]
  generalize litC1 w a r = W at HB HC HP1 ⊢
  clear hcr
  go_wp2_with fail
  refine (show Calls _ _ _ _ _ from HP1.out).mono ?_
  rintro e w1 ⟨v1, rfl, ho1, hb1⟩
  obtain ⟨g1', c1, rfl, _, _, hc1, hM1, hR1⟩ := own_somek ho1 (k := k) (by rw [part_len]; exact HK.out) (by have := HX.out; omega)
  have HP2 : Hid (Calls Try.prog 35 #[.slice (some ⟨g1', 0, none⟩) k c1, .int .i64 (Y : Int)] w1 (RowPost w1 (cutP l X Y))) := Lib.hid (part_any (partC l X) (some ⟨g1', 0, none⟩) k c1 (Y : Int) w1 (own_lies ho1) (by rw [part_len]; exact HK.out) hk)
  have B1 := Lib.hid (HB.out.trans (hb1.mono HB.out.size))
  have Bw1 := Lib.hid hb1
  clear ho1 hb1 hc1 hM1 hR1 HP1
  go_wp2_with fail
  refine (show Calls _ _ _ _ _ from HP2.out).mono ?_
  rintro e w2 ⟨v2, rfl, ho2, hb2⟩
  obtain ⟨g2', c2, rfl, _, _, hc2, hM2, hR2⟩ := own_somek ho2 (k := k) (by rw [cutP_len]; exact HK.out) (by have := HX.out; omega)
  have B2 := Lib.hid (B1.out.trans (hb2.mono B1.out.size))
  have hC2 := (HC.out.below Bw1.out).below hb2
  have kd : Below w2.heap.size w2 w2.drew := below_drew (Below.refl _ _) 1
  have hlen : (cutP l X Y).length = k := by rw [cutP_len]; exact HK.out.symm
  have hYk : Y ≤ k := by have := HX.out; have := HY.out; omega
  have hXY : X ≤ Y := by have := HY.out; omega
  have HRV : ∀ V, Below w2.heap.size w2 V → RowR V V.heap.size (some ⟨g2', 0, none⟩) (cutP l X Y) := fun V hV => (hR2.below hV (Nat.le_refl _)).more hV.size
  have L1 : ∀ V, Below w2.heap.size w2 V → Lies V (.slice (some ⟨g2', 0, none⟩) X c2) ((cutP l X Y).take X) := fun V hV => ⟨_, c2, by rw [List.length_take, hlen, Nat.min_eq_left (by omega)], fun e => (by cases e), ⟨by rw [List.length_take]; omega, hM2⟩, (HRV V hV).take X⟩
  have L3 : ∀ V A3, Below w2.heap.size w2 V → (A3 = some ⟨g2', Y * 7, none⟩ ∨ (∃ p, A3 = some p) ∧ k - Y = 0) → Lies V (.slice A3 (k - Y) (c2 - Y)) ((cutP l X Y).drop Y) := fun V A3 hV hA => by
    have := Lies.cut (HRV V hV) (by omega) hM2 (x := Y) (y := k) (by omega) (by omega) (A := A3) (hA.imp (fun h => by rw [h, Nat.zero_add]) id) rfl rfl
    rwa [show (cutP l X Y).take k = cutP l X Y from List.take_of_length_le (by omega)] at this
  have K2 : ∀ V A3, Below w2.heap.size w2 V → (A3 = some ⟨g2', Y * 7, none⟩ ∨ (∃ p, A3 = some p) ∧ k - Y = 0) → Calls Try.prog 36 #[.slice (some ⟨g2', 0, none⟩) X c2, .slice (some ⟨cb, 0, none⟩) 1 1, .slice A3 (k - Y) (c2 - Y)] V fun e w' => (∃ v, e = .returned v ∧ OwnC w' w2.heap.size v (wriN l X (penV r false a))) ∧ Below w2.heap.size w2 w' := fun V A3 hV hA => by
    have hj := join_any _ _ _ _ _ _ V (L1 V hV) (hC2.below hV) (L3 V A3 hV hA) (by simp only [List.length_take, List.length_drop, cutP_len, pen_len]; have := HK.out; have := HY.out; simp; omega)
    refine hj.mono ?_
    rintro e w' ⟨v', rfl, ho, hb⟩
    refine ⟨⟨v', rfl, ?_⟩, hV.trans (hb.mono hV.size)⟩
    have e : wriN l X (penV r false a) = (cutP l X Y).take X ++ penV r false a ++ (cutP l X Y).drop Y := by
      unfold wriN
      rw [pen_len]
      rw [if_neg (by decide), ← HY.out]
    rw [e]
    exact own_less ho hV.size
  have y1 : (0 : Int) ≤ (X : Int) := by omega
  have y2 : (X : Int) ≤ (k : Int) := by omega
  have y3 : (X : Int) ≤ (c2 : Int) := by omega
  have y4 : (X : Int) ≤ (Y : Int) := by omega
  have y5 : (Y : Int) ≤ (c2 : Int) := by omega
  have y6 : (0 : Int) ≤ (Y : Int) := by omega
  have y7 : (Y : Int) ≤ (k : Int) := by omega
  by_cases hcY : c2 = Y
  · have K2 : Hid (∀ V, Below w2.heap.size w2 V → Calls Try.prog 36 #[.slice (some ⟨g2', 0, none⟩) X c2, .slice (some ⟨cb, 0, none⟩) 1 1, .slice (some ⟨g2', 0, none⟩) (k - Y) (c2 - Y)] V fun e w' => (∃ v, e = .returned v ∧ OwnC w' w2.heap.size v (wriN l X (penV r false a))) ∧ Below w2.heap.size w2 w') := Lib.hid fun V hV => K2 V _ hV (Or.inr ⟨⟨_, rfl⟩, by omega⟩)
    have hkY : k = Y := by omega
    clear ho2 hb2 hR2 HP2 hlen HRV L1 L3 hC2 hYk hXY
    subst hkY
    subst hcY
    simp only [Nat.sub_self] at K2
    go_wp2_with fail
    go_region_held3 (fun V => Below w2.heap.size w2 V) (assumption)
      (first | (go_at_call 36; (with_reducible refine (K2.out _ (by assumption)).mono ?_); rintro e y2 ⟨⟨v4, rfl, lo⟩, j2⟩) | fail)
    all_goals
      go_wp2
      refine bodyPost_ret (v := .tuple #[v4, .bool true]) (by simp [results, Try.results29, go_sem]) rfl ?_
      exact ⟨⟨_, rfl, own_less lo B2.out.size⟩, B2.out.trans (j2.mono B2.out.size)⟩
  · have K2 : Hid (∀ V, Below w2.heap.size w2 V → Calls Try.prog 36 #[.slice (some ⟨g2', 0, none⟩) X c2, .slice (some ⟨cb, 0, none⟩) 1 1, .slice (some ⟨g2', Y * 7, none⟩) (k - Y) (c2 - Y)] V fun e w' => (∃ v, e = .returned v ∧ OwnC w' w2.heap.size v (wriN l X (penV r false a))) ∧ Below w2.heap.size w2 w') := Lib.hid fun V hV => K2 V _ hV (Or.inl rfl)
    have y8 : (Y : Int) ≠ (c2 : Int) := by omega
    clear ho2 hb2 hR2 HP2 hlen HRV L1 L3 hC2 hYk hXY
    go_wp2_with fail
    go_region_held3 (fun V => Below w2.heap.size w2 V) (assumption)
      (first | (go_at_call 36; (with_reducible refine (K2.out _ (by assumption)).mono ?_); rintro e y2 ⟨⟨v4, rfl, lo⟩, j2⟩) | fail)
    all_goals
      go_wp2
      refine bodyPost_ret (v := .tuple #[v4, .bool true]) (by simp [results, Try.results29, go_sem]) rfl ?_
      exact ⟨⟨_, rfl, own_less lo B2.out.size⟩, B2.out.trans (j2.mono B2.out.size)⟩

set_option maxRecDepth 100000 in
set_option maxHeartbeats 2000000 in
theorem rwri_no2 (l : List Ce) (A : Option Addr) (k c : Nat) (x r : Int) (a : Aa) (w : World) (hk : k ≤ 100000) (hx : x < 0 ∨ (k : Int) < x + 2) (L : List Ce) :
    Calls Try.prog 29 #[.slice A k c, .int .i64 x, .int .i32 r, .bool true, attrV a] w (WriPost w L false) := by
  have HB := Lib.hid (lit2_at w a r).1
  have z2 : IntKind.i64.wrap ((k : Int) - 2) = (k : Int) - 2 := IntWalk.i64_in _ (by omega)
  have g : decide (x < 0) = true ∨ decide (x < 0) = false ∧ decide (x > (k : Int) - 2) = true := by
    by_cases h1 : x < 0
    · exact Or.inl (by simpa using h1)
    · exact Or.inr ⟨by simpa using h1, by have := hx.resolve_left h1; simp; omega⟩
  clear hx
  rcases g with g1 | ⟨g1, g2⟩
  all_goals
    go_enter Try.func29, Try.ntmps29
    go_upto_region 4 with fail
    change Code.wp _ _ _ _ (litC2 w a r)
    generalize litC2 w a r = W at HB ⊢
    go_wp2
    refine bodyPost_ret (v := .tuple #[.slice none 0 0, .bool false]) (by simp [results, Try.results29, go_sem]) rfl ?_
    exact ⟨rfl, HB.out⟩

set_option maxRecDepth 100000 in
set_option maxHeartbeats 4000000 in
theorem rwri_yes2 (l : List Ce) (A : Option Addr) (k c X Y : Nat) (r : Int) (a : Aa) (w : World) (hL : Lies w (.slice A k c) l) (hk : k ≤ 100000) (hXm : X + 2 ≤ k) (hY : Y = X + 2) :
    Calls Try.prog 29 #[.slice A k c, .int .i64 (X : Int), .int .i32 r, .bool true, attrV a] w (WriPost w (wriN l X (penV r true a)) true) := by
  obtain ⟨hB, hC⟩ := lit2_at w a r
  have hkl := hL.row.1
  have HP1 := Lib.hid (part_any l A k c X (litC2 w a r) (hL.below hB) hkl hk)
  have HK := Lib.hid hkl
  have HB := Lib.hid hB
  have HC := Lib.hid hC
  have HY := Lib.hid hY
  have z1 : IntKind.i64.wrap ((X : Int) + 2) = (Y : Int) := by rw [IntWalk.i64_in _ (by omega)]; omega
  have z2 : IntKind.i64.wrap ((k : Int) - 2) = (k : Int) - 2 := IntWalk.i64_in _ (by omega)
  have g1 : decide ((X : Int) < 0) = false := by simp
  have g2 : decide ((X : Int) > (k : Int) - 2) = false := by simp; omega
  have HX := Lib.hid (And.intro hXm hk)
  obtain ⟨cb, hcb⟩ : ∃ cb, cb = w.heap.size + 1 + 1 := ⟨_, rfl⟩
  have hcr : w.heap.size + 1 + 1 = cb := hcb.symm
  rw [hcr] at HC
  clear hL hkl hB hC hY hXm hcb
  go_enter Try.func29, Try.ntmps29
  go_upto_region 4 with fail
  change Code.wp _ _ _ _ (litC2 w a r)
  try rw [hcr]
  generalize litC2 w a r = W at HB HC HP1 ⊢
  clear hcr
  go_wp2_with fail
  refine (show Calls _ _ _ _ _ from HP1.out).mono ?_
  rintro e w1 ⟨v1, rfl, ho1, hb1⟩
  obtain ⟨g1', c1, rfl, _, _, hc1, hM1, hR1⟩ := own_somek ho1 (k := k) (by rw [part_len]; exact HK.out) (by have := HX.out; omega)
  have HP2 : Hid (Calls Try.prog 35 #[.slice (some ⟨g1', 0, none⟩) k c1, .int .i64 (Y : Int)] w1 (RowPost w1 (cutP l X Y))) := Lib.hid (part_any (partC l X) (some ⟨g1', 0, none⟩) k c1 (Y : Int) w1 (own_lies ho1) (by rw [part_len]; exact HK.out) hk)
  have B1 := Lib.hid (HB.out.trans (hb1.mono HB.out.size))
  have Bw1 := Lib.hid hb1
  clear ho1 hb1 hc1 hM1 hR1 HP1
  go_wp2_with fail
  refine (show Calls _ _ _ _ _ from HP2.out).mono ?_
  rintro e w2 ⟨v2, rfl, ho2, hb2⟩
  obtain ⟨g2', c2, rfl, _, _, hc2, hM2, hR2⟩ := own_somek ho2 (k := k) (by rw [cutP_len]; exact HK.out) (by have := HX.out; omega)
  have B2 := Lib.hid (B1.out.trans (hb2.mono B1.out.size))
  have hC2 := (HC.out.below Bw1.out).below hb2
  have kd : Below w2.heap.size w2 w2.drew := below_drew (Below.refl _ _) 1
  have hlen : (cutP l X Y).length = k := by rw [cutP_len]; exact HK.out.symm
  have hYk : Y ≤ k := by have := HX.out; have := HY.out; omega
  have hXY : X ≤ Y := by have := HY.out; omega
  have HRV : ∀ V, Below w2.heap.size w2 V → RowR V V.heap.size (some ⟨g2', 0, none⟩) (cutP l X Y) := fun V hV => (hR2.below hV (Nat.le_refl _)).more hV.size
  have L1 : ∀ V, Below w2.heap.size w2 V → Lies V (.slice (some ⟨g2', 0, none⟩) X c2) ((cutP l X Y).take X) := fun V hV => ⟨_, c2, by rw [List.length_take, hlen, Nat.min_eq_left (by omega)], fun e => (by cases e), ⟨by rw [List.length_take]; omega, hM2⟩, (HRV V hV).take X⟩
  have L3 : ∀ V A3, Below w2.heap.size w2 V → (A3 = some ⟨g2', Y * 7, none⟩ ∨ (∃ p, A3 = some p) ∧ k - Y = 0) → Lies V (.slice A3 (k - Y) (c2 - Y)) ((cutP l X Y).drop Y) := fun V A3 hV hA => by
    have := Lies.cut (HRV V hV) (by omega) hM2 (x := Y) (y := k) (by omega) (by omega) (A := A3) (hA.imp (fun h => by rw [h, Nat.zero_add]) id) rfl rfl
    rwa [show (cutP l X Y).take k = cutP l X Y from List.take_of_length_le (by omega)] at this
  have K2 : ∀ V A3, Below w2.heap.size w2 V → (A3 = some ⟨g2', Y * 7, none⟩ ∨ (∃ p, A3 = some p) ∧ k - Y = 0) → Calls Try.prog 36 #[.slice (some ⟨g2', 0, none⟩) X c2, .slice (some ⟨cb, 0, none⟩) 2 2, .slice A3 (k - Y) (c2 - Y)] V fun e w' => (∃ v, e = .returned v ∧ OwnC w' w2.heap.size v (wriN l X (penV r true a))) ∧ Below w2.heap.size w2 w' := fun V A3 hV hA => by
    have hj := join_any _ _ _ _ _ _ V (L1 V hV) (hC2.below hV) (L3 V A3 hV hA) (by simp only [List.length_take, List.length_drop, cutP_len, pen_len]; have := HK.out; have := HY.out; simp; omega)
    refine hj.mono ?_
    rintro e w' ⟨v', rfl, ho, hb⟩
    refine ⟨⟨v', rfl, ?_⟩, hV.trans (hb.mono hV.size)⟩
    have e : wriN l X (penV r true a) = (cutP l X Y).take X ++ penV r true a ++ (cutP l X Y).drop Y := by
      unfold wriN
      rw [pen_len]
      rw [if_pos rfl, ← HY.out]
    rw [e]
    exact own_less ho hV.size
  have y1 : (0 : Int) ≤ (X : Int) := by omega
  have y2 : (X : Int) ≤ (k : Int) := by omega
  have y3 : (X : Int) ≤ (c2 : Int) := by omega
  have y4 : (X : Int) ≤ (Y : Int) := by omega
  have y5 : (Y : Int) ≤ (c2 : Int) := by omega
  have y6 : (0 : Int) ≤ (Y : Int) := by omega
  have y7 : (Y : Int) ≤ (k : Int) := by omega
  by_cases hcY : c2 = Y
  · have K2 : Hid (∀ V, Below w2.heap.size w2 V → Calls Try.prog 36 #[.slice (some ⟨g2', 0, none⟩) X c2, .slice (some ⟨cb, 0, none⟩) 2 2, .slice (some ⟨g2', 0, none⟩) (k - Y) (c2 - Y)] V fun e w' => (∃ v, e = .returned v ∧ OwnC w' w2.heap.size v (wriN l X (penV r true a))) ∧ Below w2.heap.size w2 w') := Lib.hid fun V hV => K2 V _ hV (Or.inr ⟨⟨_, rfl⟩, by omega⟩)
    have hkY : k = Y := by omega
    clear ho2 hb2 hR2 HP2 hlen HRV L1 L3 hC2 hYk hXY
    subst hkY
    subst hcY
    simp only [Nat.sub_self] at K2
    go_wp2_with fail
    go_region_held3 (fun V => Below w2.heap.size w2 V) (assumption)
      (first | (go_at_call 36; (with_reducible refine (K2.out _ (by assumption)).mono ?_); rintro e y2 ⟨⟨v4, rfl, lo⟩, j2⟩) | fail)
    all_goals
      go_wp2
      refine bodyPost_ret (v := .tuple #[v4, .bool true]) (by simp [results, Try.results29, go_sem]) rfl ?_
      exact ⟨⟨_, rfl, own_less lo B2.out.size⟩, B2.out.trans (j2.mono B2.out.size)⟩
  · have K2 : Hid (∀ V, Below w2.heap.size w2 V → Calls Try.prog 36 #[.slice (some ⟨g2', 0, none⟩) X c2, .slice (some ⟨cb, 0, none⟩) 2 2, .slice (some ⟨g2', Y * 7, none⟩) (k - Y) (c2 - Y)] V fun e w' => (∃ v, e = .returned v ∧ OwnC w' w2.heap.size v (wriN l X (penV r true a))) ∧ Below w2.heap.size w2 w') := Lib.hid fun V hV => K2 V _ hV (Or.inl rfl)
    have y8 : (Y : Int) ≠ (c2 : Int) := by omega
    clear ho2 hb2 hR2 HP2 hlen HRV L1 L3 hC2 hYk hXY
    go_wp2_with fail
    go_region_held3 (fun V => Below w2.heap.size w2 V) (assumption)
      (first | (go_at_call 36; (with_reducible refine (K2.out _ (by assumption)).mono ?_); rintro e y2 ⟨⟨v4, rfl, lo⟩, j2⟩) | fail)
    all_goals
      go_wp2
      refine bodyPost_ret (v := .tuple #[v4, .bool true]) (by simp [results, Try.results29, go_sem]) rfl ?_
      exact ⟨⟨_, rfl, own_less lo B2.out.size⟩, B2.out.trans (j2.mono B2.out.size)⟩

theorem rwri_any (l : List Ce) (A : Option Addr) (k c : Nat) (x r : Int) (wide : Bool) (a : Aa) (w : World) (hL : Lies w (.slice A k c) l) (hk : k ≤ 100000) :
    Calls Try.prog 29 #[.slice A k c, .int .i64 x, .int .i32 r, .bool wide, attrV a] w (WriPost w (wriV l x r wide a) (fitsV k x wide)) := by
  cases hf : fitsV k x wide with
  | true =>
    have h := fits_iff.1 hf
    obtain ⟨X, rfl⟩ : ∃ X : Nat, x = (X : Int) := ⟨x.toNat, by omega⟩
    unfold wriV
    rw [Int.toNat_natCast]
    cases wide with
    | false => exact rwri_yes1 l A k c X _ r a w hL hk (by simp at h; omega) rfl
    | true => exact rwri_yes2 l A k c X _ r a w hL hk (by simp at h; omega) rfl
  | false =>
    have h : ¬ (0 ≤ x ∧ x + (if wide then 2 else 1) ≤ k) := fun hh => by rw [fits_iff.2 hh] at hf; cases hf
    cases wide with
    | false => exact rwri_no1 l A k c x r a w hk (by simp at h; omega) _
    | true => exact rwri_no2 l A k c x r a w hk (by simp at h; omega) _
end Go.Proofs.Ythpnmhllgjibgaa.Rw
