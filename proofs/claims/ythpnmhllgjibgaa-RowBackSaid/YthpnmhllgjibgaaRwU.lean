/- Layer 11: RowBack's walk. -/
import Derived.Test.YthpnmhllgjibgaaRwK
set_option linter.unusedVariables false
namespace Go.Proofs.Ythpnmhllgjibgaa.Rw
open Go.RowKit

abbrev CellAt (w : World) (b o : Nat) (c : Ce) : Prop := (w.cell? ⟨b, o, none⟩ = some (.int .i32 c.r) ∧ w.cell? ⟨b, o + 1, none⟩ = some (.int .u8 (c.w : Int)) ∧ w.cell? ⟨b, o + 2, none⟩ = some (.int .u16 (c.a.fl : Int)) ∧ w.cell? ⟨b, o + 3, none⟩ = some (.int .u8 (c.a.fk : Int)) ∧ w.cell? ⟨b, o + 4, none⟩ = some (.int .u32 (c.a.fn : Int)) ∧ w.cell? ⟨b, o + 5, none⟩ = some (.int .u8 (c.a.bk : Int)) ∧ w.cell? ⟨b, o + 6, none⟩ = some (.int .u32 (c.a.bn : Int)))
theorem RowR.at0 {w : World} {B g : Nat} {l : List Ce} (h : RowR w B (some ⟨g, 0, none⟩) l) {k : Nat} (hk : k < l.length) : g < B ∧ CellAt w g (k * 7) (cellV l k) := by
  obtain ⟨b, o, e, hb, hc⟩ := h.at_ hk
  cases e
  rw [Nat.zero_add] at hc
  exact ⟨hb, hc⟩
theorem RowR.atA {w : World} {B b o : Nat} {l : List Ce} (h : RowR w B (some ⟨b, o, none⟩) l) {k : Nat} (hk : k < l.length) : CellAt w b (o + k * 7) (cellV l k) := by
  obtain ⟨b', o', e, _, hc⟩ := h.at_ hk
  cases e
  exact hc
theorem CellAt.below {w w' : World} {b o : Nat} {c : Ce} (h : CellAt w b o c) (hb : Below w.heap.size w w') (hl : b < w.heap.size) : CellAt w' b o c := ⟨(hb.cell hl).trans h.1, (hb.cell hl).trans h.2.1, (hb.cell hl).trans h.2.2.1, (hb.cell hl).trans h.2.2.2.1, (hb.cell hl).trans h.2.2.2.2.1, (hb.cell hl).trans h.2.2.2.2.2.1, (hb.cell hl).trans h.2.2.2.2.2.2⟩
abbrev cellO (c : Ce) : Obj := .cells #[.int .i32 c.r, .int .u8 (c.w : Int), .int .u16 (c.a.fl : Int), .int .u8 (c.a.fk : Int), .int .u32 (c.a.fn : Int), .int .u8 (c.a.bk : Int), .int .u32 (c.a.bn : Int)] 44 (0, 0)
theorem cell_box {w : World} {b : Nat} {c : Ce} (h : w.heap[b]? = some (cellO c)) : CellAt w b 0 c := ⟨cell_of h 0, cell_of h 1, cell_of h 2, cell_of h 3, cell_of h 4, cell_of h 5, cell_of h 6⟩
theorem neq_no (c : Ce) (w : World) : (binOp .neq 44 (ceV c) (ceV c)).run Try.prog w = .ok (.bool false) w := by
  have := neq_cell c c w
  rwa [show decide (c ≠ c) = false by simp] at this

/-- What is asked of the places. -/
def cutK (l : List Ce) (X k : Nat) : Bool := decide ((k + 1 = X ∨ k = X) ∧ wideV l X = 2)
def lateK (l : List Ce) (E k : Nat) : Bool := decide (0 < E ∧ wideV l E = 2 ∧ k + 1 = E)
def farK (l : List Ce) (Y k : Nat) : Bool := decide (Y < l.length ∧ wideV l Y = 2 ∧ k = Y)
/-- P11.4: what Delete behind Insert leaves, place by place. -/
theorem back_at {l : List Ce} (h : wholeB l = true) {X m : Nat} (hX : X + m ≤ l.length) (hm : 1 ≤ m) (a : Aa) {k : Nat} (hk : k < l.length) : cellV (delN (insN l X m a) X m a) k = if l.length - m ≤ k then blankC a else if cutK l X k = true ∨ lateK l (l.length - m) k = true then blankC (cellV l k).a else cellV l k := by
  rw [back_cell h hX hm a a hk]
  by_cases c1 : l.length - m ≤ k
  · rw [if_pos c1, if_pos c1]
  · rw [if_neg c1, if_neg c1, cutP_cell h (by omega)]
    have hw0 : X = 0 → wideV l X ≠ 2 := fun e => by rw [e]; exact head_of h
    have hi : ((cutB l X ∧ (k = X ∨ k + 1 = X)) ∨ (cutB l (l.length - m) ∧ (k = l.length - m ∨ k + 1 = l.length - m))) ↔ (cutK l X k = true ∨ lateK l (l.length - m) k = true) := by
      unfold cutK lateK cutB
      simp only [decide_eq_true_eq]
      constructor
      · rintro (⟨⟨h1, h2, h3⟩, h4⟩ | ⟨⟨h1, h2, h3⟩, h4⟩)
        · exact Or.inl ⟨by omega, h3⟩
        · exact Or.inr ⟨by omega, h3, by omega⟩
      · rintro (⟨h1, h2⟩ | ⟨h1, h2, h3⟩)
        · have : X ≠ 0 := fun e => hw0 e h2
          exact Or.inl ⟨⟨by omega, by omega, h2⟩, by omega⟩
        · exact Or.inr ⟨⟨by omega, by omega, h2⟩, by omega⟩
    by_cases hc : cutK l X k = true ∨ lateK l (l.length - m) k = true
    · rw [if_pos hc, if_pos (hi.2 hc)]
    · rw [if_neg hc, if_neg (fun hh => hc (hi.1 hh))]
theorem erase_at {l : List Ce} (h : wholeB l = true) {X m : Nat} (hX : X + m ≤ l.length) (hm : 1 ≤ m) (a : Aa) {k : Nat} (hk : k < l.length) : cellV (eraN l X m a) k = if X ≤ k ∧ k < X + m then blankC a else if (k + 1 = X ∧ wideV l X = 2) ∨ farK l (X + m) k = true then blankC (cellV l k).a else cellV l k := by
  rw [era_cell hX a k]
  have hw0 : X = 0 → wideV l X ≠ 2 := fun e => by rw [e]; exact head_of h
  by_cases c1 : X ≤ k ∧ k < X + m
  · rw [if_pos c1, if_neg (by omega), if_pos c1.2]
  · rw [if_neg c1]
    have hi : ((cutB l X ∧ (k = X ∨ k + 1 = X)) ∨ (cutB l (X + m) ∧ (k = X + m ∨ k + 1 = X + m))) ↔ ((k + 1 = X ∧ wideV l X = 2) ∨ farK l (X + m) k = true) := by
      unfold farK cutB
      simp only [decide_eq_true_eq]
      constructor
      · rintro (⟨⟨h1, h2, h3⟩, h4⟩ | ⟨⟨h1, h2, h3⟩, h4⟩)
        · exact Or.inl ⟨by omega, h3⟩
        · exact Or.inr ⟨h2, h3, by omega⟩
      · rintro (⟨h1, h2⟩ | ⟨h1, h2, h3⟩)
        · exact Or.inl ⟨⟨by omega, by omega, h2⟩, by omega⟩
        · exact Or.inr ⟨⟨by omega, h1, h2⟩, by omega⟩
    have e : cellV (cutP l X (X + m)) k = if (k + 1 = X ∧ wideV l X = 2) ∨ farK l (X + m) k = true then blankC (cellV l k).a else cellV l k := by
      rw [cutP_cell h (by omega)]
      by_cases hc : (k + 1 = X ∧ wideV l X = 2) ∨ farK l (X + m) k = true
      · rw [if_pos hc, if_pos (hi.2 hc)]
      · rw [if_neg hc, if_neg (fun hh => hc (hi.1 hh))]
    by_cases c2 : k < X
    · rw [if_pos c2, e]
    · rw [if_neg c2, if_neg (by omega), e]

set_option maxRecDepth 100000 in
set_option maxHeartbeats 8000000 in
theorem back_no (u : Value) (l : List Ce) (x n : Int) (a : Aa) (w : World) (hL : Lies w u l) (hM : l.length ≤ 9223372036854775807) (hx : IntIn x) (hn : IntIn n) (h : 400 < l.length ∨ l.length ≤ 400 ∧ (wholeB l = false ∨ wholeB l = true ∧ (x < 0 ∨ 0 ≤ x ∧ ((l.length : Int) ≤ x ∨ x < (l.length : Int) ∧ (n < 1 ∨ 1 ≤ n ∧ (l.length : Int) - x < n))))) :
    Calls Try.prog 5 #[u, .int .i64 x, .int .i64 n, attrV a] w fun e w' => e = .returned (.bool true) ∧ Below w.heap.size w w' := by
  obtain ⟨W, hW, hB, _, _⟩ := box_at w a
  have hLW := hL.below hB
  have HWk : Hid (∀ V, Calls Try.prog 9 #[] V fun e w' => e = .returned (.bool true) ∧ Below V.heap.size V w') := Lib.hid fun V => wakes_any V
  have HW := Lib.hid hW
  have HB := Lib.hid hB
  rcases h with h | ⟨h4, h⟩
  · obtain ⟨A, c, rfl, _⟩ := hL
    have g1 : decide ((l.length : Int) > 400) = true := by simp; omega
    clear hLW hW hB
    go_enter Try.func5, Try.ntmps5
    go_wp2_with fail
    rw [← HW.out]
    refine (HWk.out _).mono ?_
    rintro e w1 ⟨rfl, b1⟩
    have B1 := Lib.hid (HB.out.trans (b1.mono HB.out.size))
    clear b1
    go_wp2
    go_ret
    exact ⟨rfl, B1.out⟩
  have HRW := Lib.hid (rwhole_lies u l W hLW (by omega))
  obtain ⟨A, c, rfl, _⟩ := hL
  have g1 : decide ((l.length : Int) > 400) = false := by simp; omega
  rcases h with h | ⟨hw, h⟩
  · rw [h] at HRW
    clear hLW hW hB
    go_enter Try.func5, Try.ntmps5
    go_wp2_with fail
    rw [← HW.out]
    refine (show Calls _ _ _ _ _ from HRW.out).mono ?_
    rintro e w0 ⟨rfl, b0⟩
    have B0 := Lib.hid (HB.out.trans (b0.mono HB.out.size))
    clear b0 HRW
    go_wp2_with fail
    refine (HWk.out _).mono ?_
    rintro e w1 ⟨rfl, b1⟩
    have B1 := Lib.hid (B0.out.trans (b1.mono B0.out.size))
    clear b1
    go_wp2
    go_ret
    exact ⟨rfl, B1.out⟩
  rw [hw] at HRW
  rcases h with h | ⟨h0, h⟩
  · have g2 : decide (x < 0) = true := by simpa using h
    clear hLW hW hB
    go_enter Try.func5, Try.ntmps5
    go_wp2_with fail
    rw [← HW.out]
    refine (show Calls _ _ _ _ _ from HRW.out).mono ?_
    rintro e w0 ⟨rfl, b0⟩
    have B0 := Lib.hid (HB.out.trans (b0.mono HB.out.size))
    clear b0 HRW
    go_wp2_with fail
    refine (HWk.out _).mono ?_
    rintro e w1 ⟨rfl, b1⟩
    have B1 := Lib.hid (B0.out.trans (b1.mono B0.out.size))
    clear b1
    go_wp2
    go_ret
    exact ⟨rfl, B1.out⟩
  have g2 : decide (x < 0) = false := by simp; omega
  rcases h with h | ⟨h1, h⟩
  · have g3 : decide (x ≥ (l.length : Int)) = true := by simpa using h
    clear hLW hW hB
    go_enter Try.func5, Try.ntmps5
    go_wp2_with fail
    rw [← HW.out]
    refine (show Calls _ _ _ _ _ from HRW.out).mono ?_
    rintro e w0 ⟨rfl, b0⟩
    have B0 := Lib.hid (HB.out.trans (b0.mono HB.out.size))
    clear b0 HRW
    go_wp2_with fail
    refine (HWk.out _).mono ?_
    rintro e w1 ⟨rfl, b1⟩
    have B1 := Lib.hid (B0.out.trans (b1.mono B0.out.size))
    clear b1
    go_wp2
    go_ret
    exact ⟨rfl, B1.out⟩
  have g3 : decide (x ≥ (l.length : Int)) = false := by simp; omega
  rcases h with h | ⟨h2, h⟩
  · have g4 : decide (n < 1) = true := by simpa using h
    clear hLW hW hB
    go_enter Try.func5, Try.ntmps5
    go_wp2_with fail
    rw [← HW.out]
    refine (show Calls _ _ _ _ _ from HRW.out).mono ?_
    rintro e w0 ⟨rfl, b0⟩
    have B0 := Lib.hid (HB.out.trans (b0.mono HB.out.size))
    clear b0 HRW
    go_wp2_with fail
    refine (HWk.out _).mono ?_
    rintro e w1 ⟨rfl, b1⟩
    have B1 := Lib.hid (B0.out.trans (b1.mono B0.out.size))
    clear b1
    go_wp2
    go_ret
    exact ⟨rfl, B1.out⟩
  have g4 : decide (n < 1) = false := by simp; omega
  have g5 : decide (n > (l.length : Int) - x) = true := by simpa using h
  have z : IntKind.i64.wrap ((l.length : Int) - x) = (l.length : Int) - x := IntWalk.i64_in _ (by omega)
  clear hLW hW hB
  go_enter Try.func5, Try.ntmps5
  go_wp2_with fail
  rw [← HW.out]
  refine (show Calls _ _ _ _ _ from HRW.out).mono ?_
  rintro e w0 ⟨rfl, b0⟩
  have B0 := Lib.hid (HB.out.trans (b0.mono HB.out.size))
  clear b0 HRW
  go_wp2_with fail
  refine (HWk.out _).mono ?_
  rintro e w1 ⟨rfl, b1⟩
  have B1 := Lib.hid (B0.out.trans (b1.mono B0.out.size))
  clear b1
  go_wp2
  go_ret
  exact ⟨rfl, B1.out⟩
end Go.Proofs.Ythpnmhllgjibgaa.Rw
