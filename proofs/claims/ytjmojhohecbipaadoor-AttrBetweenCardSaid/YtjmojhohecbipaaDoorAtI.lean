/- Layer 10: AttrBetween's walk. -/
import Derived.Test.YtjmojhohecbipaaDoorAtK
import Derived.Test.YtjmojhohecbipaaDoorAtV
set_option linter.unusedVariables false
namespace Go.Proofs.YtjmojhohecbipaaDoor.A10
open Go.RowKit Sgr

theorem rbetween_any (a b : At) (hb : AtOk b) (w : World) : Calls Tryd.prog 15 #[atA a, atA b] w fun e w' => e = .returned (.string (strL (betweenV a b))) ∧ Below w.heap.size w w' := by
  by_cases h : a = b ∨ rightB b = false
  · rw [bet_yes h]
    exact between_no a b hb h w
  · unfold betweenV
    rw [if_neg h]
    exact between_yes a b hb (fun e => h (Or.inl e)) (by cases hr : rightB b; exact absurd (Or.inr hr) h; rfl) w

set_option maxHeartbeats 1000000 in
theorem between_law (a b : At) (w : World) (ha : AtOk a) (hb : AtOk b) (hv : AtVars w) : Calls Tryd.prog 6 #[atA a, atA b] w fun e w' => e = .returned (.bool true) ∧ Below w.heap.size w w' := by
  have H1 : Hid (∀ V, Below w.heap.size w V → Calls Tryd.prog 10 #[atA a, atA b] V fun e w' => e = .returned (.string (strL (betweenV a b))) ∧ Below V.heap.size V w') := Lib.hid fun V hV => pbetween_any a b hb V (hv.1.below hV) (hv.2.below hV)
  have H2 : Hid (∀ V, Calls Tryd.prog 15 #[atA a, atA b] V fun e w' => e = .returned (.string (strL (betweenV a b))) ∧ Below V.heap.size V w') := Lib.hid fun V => rbetween_any a b hb V
  have P1 := Lib.hid fun V => pright_any a ha V
  have P2 := Lib.hid fun V => pright_any b hb V
  have R1 := Lib.hid fun V => right_any a ha V
  have R2 := Lib.hid fun V => right_any b hb V
  generalize strL (betweenV a b) = X at *
  generalize rightB a = x at *
  generalize rightB b = y at *
  obtain ⟨W, hW⟩ : ∃ W, W = (w.alloc (.cells (#[Value.int .u16 (a.fl : Int), .int .u8 (a.fg.kind : Int), .int .u32 (a.fg.n : Int), .int .u8 (a.bg.kind : Int), .int .u32 (a.bg.n : Int)] : Array Value) 27)).alloc (.cells (#[Value.int .u16 (b.fl : Int), .int .u8 (b.fg.kind : Int), .int .u32 (b.fg.n : Int), .int .u8 (b.bg.kind : Int), .int .u32 (b.bg.n : Int)] : Array Value) 27) := ⟨_, rfl⟩
  have hB : Below w.heap.size w W := by rw [hW]; exact ((Below.refl _ _).alloc (Nat.le_refl _) _).alloc (by simp) _
  have hsz : w.heap.size + 1 < W.heap.size := by rw [hW]; simp
  have hb0 : W.heap[w.heap.size]? = some (.cells (#[Value.int .u16 (a.fl : Int), .int .u8 (a.fg.kind : Int), .int .u32 (a.fg.n : Int), .int .u8 (a.bg.kind : Int), .int .u32 (a.bg.n : Int)] : Array Value) 27 (0, 0)) := by rw [hW]; exact (Deep.blk_alloc_lt _ _ _ (by simp)).trans (Deep.blk_alloc_new _ _)
  have hb1 : W.heap[w.heap.size + 1]? = some (.cells (#[Value.int .u16 (b.fl : Int), .int .u8 (b.fg.kind : Int), .int .u32 (b.fg.n : Int), .int .u8 (b.bg.kind : Int), .int .u32 (b.bg.n : Int)] : Array Value) 27 (0, 0)) := by
    have := Deep.blk_alloc_new (w.alloc (.cells (#[Value.int .u16 (a.fl : Int), .int .u8 (a.fg.kind : Int), .int .u32 (a.fg.n : Int), .int .u8 (a.bg.kind : Int), .int .u32 (a.bg.n : Int)] : Array Value) 27)) (.cells (#[Value.int .u16 (b.fl : Int), .int .u8 (b.fg.kind : Int), .int .u32 (b.fg.n : Int), .int .u8 (b.bg.kind : Int), .int .u32 (b.bg.n : Int)] : Array Value) 27)
    rw [Deep.nblk_alloc] at this
    rw [hW]
    exact this
  have QA : Hid (∀ V, Below W.heap.size W V → AttrAt V w.heap.size a) := Lib.hid fun V hV => (hV.block _ (by omega)).trans hb0
  have QB : Hid (∀ V, Below W.heap.size W V → AttrAt V (w.heap.size + 1) b) := Lib.hid fun V hV => (hV.block _ (by omega)).trans hb1
  have HA : Hid (Calls Tryd.prog 9 #[] W fun e w' => e = .returned (.bool true) ∧ Below W.heap.size W w') := Lib.hid (awake_any W (hv.1.below hB) (hv.2.below hB))
  have HW := Lib.hid hW
  have HB := Lib.hid hB
  unfold atA at *
  clear ha hb hv hW hB hsz hb0 hb1
  go_enter Tryd.func6, Tryd.ntmps6
  go_wp2_with fail
  rw [← HW.out]
  refine HA.out.mono ?_
  rintro e w1 ⟨rfl, b1⟩
  have B1 := Lib.hid b1
  clear b1
  go_wp2_with fail
  have K1 : Hid (∀ V, Below W.heap.size W V → Calls Tryd.prog 10 #[.agg #[.int .u16 (a.fl : Int), .int .u8 (a.fg.kind : Int), .int .u32 (a.fg.n : Int), .int .u8 (a.bg.kind : Int), .int .u32 (a.bg.n : Int)], .agg #[.int .u16 (b.fl : Int), .int .u8 (b.fg.kind : Int), .int .u32 (b.fg.n : Int), .int .u8 (b.bg.kind : Int), .int .u32 (b.bg.n : Int)]] V fun e w' => e = .returned (.string X) ∧ Below W.heap.size W w') := Lib.hid fun V hV => (H1.out V (HB.out.trans (hV.mono HB.out.size))).mono fun _ _ hh => ⟨hh.1, hV.trans (hh.2.mono hV.size)⟩
  have K2 : Hid (∀ V, Below W.heap.size W V → Calls Tryd.prog 15 #[.agg #[.int .u16 (a.fl : Int), .int .u8 (a.fg.kind : Int), .int .u32 (a.fg.n : Int), .int .u8 (a.bg.kind : Int), .int .u32 (a.bg.n : Int)], .agg #[.int .u16 (b.fl : Int), .int .u8 (b.fg.kind : Int), .int .u32 (b.fg.n : Int), .int .u8 (b.bg.kind : Int), .int .u32 (b.bg.n : Int)]] V fun e w' => e = .returned (.string X) ∧ Below W.heap.size W w') := Lib.hid fun V hV => (H2.out V).mono fun _ _ hh => ⟨hh.1, hV.trans (hh.2.mono hV.size)⟩
  have K3 : Hid (∀ V, Below W.heap.size W V → Calls Tryd.prog 11 #[.agg #[.int .u16 (a.fl : Int), .int .u8 (a.fg.kind : Int), .int .u32 (a.fg.n : Int), .int .u8 (a.bg.kind : Int), .int .u32 (a.bg.n : Int)]] V fun e w' => e = .returned (.bool x) ∧ Below W.heap.size W w') := Lib.hid fun V hV => (P1.out V).mono fun _ _ hh => ⟨hh.1, hV.trans (hh.2.mono hV.size)⟩
  have K4 : Hid (∀ V, Below W.heap.size W V → Calls Tryd.prog 14 #[.agg #[.int .u16 (a.fl : Int), .int .u8 (a.fg.kind : Int), .int .u32 (a.fg.n : Int), .int .u8 (a.bg.kind : Int), .int .u32 (a.bg.n : Int)]] V fun e w' => e = .returned (.bool x) ∧ Below W.heap.size W w') := Lib.hid fun V hV => (R1.out V).mono fun _ _ hh => ⟨hh.1, hV.trans (hh.2.mono hV.size)⟩
  have K5 : Hid (∀ V, Below W.heap.size W V → Calls Tryd.prog 11 #[.agg #[.int .u16 (b.fl : Int), .int .u8 (b.fg.kind : Int), .int .u32 (b.fg.n : Int), .int .u8 (b.bg.kind : Int), .int .u32 (b.bg.n : Int)]] V fun e w' => e = .returned (.bool y) ∧ Below W.heap.size W w') := Lib.hid fun V hV => (P2.out V).mono fun _ _ hh => ⟨hh.1, hV.trans (hh.2.mono hV.size)⟩
  have K6 : Hid (∀ V, Below W.heap.size W V → Calls Tryd.prog 14 #[.agg #[.int .u16 (b.fl : Int), .int .u8 (b.fg.kind : Int), .int .u32 (b.fg.n : Int), .int .u8 (b.bg.kind : Int), .int .u32 (b.bg.n : Int)]] V fun e w' => e = .returned (.bool y) ∧ Below W.heap.size W w') := Lib.hid fun V hV => (R2.out V).mono fun _ _ hh => ⟨hh.1, hV.trans (hh.2.mono hV.size)⟩
  have qa0 := fun V hV => (QA.out V hV).c0
  have qb0 := fun V hV => (QB.out V hV).c0
  have qa1 := fun V hV => (QA.out V hV).c1
  have qb1 := fun V hV => (QB.out V hV).c1
  have qa2 := fun V hV => (QA.out V hV).c2
  have qb2 := fun V hV => (QB.out V hV).c2
  have qa3 := fun V hV => (QA.out V hV).c3
  have qb3 := fun V hV => (QB.out V hV).c3
  have qa4 := fun V hV => (QA.out V hV).c4
  have qb4 := fun V hV => (QB.out V hV).c4
  have kd : Below W.heap.size W w1.drew := below_drew B1.out 1
  have hx : (x == x) = true := by cases x <;> rfl
  have hy : (y == y) = true := by cases y <;> rfl
  clear H1 H2 P1 P2 R1 R2
  go_region_held3 (fun V => Below W.heap.size W V)
    (assumption)
    (first | (go_at_call 10; (with_reducible refine (K1.out _ (by assumption)).mono ?_); rintro e y1 ⟨rfl, j1⟩) | (go_at_call 15; (with_reducible refine (K2.out _ (by assumption)).mono ?_); rintro e y2 ⟨rfl, j2⟩) | (go_at_call 11; (with_reducible refine (K3.out _ (by assumption)).mono ?_); rintro e y3 ⟨rfl, j3⟩) | (go_at_call 14; (with_reducible refine (K4.out _ (by assumption)).mono ?_); rintro e y4 ⟨rfl, j4⟩) | (go_at_call 11; (with_reducible refine (K5.out _ (by assumption)).mono ?_); rintro e y5 ⟨rfl, j5⟩) | (go_at_call 14; (with_reducible refine (K6.out _ (by assumption)).mono ?_); rintro e y6 ⟨rfl, j6⟩))
  go_wp2
  go_ret
  exact ⟨rfl, HB.out.trans (j6.mono HB.out.size)⟩
end Go.Proofs.YtjmojhohecbipaaDoor.A10
