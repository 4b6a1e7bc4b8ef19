/- Layer 10: AttrBack's walk. -/
import Derived.Test.YtkenaccnmmmooaaDoorBkP
import Derived.Test.YtkenaccnmmmooaaDoorBkV
set_option linter.unusedVariables false
namespace Go.Proofs.YtkenaccnmmmooaaDoor
open Go.RowKit Ev Sgr A10

/-- The three attributes that came in, in blocks of their own. -/
theorem three_at (w : World) (a b o : At) : ∃ W, W = ((w.alloc (.cells (atCells a) 27)).alloc (.cells (atCells b) 27)).alloc (.cells (atCells o) 27) ∧ Below w.heap.size w W ∧ (∀ V, Below W.heap.size W V → AttrAt V w.heap.size a) ∧ (∀ V, Below W.heap.size W V → AttrAt V (w.heap.size + 1) b) ∧ (∀ V, Below W.heap.size W V → AttrAt V (w.heap.size + 1 + 1) o) := by
  refine ⟨_, rfl, (((Below.refl _ _).alloc (Nat.le_refl _) _).alloc (by simp) _).alloc (by simp only [Deep.nblk_alloc]; omega) _, fun V hV => ?_, fun V hV => ?_, fun V hV => ?_⟩
  · refine (hV.block _ (by simp only [Deep.nblk_alloc]; omega)).trans ?_
    exact (Deep.blk_alloc_lt _ _ _ (by simp only [Deep.nblk_alloc]; omega)).trans ((Deep.blk_alloc_lt _ _ _ (by simp)).trans (Deep.blk_alloc_new _ _))
  · refine (hV.block _ (by simp only [Deep.nblk_alloc]; omega)).trans ?_
    refine (Deep.blk_alloc_lt _ _ _ (by simp)).trans ?_
    have := Deep.blk_alloc_new (w.alloc (.cells (atCells a) 27)) (.cells (atCells b) 27)
    rw [Deep.nblk_alloc] at this
    exact this
  · refine (hV.block _ (by simp)).trans ?_
    have := Deep.blk_alloc_new ((w.alloc (.cells (atCells a) 27)).alloc (.cells (atCells b) 27)) (.cells (atCells o) 27)
    rw [Deep.nblk_alloc, Deep.nblk_alloc] at this
    exact this

set_option maxHeartbeats 2000000 in
theorem back_no (a b o : At) (w : World) (hb : AtOk b) (hv : BkVars w) (h : a = b ∨ rightB b = false) : Calls Tryd.prog 3 #[atA a, atA b, atA o] w fun e w' => e = .returned (.bool true) ∧ Below w.heap.size w w' := by
  obtain ⟨W, hW, hB, QA, QB, QO⟩ := three_at w a b o
  have QA := Lib.hid QA; have QB := Lib.hid QB; have QO := Lib.hid QO
  have HW := Lib.hid hW
  have HB := Lib.hid hB
  have HA := Lib.hid (awake_any W (hv.1.below hB) (hv.2.1.below hB))
  have K1 : Hid (∀ V, Below W.heap.size W V → Calls Tryd.prog 5 #[.agg #[.int .u16 (a.fl : Int), .int .u8 (a.fg.kind : Int), .int .u32 (a.fg.n : Int), .int .u8 (a.bg.kind : Int), .int .u32 (a.bg.n : Int)], .agg #[.int .u16 (b.fl : Int), .int .u8 (b.fg.kind : Int), .int .u32 (b.fg.n : Int), .int .u8 (b.bg.kind : Int), .int .u32 (b.bg.n : Int)]] V fun e w' => e = .returned (.string ⟨#[]⟩) ∧ Below W.heap.size W w') := Lib.hid fun V hV => by
    have := pbetween_any a b hb V (hv.1.below (hB.trans (hV.mono hB.size))) (hv.2.1.below (hB.trans (hV.mono hB.size)))
    rw [bet_yes h] at this
    exact this.mono fun _ _ hh => ⟨hh.1, hV.trans (hh.2.mono hV.size)⟩
  have K2 : Hid (∀ V, Below W.heap.size W V → Calls Tryd.prog 6 #[.agg #[.int .u16 (b.fl : Int), .int .u8 (b.fg.kind : Int), .int .u32 (b.fg.n : Int), .int .u8 (b.bg.kind : Int), .int .u32 (b.bg.n : Int)]] V fun e w' => e = .returned (.bool (rightB b)) ∧ Below W.heap.size W w') := Lib.hid fun V hV => (pright_any b hb V).mono fun _ _ hh => ⟨hh.1, hV.trans (hh.2.mono hV.size)⟩
  have EQ : ∀ V, (binOp .eql 27 (.agg #[.int .u16 (a.fl : Int), .int .u8 (a.fg.kind : Int), .int .u32 (a.fg.n : Int), .int .u8 (a.bg.kind : Int), .int .u32 (a.bg.n : Int)]) (.agg #[.int .u16 (b.fl : Int), .int .u8 (b.fg.kind : Int), .int .u32 (b.fg.n : Int), .int .u8 (b.bg.kind : Int), .int .u32 (b.bg.n : Int)])).run Tryd.prog V = .ok (.bool (decide (a = b))) V := fun V => eq_attr a b V
  have hd : (decide (a = b) = true) ∨ (decide (a = b) = false ∧ rightB b = false) := by
    by_cases e : a = b
    · exact Or.inl (decide_eq_true e)
    · exact Or.inr ⟨decide_eq_false e, h.resolve_left e⟩
  generalize decide (a = b) = x at *
  generalize rightB b = y at *
  unfold atA at *
  clear hb hv hW hB h
  go_enter Tryd.func3, Tryd.ntmps3
  go_wp2_with fail
  rw [show (#[.int .u16 (a.fl : Int), .int .u8 (a.fg.kind : Int), .int .u32 (a.fg.n : Int), .int .u8 (a.bg.kind : Int), .int .u32 (a.bg.n : Int)] : Array Value) = atCells a from rfl, show (#[.int .u16 (b.fl : Int), .int .u8 (b.fg.kind : Int), .int .u32 (b.fg.n : Int), .int .u8 (b.bg.kind : Int), .int .u32 (b.bg.n : Int)] : Array Value) = atCells b from rfl, show (#[.int .u16 (o.fl : Int), .int .u8 (o.fg.kind : Int), .int .u32 (o.fg.n : Int), .int .u8 (o.bg.kind : Int), .int .u32 (o.bg.n : Int)] : Array Value) = atCells o from rfl]
  rw [← HW.out]
  refine HA.out.mono ?_
  rintro e w1 ⟨rfl, b1⟩
  have Bp := Lib.hid b1
  have pa0 := (QA.out w1 Bp.out).c0
  have pa1 := (QA.out w1 Bp.out).c1
  have pa2 := (QA.out w1 Bp.out).c2
  have pa3 := (QA.out w1 Bp.out).c3
  have pa4 := (QA.out w1 Bp.out).c4
  have pb0 := (QB.out w1 Bp.out).c0
  have pb1 := (QB.out w1 Bp.out).c1
  have pb2 := (QB.out w1 Bp.out).c2
  have pb3 := (QB.out w1 Bp.out).c3
  have pb4 := (QB.out w1 Bp.out).c4
  clear b1
  go_wp2_with fail
  refine (K1.out _ Bp.out).mono ?_
  rintro e w2 ⟨rfl, b2⟩
  have Br := Lib.hid b2
  have ra0 := (QA.out w2 Br.out).c0
  have ra1 := (QA.out w2 Br.out).c1
  have ra2 := (QA.out w2 Br.out).c2
  have ra3 := (QA.out w2 Br.out).c3
  have ra4 := (QA.out w2 Br.out).c4
  have rb0 := (QB.out w2 Br.out).c0
  have rb1 := (QB.out w2 Br.out).c1
  have rb2 := (QB.out w2 Br.out).c2
  have rb3 := (QB.out w2 Br.out).c3
  have rb4 := (QB.out w2 Br.out).c4
  clear b2 pa0 pa1 pa2 pa3 pa4 pb0 pb1 pb2 pb3 pb4
  rcases hd with rfl | ⟨rfl, rfl⟩
  · go_wp2
    go_ret
    exact ⟨rfl, HB.out.trans (Br.out.mono HB.out.size)⟩
  · go_wp2_with fail
    refine (K2.out _ Br.out).mono ?_
    rintro e w3 ⟨rfl, b3⟩
    go_wp2
    go_ret
    exact ⟨rfl, HB.out.trans (b3.mono HB.out.size)⟩

set_option maxHeartbeats 4000000 in
theorem back_yes (a b o : At) (w : World) (ha : AtOk a) (hb : AtOk b) (ho : AtOk o) (hv : BkVars w) (h1 : a ≠ b) (h2 : rightB b = true) : Calls Tryd.prog 3 #[atA a, atA b, atA o] w fun e w' => e = .returned (.bool true) ∧ Below w.heap.size w w' := by
  obtain ⟨W, hW, hB, QA, QB, QO⟩ := three_at w a b o
  have QA := Lib.hid QA; have QB := Lib.hid QB; have QO := Lib.hid QO
  have HW := Lib.hid hW
  have HB := Lib.hid hB
  have HA := Lib.hid (awake_any W (hv.1.below hB) (hv.2.1.below hB))
  have hw : ∀ V, Below W.heap.size W V → Below w.heap.size w V := fun V hV => hB.trans (hV.mono hB.size)
  have hbe : betweenV a b = saysT b := by
    unfold betweenV
    rw [if_neg (fun hh => hh.elim h1 (fun e => by rw [h2] at e; cases e))]
  have K1 : Hid (∀ V, Below W.heap.size W V → Calls Tryd.prog 5 #[.agg #[.int .u16 (a.fl : Int), .int .u8 (a.fg.kind : Int), .int .u32 (a.fg.n : Int), .int .u8 (a.bg.kind : Int), .int .u32 (a.bg.n : Int)], .agg #[.int .u16 (b.fl : Int), .int .u8 (b.fg.kind : Int), .int .u32 (b.fg.n : Int), .int .u8 (b.bg.kind : Int), .int .u32 (b.bg.n : Int)]] V fun e w' => e = .returned (.string (strL (saysT b))) ∧ Below W.heap.size W w') := Lib.hid fun V hV => by
    have := pbetween_any a b hb V (hv.1.below (hw V hV)) (hv.2.1.below (hw V hV))
    rw [hbe] at this
    exact this.mono fun _ _ hh => ⟨hh.1, hV.trans (hh.2.mono hV.size)⟩
  have K2 : Hid (∀ V, Below W.heap.size W V → Calls Tryd.prog 6 #[.agg #[.int .u16 (b.fl : Int), .int .u8 (b.fg.kind : Int), .int .u32 (b.fg.n : Int), .int .u8 (b.bg.kind : Int), .int .u32 (b.bg.n : Int)]] V fun e w' => e = .returned (.bool true) ∧ Below W.heap.size W w') := Lib.hid fun V hV => by
    have := pright_any b hb V
    rw [h2] at this
    exact this.mono fun _ _ hh => ⟨hh.1, hV.trans (hh.2.mono hV.size)⟩
  have K3 : Hid (∀ V, Below W.heap.size W V → Calls Tryd.prog 7 #[.string (strL (saysT b))] V (ParamsPost V b)) := Lib.hid fun V hV => params_any b h2 V (hv.2.2.below (hw V hV) (Nat.le_refl _))
  have K4 : Hid (∀ (y : At) (hy : AtOk y) V A c, Below W.heap.size W V → TabC V A c (saysP b) → Calls Tryd.prog 8 #[.agg #[.int .u16 (y.fl : Int), .int .u8 (y.fg.kind : Int), .int .u32 (y.fg.n : Int), .int .u8 (y.bg.kind : Int), .int .u32 (y.bg.n : Int)], .slice A (saysP b).length c] V fun e w' => e = .returned (.agg #[.int .u16 (b.fl : Int), .int .u8 (b.fg.kind : Int), .int .u32 (b.fg.n : Int), .int .u8 (b.bg.kind : Int), .int .u32 (b.bg.n : Int)]) ∧ Below V.heap.size V w') := Lib.hid fun y hy V A c hV hT => by
    have h := apply_any y hy (intL (saysP b)) A (saysP b).length c V (hT.tabL (says_small b h2)) (by simp [intL]) hT.2.2.1 hT.2.2.2 (hv.2.1.below (hw V hV))
    rw [says_back y b h2] at h
    exact h
  have EQ : ∀ V, (binOp .eql 27 (.agg #[.int .u16 (a.fl : Int), .int .u8 (a.fg.kind : Int), .int .u32 (a.fg.n : Int), .int .u8 (a.bg.kind : Int), .int .u32 (a.bg.n : Int)]) (.agg #[.int .u16 (b.fl : Int), .int .u8 (b.fg.kind : Int), .int .u32 (b.fg.n : Int), .int .u8 (b.bg.kind : Int), .int .u32 (b.bg.n : Int)])).run Tryd.prog V = .ok (.bool false) V := fun V => by
    have := eq_attr a b V
    rw [show decide (a = b) = false from decide_eq_false h1] at this
    exact this
  have ES : ∀ V, (binOp .eql 27 (.agg #[.int .u16 (b.fl : Int), .int .u8 (b.fg.kind : Int), .int .u32 (b.fg.n : Int), .int .u8 (b.bg.kind : Int), .int .u32 (b.bg.n : Int)]) (.agg #[.int .u16 (b.fl : Int), .int .u8 (b.fg.kind : Int), .int .u32 (b.fg.n : Int), .int .u8 (b.bg.kind : Int), .int .u32 (b.bg.n : Int)])).run Tryd.prog V = .ok (.bool true) V := fun V => eq_same b V
  have HO := Lib.hid (And.intro ha ho)
  obtain ⟨n, hn⟩ : ∃ n, n = (saysP b).length := ⟨_, rfl⟩
  unfold ParamsPost at K3
  rw [← hn] at K3 K4
  generalize strL (saysT b) = X at *
  generalize saysP b = L at *
  unfold atA at *
  clear ha hb ho hv hW hB h1 h2 hw hbe hn
  go_enter Tryd.func3, Tryd.ntmps3
  go_wp2_with fail
  rw [show (#[.int .u16 (a.fl : Int), .int .u8 (a.fg.kind : Int), .int .u32 (a.fg.n : Int), .int .u8 (a.bg.kind : Int), .int .u32 (a.bg.n : Int)] : Array Value) = atCells a from rfl, show (#[.int .u16 (b.fl : Int), .int .u8 (b.fg.kind : Int), .int .u32 (b.fg.n : Int), .int .u8 (b.bg.kind : Int), .int .u32 (b.bg.n : Int)] : Array Value) = atCells b from rfl, show (#[.int .u16 (o.fl : Int), .int .u8 (o.fg.kind : Int), .int .u32 (o.fg.n : Int), .int .u8 (o.bg.kind : Int), .int .u32 (o.bg.n : Int)] : Array Value) = atCells o from rfl]
  rw [← HW.out]
  refine HA.out.mono ?_
  rintro e w1 ⟨rfl, b1⟩
  have Bp := Lib.hid b1
  have pa0 := (QA.out w1 Bp.out).c0
  have pa1 := (QA.out w1 Bp.out).c1
  have pa2 := (QA.out w1 Bp.out).c2
  have pa3 := (QA.out w1 Bp.out).c3
  have pa4 := (QA.out w1 Bp.out).c4
  have pb0 := (QB.out w1 Bp.out).c0
  have pb1 := (QB.out w1 Bp.out).c1
  have pb2 := (QB.out w1 Bp.out).c2
  have pb3 := (QB.out w1 Bp.out).c3
  have pb4 := (QB.out w1 Bp.out).c4
  clear b1
  go_wp2_with fail
  refine (K1.out _ Bp.out).mono ?_
  rintro e w2 ⟨rfl, b2⟩
  have Br := Lib.hid b2
  have ra0 := (QA.out w2 Br.out).c0
  have ra1 := (QA.out w2 Br.out).c1
  have ra2 := (QA.out w2 Br.out).c2
  have ra3 := (QA.out w2 Br.out).c3
  have ra4 := (QA.out w2 Br.out).c4
  have rb0 := (QB.out w2 Br.out).c0
  have rb1 := (QB.out w2 Br.out).c1
  have rb2 := (QB.out w2 Br.out).c2
  have rb3 := (QB.out w2 Br.out).c3
  have rb4 := (QB.out w2 Br.out).c4
  clear b2 pa0 pa1 pa2 pa3 pa4 pb0 pb1 pb2 pb3 pb4
  go_wp2_with fail
  refine (K2.out _ Br.out).mono ?_
  rintro e w3 ⟨rfl, b3⟩
  have B3 := Lib.hid b3
  clear b3 ra0 ra1 ra2 ra3 ra4 rb0 rb1 rb2 rb3 rb4
  go_wp2_with fail
  refine (show Calls _ _ _ _ _ from K3.out _ B3.out).mono ?_
  rintro e w4 ⟨A, c, rfl, hT, b4⟩
  have B4 := Lib.hid (B3.out.trans (b4.mono B3.out.size))
  have k0 : Below w4.heap.size w4 w4 := Below.refl _ _
  have kd : Below w4.heap.size w4 w4.drew := below_drew k0 1
  have HT := Lib.hid hT
  have HV : Hid (∀ V, Below w4.heap.size w4 V → Below W.heap.size W V) := Lib.hid fun V hV => B4.out.trans (hV.mono B4.out.size)
  have M1 : Hid (∀ V, Below w4.heap.size w4 V → Calls Tryd.prog 8 #[.agg #[.int .u16 (a.fl : Int), .int .u8 (a.fg.kind : Int), .int .u32 (a.fg.n : Int), .int .u8 (a.bg.kind : Int), .int .u32 (a.bg.n : Int)], .slice A n c] V fun e w' => e = .returned (.agg #[.int .u16 (b.fl : Int), .int .u8 (b.fg.kind : Int), .int .u32 (b.fg.n : Int), .int .u8 (b.bg.kind : Int), .int .u32 (b.bg.n : Int)]) ∧ Below w4.heap.size w4 w') := Lib.hid fun V hV => (K4.out a HO.out.1 V A c (HV.out V hV) (HT.out.keep (P7.KeepT.of_below hV))).mono fun _ _ hh => ⟨hh.1, hV.trans (hh.2.mono hV.size)⟩
  have M2 : Hid (∀ V, Below w4.heap.size w4 V → Calls Tryd.prog 8 #[.agg #[.int .u16 (o.fl : Int), .int .u8 (o.fg.kind : Int), .int .u32 (o.fg.n : Int), .int .u8 (o.bg.kind : Int), .int .u32 (o.bg.n : Int)], .slice A n c] V fun e w' => e = .returned (.agg #[.int .u16 (b.fl : Int), .int .u8 (b.fg.kind : Int), .int .u32 (b.fg.n : Int), .int .u8 (b.bg.kind : Int), .int .u32 (b.bg.n : Int)]) ∧ Below w4.heap.size w4 w') := Lib.hid fun V hV => (K4.out o HO.out.2 V A c (HV.out V hV) (HT.out.keep (P7.KeepT.of_below hV))).mono fun _ _ hh => ⟨hh.1, hV.trans (hh.2.mono hV.size)⟩
  have qa0 := fun V hV => (QA.out V (HV.out V hV)).c0
  have qa1 := fun V hV => (QA.out V (HV.out V hV)).c1
  have qa2 := fun V hV => (QA.out V (HV.out V hV)).c2
  have qa3 := fun V hV => (QA.out V (HV.out V hV)).c3
  have qa4 := fun V hV => (QA.out V (HV.out V hV)).c4
  have qb0 := fun V hV => (QB.out V (HV.out V hV)).c0
  have qb1 := fun V hV => (QB.out V (HV.out V hV)).c1
  have qb2 := fun V hV => (QB.out V (HV.out V hV)).c2
  have qb3 := fun V hV => (QB.out V (HV.out V hV)).c3
  have qb4 := fun V hV => (QB.out V (HV.out V hV)).c4
  have qo0 := fun V hV => (QO.out V (HV.out V hV)).c0
  have qo1 := fun V hV => (QO.out V (HV.out V hV)).c1
  have qo2 := fun V hV => (QO.out V (HV.out V hV)).c2
  have qo3 := fun V hV => (QO.out V (HV.out V hV)).c3
  have qo4 := fun V hV => (QO.out V (HV.out V hV)).c4
  clear hT b4 K1 K2 K3 K4
  go_wp2_with fail
  go_region_held3 (fun V => Below w4.heap.size w4 V)
    (assumption)
    (first | (go_at_call 8; (with_reducible refine (M1.out _ (by assumption)).mono ?_); rintro e y1 ⟨rfl, j1⟩) | (go_at_call 8; (with_reducible refine (M2.out _ (by assumption)).mono ?_); rintro e y2 ⟨rfl, j2⟩))
  all_goals
    go_wp2
    go_ret
    exact ⟨rfl, HB.out.trans ((HV.out _ j2).mono HB.out.size)⟩

theorem back_law (a b o : At) (w : World) (ha : AtOk a) (hb : AtOk b) (ho : AtOk o) (hv : BkVars w) : Calls Tryd.prog 3 #[atA a, atA b, atA o] w fun e w' => e = .returned (.bool true) ∧ Below w.heap.size w w' := by
  by_cases h : a = b ∨ rightB b = false
  · exact back_no a b o w hb hv h
  · exact back_yes a b o w ha hb ho hv (fun e => h (Or.inl e)) (by cases hr : rightB b; exact absurd (Or.inr hr) h; rfl)
end Go.Proofs.YtkenaccnmmmooaaDoor
