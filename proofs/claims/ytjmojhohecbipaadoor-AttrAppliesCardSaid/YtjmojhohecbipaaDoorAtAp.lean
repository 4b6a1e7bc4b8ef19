/- Layer 10: AttrApplies' walk. -/
import Derived.Test.YtjmojhohecbipaaDoorAtGr
import Derived.Test.YtjmojhohecbipaaDoorAtJ
set_option linter.unusedVariables false
namespace Go.Proofs.YtjmojhohecbipaaDoor.A10
open Go.RowKit Sgr

set_option maxHeartbeats 2000000 in
theorem applies_law (a : At) (l : List (List Int)) (A : Option Addr) (n c : Nat) (w : World) (ha : AtOk a) (hT : TabL w A l) (hn : n = l.length) (hl : n ≤ c) (hc : c ≤ 9223372036854775807) (hv : AtVars w) :
    Calls Tryd.prog 4 #[atA a, .slice A n c] w fun e w' => e = .returned (.bool true) ∧ Below w.heap.size w w' := by
  obtain ⟨b, hb⟩ : ∃ b, b = applyV a l := ⟨_, rfl⟩
  obtain ⟨W, hW⟩ : ∃ W, W = w.alloc (.cells (atCells a) 27) := ⟨_, rfl⟩
  have hB : Below w.heap.size w W := by rw [hW]; exact (Below.refl _ _).alloc (Nat.le_refl _) _
  have hb0 : AttrAt W w.heap.size a := by rw [hW]; exact Deep.blk_alloc_new _ _
  have QA : Hid (∀ V, Below W.heap.size W V → AttrAt V w.heap.size a) := Lib.hid fun V hV => hb0.below hV
  have HA := Lib.hid (awake_any W (hv.1.below hB) (hv.2.below hB))
  have HW := Lib.hid hW
  have HB := Lib.hid hB
  have HG : Hid (∀ V, Below W.heap.size W V → Calls Tryd.prog 12 #[.slice A n c] V fun e w' => (∃ g, e = .returned (.bool g) ∧ (g = false → n ≤ 60)) ∧ w' = V) := Lib.hid fun V hV => great_any l A n c V (hT.below (hB.trans (hV.mono hB.size))) hn hl hc
  have K1 : Hid (∀ V, Below W.heap.size W V → Calls Tryd.prog 8 #[.agg #[.int .u16 (a.fl : Int), .int .u8 (a.fg.kind : Int), .int .u32 (a.fg.n : Int), .int .u8 (a.bg.kind : Int), .int .u32 (a.bg.n : Int)], .slice A n c] V fun e w' => e = .returned (.agg #[.int .u16 (b.fl : Int), .int .u8 (b.fg.kind : Int), .int .u32 (b.fg.n : Int), .int .u8 (b.bg.kind : Int), .int .u32 (b.bg.n : Int)]) ∧ Below W.heap.size W w') := Lib.hid fun V hV => by
    rw [show (.agg #[.int .u16 (b.fl : Int), .int .u8 (b.fg.kind : Int), .int .u32 (b.fg.n : Int), .int .u8 (b.bg.kind : Int), .int .u32 (b.bg.n : Int)] : Value) = atA b from rfl, hb]
    exact (apply_any a ha l A n c V (hT.below (hB.trans (hV.mono hB.size))) hn hl hc (hv.2.below (hB.trans (hV.mono hB.size)))).mono fun _ _ hh => ⟨hh.1, hV.trans (hh.2.mono hV.size)⟩
  have K2 : Hid (∀ V, Below W.heap.size W V → Calls Tryd.prog 13 #[.agg #[.int .u16 (a.fl : Int), .int .u8 (a.fg.kind : Int), .int .u32 (a.fg.n : Int), .int .u8 (a.bg.kind : Int), .int .u32 (a.bg.n : Int)], .slice A n c] V fun e w' => e = .returned (.agg #[.int .u16 (b.fl : Int), .int .u8 (b.fg.kind : Int), .int .u32 (b.fg.n : Int), .int .u8 (b.bg.kind : Int), .int .u32 (b.bg.n : Int)]) ∧ Below W.heap.size W w') := Lib.hid fun V hV => by
    rw [show (.agg #[.int .u16 (b.fl : Int), .int .u8 (b.fg.kind : Int), .int .u32 (b.fg.n : Int), .int .u8 (b.bg.kind : Int), .int .u32 (b.bg.n : Int)] : Value) = atA b from rfl, hb]
    exact (rapply_any a ha l A n c V (hT.below (hB.trans (hV.mono hB.size))) hn (by omega)).mono fun _ _ hh => ⟨hh.1, hV.trans (hh.2.mono hV.size)⟩
  have K3 : Hid (∀ V, Below W.heap.size W V → Calls Tryd.prog 11 #[.agg #[.int .u16 (a.fl : Int), .int .u8 (a.fg.kind : Int), .int .u32 (a.fg.n : Int), .int .u8 (a.bg.kind : Int), .int .u32 (a.bg.n : Int)]] V fun e w' => e = .returned (.bool (rightB a)) ∧ Below W.heap.size W w') := Lib.hid fun V hV => (pright_any a ha V).mono fun _ _ hh => ⟨hh.1, hV.trans (hh.2.mono hV.size)⟩
  have K4 : Hid (∀ V, Below W.heap.size W V → Calls Tryd.prog 14 #[.agg #[.int .u16 (a.fl : Int), .int .u8 (a.fg.kind : Int), .int .u32 (a.fg.n : Int), .int .u8 (a.bg.kind : Int), .int .u32 (a.bg.n : Int)]] V fun e w' => e = .returned (.bool (rightB a)) ∧ Below W.heap.size W w') := Lib.hid fun V hV => (right_any a ha V).mono fun _ _ hh => ⟨hh.1, hV.trans (hh.2.mono hV.size)⟩
  have EQ : ∀ V, (binOp .eql 27 (.agg #[.int .u16 (b.fl : Int), .int .u8 (b.fg.kind : Int), .int .u32 (b.fg.n : Int), .int .u8 (b.bg.kind : Int), .int .u32 (b.bg.n : Int)]) (.agg #[.int .u16 (b.fl : Int), .int .u8 (b.fg.kind : Int), .int .u32 (b.fg.n : Int), .int .u8 (b.bg.kind : Int), .int .u32 (b.bg.n : Int)])).run Tryd.prog V = .ok (.bool true) V := fun V => eq_same b V
  generalize rightB a = x at *
  have hx : (x == x) = true := by cases x <;> rfl
  have ea : atA a = .agg #[.int .u16 (a.fl : Int), .int .u8 (a.fg.kind : Int), .int .u32 (a.fg.n : Int), .int .u8 (a.bg.kind : Int), .int .u32 (a.bg.n : Int)] := rfl
  rw [ea]
  clear hT hn hb ha hB hW hb0 hv ea
  go_enter Tryd.func4, Tryd.ntmps4
  go_wp2_with fail
  rw [show (#[.int .u16 (a.fl : Int), .int .u8 (a.fg.kind : Int), .int .u32 (a.fg.n : Int), .int .u8 (a.bg.kind : Int), .int .u32 (a.bg.n : Int)] : Array Value) = atCells a from rfl]
  rw [← HW.out]
  refine HA.out.mono ?_
  rintro e w1 ⟨rfl, b1⟩
  have B1 := Lib.hid b1
  clear b1
  go_wp2_with fail
  refine (HG.out _ B1.out).mono ?_
  rintro e w' ⟨⟨g, rfl, hg⟩, rfl⟩
  have kd : Below W.heap.size W w'.drew := below_drew B1.out 1
  have qa0 := fun V hV => (QA.out V hV).c0
  have qa1 := fun V hV => (QA.out V hV).c1
  have qa2 := fun V hV => (QA.out V hV).c2
  have qa3 := fun V hV => (QA.out V hV).c3
  have qa4 := fun V hV => (QA.out V hV).c4
  cases g
  case true =>
    go_wp2
    go_ret
    exact ⟨rfl, HB.out.trans (B1.out.mono HB.out.size)⟩
  case false =>
    go_wp2_with fail
    go_region_held3 (fun V => Below W.heap.size W V)
      (assumption)
      (first | (go_at_call 8; (with_reducible refine (K1.out _ (by assumption)).mono ?_); rintro e y1 ⟨rfl, j1⟩) | (go_at_call 13; (with_reducible refine (K2.out _ (by assumption)).mono ?_); rintro e y2 ⟨rfl, j2⟩) | (go_at_call 11; (with_reducible refine (K3.out _ (by assumption)).mono ?_); rintro e y3 ⟨rfl, j3⟩) | (go_at_call 14; (with_reducible refine (K4.out _ (by assumption)).mono ?_); rintro e y4 ⟨rfl, j4⟩))
    all_goals
      go_wp2
      go_ret
      exact ⟨rfl, HB.out.trans (j4.mono HB.out.size)⟩
end Go.Proofs.YtjmojhohecbipaaDoor.A10
