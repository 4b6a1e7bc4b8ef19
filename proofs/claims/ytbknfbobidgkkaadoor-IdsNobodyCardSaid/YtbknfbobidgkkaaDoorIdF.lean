/- Layer 4: IdsNobody's walk. -/
import Derived.Test.YtbknfbobidgkkaaDoorIdE
namespace Go.Proofs.YtbknfbobidgkkaaDoor
open Go.RowKit Ids Lat

theorem lab_none (a : Int) : labB 0 a = false := by simp [labB]
theorem next_nil (a : Int) (w : World) : Calls Tryd.prog 16 #[.pointer none, .int .i64 a] w fun e w' => e = .returned (.tuple #[.int .i64 0, .bool false]) ∧ w = w' := next_not _ 0 a w (Or.inl ⟨rfl, rfl⟩) (lab_none a)
theorem given_nil (a : Int) (w : World) : Calls Tryd.prog 17 #[.pointer none, .int .i64 a] w fun e w' => e = .returned (.int .i64 0) ∧ w = w' := given_not _ 0 a w (Or.inl ⟨rfl, rfl⟩) (lab_none a)

/-- Numbers that nobody made. -/
def BareI (w : World) (d : Nat) : Prop := w.cell? ⟨d, 0, none⟩ = some (.slice none 0 0) ∧ d < w.heap.size
theorem BareI.below {w w' : World} {d : Nat} (h : BareI w d) (hb : Below w.heap.size w w') : BareI w' d := ⟨(hb.cell (p := ⟨d, 0, none⟩) h.2).trans h.1, Nat.lt_of_lt_of_le h.2 hb.size⟩
theorem next_bare (d : Nat) (a : Int) (w : World) (h : BareI w d) : Calls Tryd.prog 16 #[.pointer (some ⟨d, 0, none⟩), .int .i64 a] w fun e w' => e = .returned (.tuple #[.int .i64 0, .bool false]) ∧ w = w' := next_not _ 0 a w (Or.inr ⟨d, none, rfl, by omega, h.1⟩) (lab_none a)
theorem given_bare (d : Nat) (a : Int) (w : World) (h : BareI w d) : Calls Tryd.prog 17 #[.pointer (some ⟨d, 0, none⟩), .int .i64 a] w fun e w' => e = .returned (.int .i64 0) ∧ w = w' := given_not _ 0 a w (Or.inr ⟨d, none, rfl, by omega, h.1⟩) (lab_none a)

set_option maxRecDepth 100000 in
set_option maxHeartbeats 1600000 in
theorem nobody_walk (a : Int) (w : World) (_ : (Lit.int .i64 a).wf = true) (hV : Vars w) :
    Calls Tryd.prog 6 #[.int .i64 a] w fun e w' => e = .returned (.bool true) ∧ Below w.heap.size w w' := by
  have HA := Lib.hid (awake_any w hV)
  clear hV
  go_enter Tryd.func6, Tryd.ntmps6
  go_wp2_with fail
  refine HA.out.mono ?_
  rintro e w1 ⟨rfl, hb⟩
  have HB := Lib.hid hb
  clear hb HA
  go_wp2_with fail
  refine (next_nil a _).mono ?_
  rintro e w2 ⟨rfl, rfl⟩
  have HQ : Hid (BareI (w1.alloc (.cells #[.slice none 0 0] 46 (0, 0))) w1.heap.size) := Lib.hid ⟨by simp, by simp⟩
  go_wp2_with fail
  refine (next_bare _ a _ HQ.out).mono ?_
  rintro e w2 ⟨rfl, rfl⟩
  go_wp2_with fail
  refine (new_nil _).mono ?_
  rintro e w2 ⟨d, g, rfl, -, -, hI, hB⟩
  have HI := Lib.hid hI.some
  have HQ2 := Lib.hid (HQ.out.below hB)
  have HB2 := Lib.hid ((HB.out.alloc HB.out.size _).trans (hB.mono (by have := HB.out.size; simp; omega)))
  clear hI hB HQ HB
  go_wp2_with fail
  refine (next_not _ 0 a _ HI.out (lab_none a)).mono ?_
  rintro e w3 ⟨rfl, rfl⟩
  go_wp2_with fail
  refine (given_nil a _).mono ?_
  rintro e w3 ⟨rfl, rfl⟩
  go_wp2_with fail
  refine (given_bare _ a _ HQ2.out).mono ?_
  rintro e w3 ⟨rfl, rfl⟩
  go_wp2
  go_ret
  exact ⟨rfl, HB2.out⟩

end Go.Proofs.YtbknfbobidgkkaaDoor
