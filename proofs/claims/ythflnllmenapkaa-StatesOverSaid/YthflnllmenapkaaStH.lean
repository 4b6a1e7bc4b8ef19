/- Layer 6: StatesOver's walk. -/
import Derived.Test.YthflnllmenapkaaStF
namespace Go.Proofs.Ythflnllmenapkaa
open Go.RowKit Sta

theorem neq_facts {a b : Int} (h : ¬ a = b) : (a == b) = false ∧ (a != b) = true := by simp [h]

set_option linter.unusedVariables false in
theorem over_big (st : Int) (t : ByteArray) (c : Int) (w : World) (ht : 3000 < t.size) (htm : t.size ≤ 9223372036854775807) :
    Calls Try.prog 7 #[.int .u8 st, .string t, .int .u8 c] w fun e w' => e = .returned (.bool true) ∧ Below w.heap.size w w' := by
  have g1 : decide ((3000 : Int) < t.size) = true := by simp; omega
  go_enter Try.func7, Try.ntmps7
  go_wp2_with fail
  refine (awake_any _).mono ?_
  rintro e w1 ⟨rfl, hb⟩
  have B1 := Lib.hid hb
  clear hb
  go_wp2
  go_ret
  exact ⟨rfl, B1.out⟩

/-- The ways of the three tests. -/
theorem over_ways {z c a n : Int} (h : overB z c a n = true) :
    ((a = 1 ∧ z = 0 ∧ n = 0) ∨ (a = 8 ∧ z = 10 ∧ n = 10) ∨ (a = 8 ∧ z = 12 ∧ n = 12)) ∨
    (((a = 6 ∧ n = 0 ∧ 48 ≤ c ∧ c < 127) ∨ (a = 5 ∧ n = 0 ∧ 48 ≤ c ∧ c < 127) ∨ (¬ a = 1 ∧ ¬ a = 8 ∧ ¬ a = 6 ∧ ¬ a = 5)) ∧
      (z < 2 ∨ (2 ≤ z ∧ 6 < z) ∨ (2 ≤ z ∧ z ≤ 6 ∧ c < 64) ∨ (2 ≤ z ∧ z ≤ 6 ∧ 64 ≤ c ∧ 127 ≤ c) ∨ (2 ≤ z ∧ z ≤ 6 ∧ 64 ≤ c ∧ c < 127 ∧ n = 0))) := by
  unfold overB at h
  simp only [Bool.and_eq_true, Bool.or_eq_true, Bool.not_eq_true', Bool.and_eq_false_iff, Bool.or_eq_false_iff, decide_eq_true_eq, decide_eq_false_iff_not, beq_iff_eq, beq_eq_false_iff_ne, ne_eq] at h
  obtain ⟨⟨⟨h1, h2⟩, h3⟩, h4⟩ := h
  by_cases e1 : a = 1
  · exact Or.inl (Or.inl (by have := h2.resolve_left (fun h => h e1); exact ⟨e1, this.1, this.2⟩))
  by_cases e8 : a = 8
  · have := h3.resolve_left (fun h => h e8)
    rcases this with ⟨h | h, h'⟩
    · exact Or.inl (Or.inr (Or.inl ⟨e8, h, by omega⟩))
    · exact Or.inl (Or.inr (Or.inr ⟨e8, h, by omega⟩))
  refine Or.inr ⟨?_, by clear h2 h3 h4; omega⟩
  clear h1 h2 h3
  by_cases e6 : a = 6
  · have := h4.resolve_left (fun h => h.1 e6)
    exact Or.inl ⟨e6, this.1.1, this.1.2, this.2⟩
  by_cases e5 : a = 5
  · have := h4.resolve_left (fun h => h.2 e5)
    exact Or.inr (Or.inl ⟨e5, this.1.1, this.1.2, this.2⟩)
  exact Or.inr (Or.inr ⟨e1, e8, e6, e5⟩)

/-! the ways -/
/-- What run and Next answer, in letters. -/
def RunIs (st : Int) (t : ByteArray) (z : Int) : Prop := ∀ w : World, Calls Try.prog 14 #[.int .i64 (st % 14), .string t] w fun e w' => e = .returned (.int .i64 z) ∧ Below w.heap.size w w'
def NextIs (z c a n : Int) : Prop := ∀ w : World, Calls Try.prog 12 #[.int .i64 z, .int .u8 c] w fun e w' => e = .returned (.tuple #[.int .i64 a, .int .i64 n]) ∧ Below w.heap.size w w'

set_option maxRecDepth 100000 in
set_option maxHeartbeats 1600000 in
theorem way_1 (st c : Int) (t : ByteArray) (w : World) (g1 : decide ((3000 : Int) < t.size) = false) (s0 : 0 ≤ st) (s1 : st < 256) (HRun : Hid (RunIs st t (0))) (HN : Hid (NextIs (0) c (1) (0))) :
    Calls Try.prog 7 #[.int .u8 st, .string t, .int .u8 c] w fun e w' => e = .returned (.bool true) ∧ Below w.heap.size w w' := by
  go_enter Try.func7, Try.ntmps7
  go_wp2_with fail
  refine (awake_any _).mono ?_
  rintro e w1 ⟨rfl, hb⟩
  have B1 := Lib.hid hb
  clear hb
  go_wp2_with fail
  refine (HRun.out _).mono ?_
  rintro e w2 ⟨rfl, hb⟩
  have B2 := Lib.hid (B1.out.trans (hb.mono B1.out.size))
  clear hb B1
  go_wp2_with fail
  refine (HN.out _).mono ?_
  rintro e w3 ⟨rfl, hb⟩
  have B3 := Lib.hid (B2.out.trans (hb.mono B2.out.size))
  clear hb B2
  go_wp2
  go_ret
  exact ⟨rfl, B3.out⟩

set_option maxRecDepth 100000 in
set_option maxHeartbeats 1600000 in
theorem way_8 (st c : Int) (t : ByteArray) (w : World) (g1 : decide ((3000 : Int) < t.size) = false) (s0 : 0 ≤ st) (s1 : st < 256) (HRun : Hid (RunIs st t (10))) (HN : Hid (NextIs (10) c (8) (10))) :
    Calls Try.prog 7 #[.int .u8 st, .string t, .int .u8 c] w fun e w' => e = .returned (.bool true) ∧ Below w.heap.size w w' := by
  go_enter Try.func7, Try.ntmps7
  go_wp2_with fail
  refine (awake_any _).mono ?_
  rintro e w1 ⟨rfl, hb⟩
  have B1 := Lib.hid hb
  clear hb
  go_wp2_with fail
  refine (HRun.out _).mono ?_
  rintro e w2 ⟨rfl, hb⟩
  have B2 := Lib.hid (B1.out.trans (hb.mono B1.out.size))
  clear hb B1
  go_wp2_with fail
  refine (HN.out _).mono ?_
  rintro e w3 ⟨rfl, hb⟩
  have B3 := Lib.hid (B2.out.trans (hb.mono B2.out.size))
  clear hb B2
  go_wp2
  go_ret
  exact ⟨rfl, B3.out⟩

set_option maxRecDepth 100000 in
set_option maxHeartbeats 1600000 in
theorem way_8' (st c : Int) (t : ByteArray) (w : World) (g1 : decide ((3000 : Int) < t.size) = false) (s0 : 0 ≤ st) (s1 : st < 256) (HRun : Hid (RunIs st t (12))) (HN : Hid (NextIs (12) c (8) (12))) :
    Calls Try.prog 7 #[.int .u8 st, .string t, .int .u8 c] w fun e w' => e = .returned (.bool true) ∧ Below w.heap.size w w' := by
  go_enter Try.func7, Try.ntmps7
  go_wp2_with fail
  refine (awake_any _).mono ?_
  rintro e w1 ⟨rfl, hb⟩
  have B1 := Lib.hid hb
  clear hb
  go_wp2_with fail
  refine (HRun.out _).mono ?_
  rintro e w2 ⟨rfl, hb⟩
  have B2 := Lib.hid (B1.out.trans (hb.mono B1.out.size))
  clear hb B1
  go_wp2_with fail
  refine (HN.out _).mono ?_
  rintro e w3 ⟨rfl, hb⟩
  have B3 := Lib.hid (B2.out.trans (hb.mono B2.out.size))
  clear hb B2
  go_wp2
  go_ret
  exact ⟨rfl, B3.out⟩

set_option maxRecDepth 100000 in
set_option maxHeartbeats 1600000 in
theorem way_6_0 (st z c : Int) (t : ByteArray) (w : World) (g1 : decide ((3000 : Int) < t.size) = false) (s0 : 0 ≤ st) (s1 : st < 256) (HRun : Hid (RunIs st t (z))) (HN : Hid (NextIs (z) c (6) (0))) (d1 : decide (48 ≤ c) = true) (q1 : decide (2 ≤ z) = false) (d2 : decide (c < 127) = true) :
    Calls Try.prog 7 #[.int .u8 st, .string t, .int .u8 c] w fun e w' => e = .returned (.bool true) ∧ Below w.heap.size w w' := by
  go_enter Try.func7, Try.ntmps7
  go_wp2_with fail
  refine (awake_any _).mono ?_
  rintro e w1 ⟨rfl, hb⟩
  have B1 := Lib.hid hb
  clear hb
  go_wp2_with fail
  refine (HRun.out _).mono ?_
  rintro e w2 ⟨rfl, hb⟩
  have B2 := Lib.hid (B1.out.trans (hb.mono B1.out.size))
  clear hb B1
  go_wp2_with fail
  refine (HN.out _).mono ?_
  rintro e w3 ⟨rfl, hb⟩
  have B3 := Lib.hid (B2.out.trans (hb.mono B2.out.size))
  clear hb B2
  go_wp2
  go_ret
  exact ⟨rfl, B3.out⟩

set_option maxRecDepth 100000 in
set_option maxHeartbeats 1600000 in
theorem way_6_1 (st z c : Int) (t : ByteArray) (w : World) (g1 : decide ((3000 : Int) < t.size) = false) (s0 : 0 ≤ st) (s1 : st < 256) (HRun : Hid (RunIs st t (z))) (HN : Hid (NextIs (z) c (6) (0))) (d1 : decide (48 ≤ c) = true) (q1 : decide (2 ≤ z) = true) (q2 : decide (z ≤ 6) = false) (d2 : decide (c < 127) = true) :
    Calls Try.prog 7 #[.int .u8 st, .string t, .int .u8 c] w fun e w' => e = .returned (.bool true) ∧ Below w.heap.size w w' := by
  go_enter Try.func7, Try.ntmps7
  go_wp2_with fail
  refine (awake_any _).mono ?_
  rintro e w1 ⟨rfl, hb⟩
  have B1 := Lib.hid hb
  clear hb
  go_wp2_with fail
  refine (HRun.out _).mono ?_
  rintro e w2 ⟨rfl, hb⟩
  have B2 := Lib.hid (B1.out.trans (hb.mono B1.out.size))
  clear hb B1
  go_wp2_with fail
  refine (HN.out _).mono ?_
  rintro e w3 ⟨rfl, hb⟩
  have B3 := Lib.hid (B2.out.trans (hb.mono B2.out.size))
  clear hb B2
  go_wp2
  go_ret
  exact ⟨rfl, B3.out⟩

set_option maxRecDepth 100000 in
set_option maxHeartbeats 1600000 in
theorem way_6_2 (st z c : Int) (t : ByteArray) (w : World) (g1 : decide ((3000 : Int) < t.size) = false) (s0 : 0 ≤ st) (s1 : st < 256) (HRun : Hid (RunIs st t (z))) (HN : Hid (NextIs (z) c (6) (0))) (d1 : decide (48 ≤ c) = true) (q1 : decide (2 ≤ z) = true) (q2 : decide (z ≤ 6) = true) (q3 : decide (64 ≤ c) = false) (d2 : decide (c < 127) = true) :
    Calls Try.prog 7 #[.int .u8 st, .string t, .int .u8 c] w fun e w' => e = .returned (.bool true) ∧ Below w.heap.size w w' := by
  go_enter Try.func7, Try.ntmps7
  go_wp2_with fail
  refine (awake_any _).mono ?_
  rintro e w1 ⟨rfl, hb⟩
  have B1 := Lib.hid hb
  clear hb
  go_wp2_with fail
  refine (HRun.out _).mono ?_
  rintro e w2 ⟨rfl, hb⟩
  have B2 := Lib.hid (B1.out.trans (hb.mono B1.out.size))
  clear hb B1
  go_wp2_with fail
  refine (HN.out _).mono ?_
  rintro e w3 ⟨rfl, hb⟩
  have B3 := Lib.hid (B2.out.trans (hb.mono B2.out.size))
  clear hb B2
  go_wp2
  go_ret
  exact ⟨rfl, B3.out⟩

set_option maxRecDepth 100000 in
set_option maxHeartbeats 1600000 in
theorem way_6_4 (st z c : Int) (t : ByteArray) (w : World) (g1 : decide ((3000 : Int) < t.size) = false) (s0 : 0 ≤ st) (s1 : st < 256) (HRun : Hid (RunIs st t (z))) (HN : Hid (NextIs (z) c (6) (0))) (d1 : decide (48 ≤ c) = true) (q1 : decide (2 ≤ z) = true) (q2 : decide (z ≤ 6) = true) (q3 : decide (64 ≤ c) = true) (q4 : decide (c < 127) = true) :
    Calls Try.prog 7 #[.int .u8 st, .string t, .int .u8 c] w fun e w' => e = .returned (.bool true) ∧ Below w.heap.size w w' := by
  go_enter Try.func7, Try.ntmps7
  go_wp2_with fail
  refine (awake_any _).mono ?_
  rintro e w1 ⟨rfl, hb⟩
  have B1 := Lib.hid hb
  clear hb
  go_wp2_with fail
  refine (HRun.out _).mono ?_
  rintro e w2 ⟨rfl, hb⟩
  have B2 := Lib.hid (B1.out.trans (hb.mono B1.out.size))
  clear hb B1
  go_wp2_with fail
  refine (HN.out _).mono ?_
  rintro e w3 ⟨rfl, hb⟩
  have B3 := Lib.hid (B2.out.trans (hb.mono B2.out.size))
  clear hb B2
  go_wp2
  go_ret
  exact ⟨rfl, B3.out⟩

set_option maxRecDepth 100000 in
set_option maxHeartbeats 1600000 in
theorem way_5_0 (st z c : Int) (t : ByteArray) (w : World) (g1 : decide ((3000 : Int) < t.size) = false) (s0 : 0 ≤ st) (s1 : st < 256) (HRun : Hid (RunIs st t (z))) (HN : Hid (NextIs (z) c (5) (0))) (d1 : decide (48 ≤ c) = true) (q1 : decide (2 ≤ z) = false) (d2 : decide (c < 127) = true) :
    Calls Try.prog 7 #[.int .u8 st, .string t, .int .u8 c] w fun e w' => e = .returned (.bool true) ∧ Below w.heap.size w w' := by
  go_enter Try.func7, Try.ntmps7
  go_wp2_with fail
  refine (awake_any _).mono ?_
  rintro e w1 ⟨rfl, hb⟩
  have B1 := Lib.hid hb
  clear hb
  go_wp2_with fail
  refine (HRun.out _).mono ?_
  rintro e w2 ⟨rfl, hb⟩
  have B2 := Lib.hid (B1.out.trans (hb.mono B1.out.size))
  clear hb B1
  go_wp2_with fail
  refine (HN.out _).mono ?_
  rintro e w3 ⟨rfl, hb⟩
  have B3 := Lib.hid (B2.out.trans (hb.mono B2.out.size))
  clear hb B2
  go_wp2
  go_ret
  exact ⟨rfl, B3.out⟩

set_option maxRecDepth 100000 in
set_option maxHeartbeats 1600000 in
theorem way_5_1 (st z c : Int) (t : ByteArray) (w : World) (g1 : decide ((3000 : Int) < t.size) = false) (s0 : 0 ≤ st) (s1 : st < 256) (HRun : Hid (RunIs st t (z))) (HN : Hid (NextIs (z) c (5) (0))) (d1 : decide (48 ≤ c) = true) (q1 : decide (2 ≤ z) = true) (q2 : decide (z ≤ 6) = false) (d2 : decide (c < 127) = true) :
    Calls Try.prog 7 #[.int .u8 st, .string t, .int .u8 c] w fun e w' => e = .returned (.bool true) ∧ Below w.heap.size w w' := by
  go_enter Try.func7, Try.ntmps7
  go_wp2_with fail
  refine (awake_any _).mono ?_
  rintro e w1 ⟨rfl, hb⟩
  have B1 := Lib.hid hb
  clear hb
  go_wp2_with fail
  refine (HRun.out _).mono ?_
  rintro e w2 ⟨rfl, hb⟩
  have B2 := Lib.hid (B1.out.trans (hb.mono B1.out.size))
  clear hb B1
  go_wp2_with fail
  refine (HN.out _).mono ?_
  rintro e w3 ⟨rfl, hb⟩
  have B3 := Lib.hid (B2.out.trans (hb.mono B2.out.size))
  clear hb B2
  go_wp2
  go_ret
  exact ⟨rfl, B3.out⟩

set_option maxRecDepth 100000 in
set_option maxHeartbeats 1600000 in
theorem way_5_2 (st z c : Int) (t : ByteArray) (w : World) (g1 : decide ((3000 : Int) < t.size) = false) (s0 : 0 ≤ st) (s1 : st < 256) (HRun : Hid (RunIs st t (z))) (HN : Hid (NextIs (z) c (5) (0))) (d1 : decide (48 ≤ c) = true) (q1 : decide (2 ≤ z) = true) (q2 : decide (z ≤ 6) = true) (q3 : decide (64 ≤ c) = false) (d2 : decide (c < 127) = true) :
    Calls Try.prog 7 #[.int .u8 st, .string t, .int .u8 c] w fun e w' => e = .returned (.bool true) ∧ Below w.heap.size w w' := by
  go_enter Try.func7, Try.ntmps7
  go_wp2_with fail
  refine (awake_any _).mono ?_
  rintro e w1 ⟨rfl, hb⟩
  have B1 := Lib.hid hb
  clear hb
  go_wp2_with fail
  refine (HRun.out _).mono ?_
  rintro e w2 ⟨rfl, hb⟩
  have B2 := Lib.hid (B1.out.trans (hb.mono B1.out.size))
  clear hb B1
  go_wp2_with fail
  refine (HN.out _).mono ?_
  rintro e w3 ⟨rfl, hb⟩
  have B3 := Lib.hid (B2.out.trans (hb.mono B2.out.size))
  clear hb B2
  go_wp2
  go_ret
  exact ⟨rfl, B3.out⟩

set_option maxRecDepth 100000 in
set_option maxHeartbeats 1600000 in
theorem way_5_4 (st z c : Int) (t : ByteArray) (w : World) (g1 : decide ((3000 : Int) < t.size) = false) (s0 : 0 ≤ st) (s1 : st < 256) (HRun : Hid (RunIs st t (z))) (HN : Hid (NextIs (z) c (5) (0))) (d1 : decide (48 ≤ c) = true) (q1 : decide (2 ≤ z) = true) (q2 : decide (z ≤ 6) = true) (q3 : decide (64 ≤ c) = true) (q4 : decide (c < 127) = true) :
    Calls Try.prog 7 #[.int .u8 st, .string t, .int .u8 c] w fun e w' => e = .returned (.bool true) ∧ Below w.heap.size w w' := by
  go_enter Try.func7, Try.ntmps7
  go_wp2_with fail
  refine (awake_any _).mono ?_
  rintro e w1 ⟨rfl, hb⟩
  have B1 := Lib.hid hb
  clear hb
  go_wp2_with fail
  refine (HRun.out _).mono ?_
  rintro e w2 ⟨rfl, hb⟩
  have B2 := Lib.hid (B1.out.trans (hb.mono B1.out.size))
  clear hb B1
  go_wp2_with fail
  refine (HN.out _).mono ?_
  rintro e w3 ⟨rfl, hb⟩
  have B3 := Lib.hid (B2.out.trans (hb.mono B2.out.size))
  clear hb B2
  go_wp2
  go_ret
  exact ⟨rfl, B3.out⟩

set_option maxRecDepth 100000 in
set_option maxHeartbeats 1600000 in
theorem way_o_0 (st z c a n : Int) (t : ByteArray) (w : World) (g1 : decide ((3000 : Int) < t.size) = false) (s0 : 0 ≤ st) (s1 : st < 256) (HRun : Hid (RunIs st t (z))) (HN : Hid (NextIs (z) c (a) (n))) (q1 : decide (2 ≤ z) = false) (d1 : (a == 1) = false) (d8 : (a == 8) = false) (e6 : (a != 6) = true) (e5 : (a != 5) = true) :
    Calls Try.prog 7 #[.int .u8 st, .string t, .int .u8 c] w fun e w' => e = .returned (.bool true) ∧ Below w.heap.size w w' := by
  go_enter Try.func7, Try.ntmps7
  go_wp2_with fail
  refine (awake_any _).mono ?_
  rintro e w1 ⟨rfl, hb⟩
  have B1 := Lib.hid hb
  clear hb
  go_wp2_with fail
  refine (HRun.out _).mono ?_
  rintro e w2 ⟨rfl, hb⟩
  have B2 := Lib.hid (B1.out.trans (hb.mono B1.out.size))
  clear hb B1
  go_wp2_with fail
  refine (HN.out _).mono ?_
  rintro e w3 ⟨rfl, hb⟩
  have B3 := Lib.hid (B2.out.trans (hb.mono B2.out.size))
  clear hb B2
  go_wp2
  go_ret
  exact ⟨rfl, B3.out⟩

set_option maxRecDepth 100000 in
set_option maxHeartbeats 1600000 in
theorem way_o_1 (st z c a n : Int) (t : ByteArray) (w : World) (g1 : decide ((3000 : Int) < t.size) = false) (s0 : 0 ≤ st) (s1 : st < 256) (HRun : Hid (RunIs st t (z))) (HN : Hid (NextIs (z) c (a) (n))) (q1 : decide (2 ≤ z) = true) (q2 : decide (z ≤ 6) = false) (d1 : (a == 1) = false) (d8 : (a == 8) = false) (e6 : (a != 6) = true) (e5 : (a != 5) = true) :
    Calls Try.prog 7 #[.int .u8 st, .string t, .int .u8 c] w fun e w' => e = .returned (.bool true) ∧ Below w.heap.size w w' := by
  go_enter Try.func7, Try.ntmps7
  go_wp2_with fail
  refine (awake_any _).mono ?_
  rintro e w1 ⟨rfl, hb⟩
  have B1 := Lib.hid hb
  clear hb
  go_wp2_with fail
  refine (HRun.out _).mono ?_
  rintro e w2 ⟨rfl, hb⟩
  have B2 := Lib.hid (B1.out.trans (hb.mono B1.out.size))
  clear hb B1
  go_wp2_with fail
  refine (HN.out _).mono ?_
  rintro e w3 ⟨rfl, hb⟩
  have B3 := Lib.hid (B2.out.trans (hb.mono B2.out.size))
  clear hb B2
  go_wp2
  go_ret
  exact ⟨rfl, B3.out⟩

set_option maxRecDepth 100000 in
set_option maxHeartbeats 1600000 in
theorem way_o_2 (st z c a n : Int) (t : ByteArray) (w : World) (g1 : decide ((3000 : Int) < t.size) = false) (s0 : 0 ≤ st) (s1 : st < 256) (HRun : Hid (RunIs st t (z))) (HN : Hid (NextIs (z) c (a) (n))) (q1 : decide (2 ≤ z) = true) (q2 : decide (z ≤ 6) = true) (q3 : decide (64 ≤ c) = false) (d1 : (a == 1) = false) (d8 : (a == 8) = false) (e6 : (a != 6) = true) (e5 : (a != 5) = true) :
    Calls Try.prog 7 #[.int .u8 st, .string t, .int .u8 c] w fun e w' => e = .returned (.bool true) ∧ Below w.heap.size w w' := by
  go_enter Try.func7, Try.ntmps7
  go_wp2_with fail
  refine (awake_any _).mono ?_
  rintro e w1 ⟨rfl, hb⟩
  have B1 := Lib.hid hb
  clear hb
  go_wp2_with fail
  refine (HRun.out _).mono ?_
  rintro e w2 ⟨rfl, hb⟩
  have B2 := Lib.hid (B1.out.trans (hb.mono B1.out.size))
  clear hb B1
  go_wp2_with fail
  refine (HN.out _).mono ?_
  rintro e w3 ⟨rfl, hb⟩
  have B3 := Lib.hid (B2.out.trans (hb.mono B2.out.size))
  clear hb B2
  go_wp2
  go_ret
  exact ⟨rfl, B3.out⟩

set_option maxRecDepth 100000 in
set_option maxHeartbeats 1600000 in
theorem way_o_3 (st z c a n : Int) (t : ByteArray) (w : World) (g1 : decide ((3000 : Int) < t.size) = false) (s0 : 0 ≤ st) (s1 : st < 256) (HRun : Hid (RunIs st t (z))) (HN : Hid (NextIs (z) c (a) (n))) (q1 : decide (2 ≤ z) = true) (q2 : decide (z ≤ 6) = true) (q3 : decide (64 ≤ c) = true) (q4 : decide (c < 127) = false) (d1 : (a == 1) = false) (d8 : (a == 8) = false) (e6 : (a != 6) = true) (e5 : (a != 5) = true) :
    Calls Try.prog 7 #[.int .u8 st, .string t, .int .u8 c] w fun e w' => e = .returned (.bool true) ∧ Below w.heap.size w w' := by
  go_enter Try.func7, Try.ntmps7
  go_wp2_with fail
  refine (awake_any _).mono ?_
  rintro e w1 ⟨rfl, hb⟩
  have B1 := Lib.hid hb
  clear hb
  go_wp2_with fail
  refine (HRun.out _).mono ?_
  rintro e w2 ⟨rfl, hb⟩
  have B2 := Lib.hid (B1.out.trans (hb.mono B1.out.size))
  clear hb B1
  go_wp2_with fail
  refine (HN.out _).mono ?_
  rintro e w3 ⟨rfl, hb⟩
  have B3 := Lib.hid (B2.out.trans (hb.mono B2.out.size))
  clear hb B2
  go_wp2
  go_ret
  exact ⟨rfl, B3.out⟩

set_option maxRecDepth 100000 in
set_option maxHeartbeats 1600000 in
theorem way_o_4 (st z c a : Int) (t : ByteArray) (w : World) (g1 : decide ((3000 : Int) < t.size) = false) (s0 : 0 ≤ st) (s1 : st < 256) (HRun : Hid (RunIs st t (z))) (HN : Hid (NextIs (z) c (a) (0))) (q1 : decide (2 ≤ z) = true) (q2 : decide (z ≤ 6) = true) (q3 : decide (64 ≤ c) = true) (q4 : decide (c < 127) = true) (d1 : (a == 1) = false) (d8 : (a == 8) = false) (e6 : (a != 6) = true) (e5 : (a != 5) = true) :
    Calls Try.prog 7 #[.int .u8 st, .string t, .int .u8 c] w fun e w' => e = .returned (.bool true) ∧ Below w.heap.size w w' := by
  go_enter Try.func7, Try.ntmps7
  go_wp2_with fail
  refine (awake_any _).mono ?_
  rintro e w1 ⟨rfl, hb⟩
  have B1 := Lib.hid hb
  clear hb
  go_wp2_with fail
  refine (HRun.out _).mono ?_
  rintro e w2 ⟨rfl, hb⟩
  have B2 := Lib.hid (B1.out.trans (hb.mono B1.out.size))
  clear hb B1
  go_wp2_with fail
  refine (HN.out _).mono ?_
  rintro e w3 ⟨rfl, hb⟩
  have B3 := Lib.hid (B2.out.trans (hb.mono B2.out.size))
  clear hb B2
  go_wp2
  go_ret
  exact ⟨rfl, B3.out⟩

theorem over_small (st : Int) (t : ByteArray) (c : Int) (w : World) (s0 : 0 ≤ st) (s1 : st < 256) (ht : t.size ≤ 3000) (c0 : 0 ≤ c) (c1 : c < 256) :
    Calls Try.prog 7 #[.int .u8 st, .string t, .int .u8 c] w fun e w' => e = .returned (.bool true) ∧ Below w.heap.size w w' := by
  have g1 : decide ((3000 : Int) < t.size) = false := by simp; omega
  have HRun : Hid (RunIs st t (runV (st % 14) t.data.toList)) := Lib.hid (run_any (st % 14) t _ rfl (by omega))
  have hin := runV_in (s := st % 14) (by omega) (by omega) t.data.toList
  generalize runV (st % 14) t.data.toList = z at HRun hin
  have HN : Hid (NextIs z c (nextV z c).1 (nextV z c).2) := Lib.hid (next_any z c)
  have hw := over_ways (over_all hin.1 hin.2 c0 c1)
  generalize nextV z c = p at HN hw
  obtain ⟨a, n⟩ := p
  simp only at hw HN
  rcases hw with (⟨rfl, rfl, rfl⟩ | ⟨rfl, rfl, rfl⟩ | ⟨rfl, rfl, rfl⟩) | ⟨ha, hz⟩
  · exact way_1 st c t w g1 s0 s1 HRun HN
  · exact way_8 st c t w g1 s0 s1 HRun HN
  · exact way_8' st c t w g1 s0 s1 HRun HN
  have hz' : (decide (2 ≤ z) = false) ∨ (decide (2 ≤ z) = true ∧ decide (z ≤ 6) = false) ∨ (decide (2 ≤ z) = true ∧ decide (z ≤ 6) = true ∧ decide (64 ≤ c) = false) ∨
      (decide (2 ≤ z) = true ∧ decide (z ≤ 6) = true ∧ decide (64 ≤ c) = true ∧ decide (c < 127) = false) ∨ (decide (2 ≤ z) = true ∧ decide (z ≤ 6) = true ∧ decide (64 ≤ c) = true ∧ decide (c < 127) = true ∧ n = 0) := by
    simp only [decide_eq_true_eq, decide_eq_false_iff_not]
    omega
  rcases ha with ⟨rfl, rfl, k1, k2⟩ | ⟨rfl, rfl, k1, k2⟩ | ⟨m1, m8, m6, m5⟩
  · have d1 : decide (48 ≤ c) = true := by simpa using k1
    have d2 : decide (c < 127) = true := by simpa using k2
    rcases hz' with q1 | ⟨q1, q2⟩ | ⟨q1, q2, q3⟩ | ⟨q1, q2, q3, q4⟩ | ⟨q1, q2, q3, q4, _⟩
    · exact way_6_0 st z c t w g1 s0 s1 HRun HN d1 q1 d2
    · exact way_6_1 st z c t w g1 s0 s1 HRun HN d1 q1 q2 d2
    · exact way_6_2 st z c t w g1 s0 s1 HRun HN d1 q1 q2 q3 d2
    · rw [q4] at d2; cases d2
    · exact way_6_4 st z c t w g1 s0 s1 HRun HN d1 q1 q2 q3 q4
  · have d1 : decide (48 ≤ c) = true := by simpa using k1
    have d2 : decide (c < 127) = true := by simpa using k2
    rcases hz' with q1 | ⟨q1, q2⟩ | ⟨q1, q2, q3⟩ | ⟨q1, q2, q3, q4⟩ | ⟨q1, q2, q3, q4, _⟩
    · exact way_5_0 st z c t w g1 s0 s1 HRun HN d1 q1 d2
    · exact way_5_1 st z c t w g1 s0 s1 HRun HN d1 q1 q2 d2
    · exact way_5_2 st z c t w g1 s0 s1 HRun HN d1 q1 q2 q3 d2
    · rw [q4] at d2; cases d2
    · exact way_5_4 st z c t w g1 s0 s1 HRun HN d1 q1 q2 q3 q4
  · rcases hz' with q1 | ⟨q1, q2⟩ | ⟨q1, q2, q3⟩ | ⟨q1, q2, q3, q4⟩ | ⟨q1, q2, q3, q4, rfl⟩
    · exact way_o_0 st z c a n t w g1 s0 s1 HRun HN q1 (neq_facts m1).1 (neq_facts m8).1 (neq_facts m6).2 (neq_facts m5).2
    · exact way_o_1 st z c a n t w g1 s0 s1 HRun HN q1 q2 (neq_facts m1).1 (neq_facts m8).1 (neq_facts m6).2 (neq_facts m5).2
    · exact way_o_2 st z c a n t w g1 s0 s1 HRun HN q1 q2 q3 (neq_facts m1).1 (neq_facts m8).1 (neq_facts m6).2 (neq_facts m5).2
    · exact way_o_3 st z c a n t w g1 s0 s1 HRun HN q1 q2 q3 q4 (neq_facts m1).1 (neq_facts m8).1 (neq_facts m6).2 (neq_facts m5).2
    · exact way_o_4 st z c a t w g1 s0 s1 HRun HN q1 q2 q3 q4 (neq_facts m1).1 (neq_facts m8).1 (neq_facts m6).2 (neq_facts m5).2

theorem over_walk (st : Int) (t : ByteArray) (c : Int) (w : World) (hs : (Lit.int .u8 st).wf = true) (ht : t.size ≤ maxLen) (hc : (Lit.int .u8 c).wf = true) :
    Calls Try.prog 7 #[.int .u8 st, .string t, .int .u8 c] w fun e w' => e = .returned (.bool true) ∧ Below w.heap.size w w' := by
  by_cases h : 3000 < t.size
  · exact over_big st t c w h (by unfold maxLen at ht; omega)
  · exact over_small st t c w (u8_bounds hs).1 (u8_bounds hs).2 (by omega) (u8_bounds hc).1 (u8_bounds hc).2

end Go.Proofs.Ythflnllmenapkaa
