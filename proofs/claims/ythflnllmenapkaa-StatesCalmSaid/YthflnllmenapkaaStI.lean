/- Layer 6: StatesCalm's walk. -/
import Derived.Test.YthflnllmenapkaaStF
namespace Go.Proofs.Ythflnllmenapkaa
open Go.RowKit Sta

theorem calm_big (st : Int) (s t : ByteArray) (w : World) (hs : s.size ≤ 9223372036854775807) (ht : t.size ≤ 9223372036854775807) (h : 3000 < s.size ∨ 3000 < t.size) :
    Calls Try.prog 6 #[.int .u8 st, .string s, .string t] w fun e w' => e = .returned (.bool true) ∧ Below w.heap.size w w' := by
  by_cases h1 : 3000 < s.size
  · have g1 : decide ((3000 : Int) < s.size) = true := by simp; omega
    clear h
    go_enter Try.func6, Try.ntmps6
    go_wp2_with fail
    refine (awake_any _).mono ?_
    rintro e w1 ⟨rfl, hb⟩
    have B1 := Lib.hid hb
    clear hb
    go_wp2
    go_ret
    exact ⟨rfl, B1.out⟩
  · have g1 : decide ((3000 : Int) < s.size) = false := by simp; omega
    have g2 : decide ((3000 : Int) < t.size) = true := by simp; omega
    clear h
    go_enter Try.func6, Try.ntmps6
    go_wp2_with fail
    refine (awake_any _).mono ?_
    rintro e w1 ⟨rfl, hb⟩
    have B1 := Lib.hid hb
    clear hb
    go_wp2
    go_ret
    exact ⟨rfl, B1.out⟩

/-- What run answers, in letters. -/
def Runs (at_ : Int) (t : ByteArray) (z : Int) : Prop := ∀ w : World, Calls Try.prog 14 #[.int .i64 at_, .string t] w fun e w' => e = .returned (.int .i64 z) ∧ Below w.heap.size w w'

set_option maxRecDepth 100000 in
set_option maxHeartbeats 1600000 in
theorem calm_way (st : Int) (s t : ByteArray) (z y0 y1 : Int) (w : World) (s0 : 0 ≤ st) (s1 : st < 256) (g1 : decide ((3000 : Int) < s.size) = false) (g2 : decide ((3000 : Int) < t.size) = false)
    (n1 : ¬ 9223372036854775807 < s.size + 1) (n2 : ¬ 9223372036854775807 < s.size + 1 + t.size) (z0 : decide (z < 0) = false) (z1 : decide (13 < z) = false)
    (R1 : Hid (Runs (st % 14) s z)) (R2 : Hid (Runs (st % 14) (s ++ ⟨#[24]⟩ ++ t) y0)) (R3 : Hid (Runs 0 t y0)) (R4 : Hid (Runs (st % 14) (s ++ ⟨#[27]⟩ ++ t) y1)) (R5 : Hid (Runs 1 t y1)) (R6 : Hid (Runs (st % 14) (s ++ ⟨#[26]⟩) 0)) :
    Calls Try.prog 6 #[.int .u8 st, .string s, .string t] w fun e w' => e = .returned (.bool true) ∧ Below w.heap.size w w' := by
  go_enter Try.func6, Try.ntmps6
  go_wp2_with fail
  refine (awake_any _).mono ?_
  rintro e w1 ⟨rfl, hb⟩
  have B1 := Lib.hid hb
  clear hb
  go_wp2_with fail
  refine (R1.out _).mono ?_
  rintro e w2 ⟨rfl, hb⟩
  have B2 := Lib.hid (B1.out.trans (hb.mono B1.out.size))
  clear hb B1
  go_wp2_with fail
  refine (R2.out _).mono ?_
  rintro e w3 ⟨rfl, hb⟩
  have B3 := Lib.hid (B2.out.trans (hb.mono B2.out.size))
  clear hb B2
  go_wp2_with fail
  refine (R3.out _).mono ?_
  rintro e w4 ⟨rfl, hb⟩
  have B4 := Lib.hid (B3.out.trans (hb.mono B3.out.size))
  clear hb B3
  go_wp2_with fail
  refine (R4.out _).mono ?_
  rintro e w5 ⟨rfl, hb⟩
  have B5 := Lib.hid (B4.out.trans (hb.mono B4.out.size))
  clear hb B4
  go_wp2_with fail
  refine (R5.out _).mono ?_
  rintro e w6 ⟨rfl, hb⟩
  have B6 := Lib.hid (B5.out.trans (hb.mono B5.out.size))
  clear hb B5
  go_wp2_with fail
  refine (R6.out _).mono ?_
  rintro e w7 ⟨rfl, hb⟩
  have B7 := Lib.hid (B6.out.trans (hb.mono B6.out.size))
  clear hb B6
  go_wp2
  go_ret
  exact ⟨rfl, B7.out⟩

theorem runs_of (a : Int) (t : ByteArray) (l : List UInt8) (z : Int) (hl : t.data.toList = l) (ht : t.size ≤ 1000000) (hz : runV a l = z) : Runs a t z := fun w => by
  have := run_any a t l hl.symm ht w
  rw [hz] at this
  exact this

theorem calm_walk (st : Int) (s t : ByteArray) (w : World) (hst : (Lit.int .u8 st).wf = true) (hs : s.size ≤ maxLen) (ht : t.size ≤ maxLen) :
    Calls Try.prog 6 #[.int .u8 st, .string s, .string t] w fun e w' => e = .returned (.bool true) ∧ Below w.heap.size w w' := by
  obtain ⟨s0, s1⟩ := u8_bounds hst
  unfold maxLen at hs ht
  by_cases h : 3000 < s.size ∨ 3000 < t.size
  · exact calm_big st s t w (by omega) (by omega) h
  have l1 : (s ++ ⟨#[24]⟩ ++ t).data.toList = s.data.toList ++ (24 :: t.data.toList) := by simp [ByteArray.data_append]
  have l2 : (s ++ ⟨#[27]⟩ ++ t).data.toList = s.data.toList ++ (27 :: t.data.toList) := by simp [ByteArray.data_append]
  have l3 : (s ++ ⟨#[26]⟩).data.toList = s.data.toList ++ [26] := by simp [ByteArray.data_append]
  have hin := runV_in (s := st % 14) (by omega) (by omega) s.data.toList
  have e1 : ∀ b : UInt8, (⟨#[b]⟩ : ByteArray).size = 1 := fun _ => rfl
  exact calm_way st s t _ _ _ w s0 s1 (by simp; omega) (by simp; omega) (by omega) (by omega) (by simp; omega) (by simp; omega)
    (Lib.hid (runs_of _ s _ _ rfl (by omega) rfl)) (Lib.hid (runs_of _ _ _ _ l1 (by rw [ByteArray.size_append, ByteArray.size_append, e1]; omega) (by rw [runV_append, runV_24]))) (Lib.hid (runs_of 0 t _ _ rfl (by omega) rfl))
    (Lib.hid (runs_of _ _ _ _ l2 (by rw [ByteArray.size_append, ByteArray.size_append, e1]; omega) (by rw [runV_append, runV_27]))) (Lib.hid (runs_of 1 t _ _ rfl (by omega) rfl))
    (Lib.hid (runs_of _ _ _ _ l3 (by rw [ByteArray.size_append, e1]; omega) (by rw [runV_append, runV_26])))

end Go.Proofs.Ythflnllmenapkaa
