/- Layer 7: ParamsLong's walk. -/
import Derived.Test.YtjeonnlcajlghaaPaL
import Derived.Test.YtjeonnlcajlghaaPaRep
namespace Go.Proofs.Ytjeonnlcajlghaa
open Go.RowKit Par

theorem u8_bounds {a : Int} (h : (Lit.int .u8 a).wf = true) : ∃ m : Nat, m < 256 ∧ a = (m : Int) := by
  simp [Lit.wf] at h
  have h1 : a ≤ 255 := h.2
  have h0 : 0 ≤ a := h.1
  exact ⟨a.toNat, by omega, by omega⟩

theorem long_big (part behind : ByteArray) (x : Int) (w : World) (hs : part.size ≤ maxLen) (ht : behind.size ≤ maxLen) (h : 40 < part.size ∨ 300 < behind.size) :
    Calls Try.prog 5 #[.string part, .int .u8 x, .string behind] w fun e w' => e = .returned (.bool true) ∧ Below w.heap.size w w' := by
  have HA := Lib.hid (awake_any w)
  unfold maxLen at hs ht
  by_cases h1 : 40 < part.size
  · have g1 : decide ((40 : Int) < part.size) = true := by simp; omega
    clear h
    go_enter Try.func5, Try.ntmps5
    go_wp2_with fail
    refine HA.out.mono ?_
    rintro e w1 ⟨rfl, hb⟩
    have B1 := Lib.hid hb
    clear hb HA
    go_wp2
    go_ret
    exact ⟨rfl, B1.out⟩
  · have g1 : decide ((40 : Int) < part.size) = false := by simp; omega
    have g2 : decide ((300 : Int) < behind.size) = true := by simp; omega
    clear h
    go_enter Try.func5, Try.ntmps5
    go_wp2_with fail
    refine HA.out.mono ?_
    rintro e w1 ⟨rfl, hb⟩
    have B1 := Lib.hid hb
    clear hb HA
    go_wp2
    go_ret
    exact ⟨rfl, B1.out⟩

theorem rep_is (s : ByteArray) (m : Nat) (x : Int) (hx : x = (m : Int)) (hm : m ≤ 40) (hs : s.size ≤ 41) (w : World) :
    Calls Try.prog 9 #[.string s, .int .i64 x] w fun e w' => ∃ X : ByteArray, e = .returned (.string X) ∧ X.size ≤ 1640 ∧ Below w.heap.size w w' := by
  subst hx
  have hmul : s.size * m ≤ 1640 := Nat.le_trans (Nat.mul_le_mul hs hm) (by decide)
  refine (Try.strings_Repeat s m w (by omega) (by omega)).mono ?_
  rintro e w' ⟨rfl, hb⟩
  refine ⟨_, rfl, ?_, hb⟩
  show (Lib.repeatL s.data.toList m).toArray.size ≤ 1640
  rw [List.size_toArray, Lib.repeatL_length]
  rw [show s.data.toList.length = s.size from rfl, Nat.mul_comm]
  exact hmul

set_option maxHeartbeats 1600000 in
theorem long_small (part behind : ByteArray) (m : Nat) (hm : m < 256) (w : World) (hs : part.size ≤ 40) (ht : behind.size ≤ 300) :
    Calls Try.prog 5 #[.string part, .int .u8 (m : Int), .string behind] w fun e w' => e = .returned (.bool true) ∧ Below w.heap.size w w' := by
  have g1 : decide ((40 : Int) < part.size) = false := by simp; omega
  have g2 : decide ((300 : Int) < behind.size) = false := by simp; omega
  have n1 : ¬ 9223372036854775807 < part.size + 1 := by omega
  go_enter Try.func5, Try.ntmps5
  go_wp2_with fail
  refine (awake_any w).mono ?_
  rintro e w1 ⟨rfl, hb⟩
  have B1 := Lib.hid hb
  clear hb
  go_wp2_with fail
  refine (rep_is (part ++ ⟨#[59]⟩) (m % 41) _ (by omega) (by omega) (by rw [ByteArray.size_append]; show part.size + 1 ≤ 41; omega) w1).mono ?_
  rintro e wa1 ⟨X1, rfl, hX, hb⟩
  have nb1 : ¬ 9223372036854775807 < X1.size + behind.size := by omega
  have C1 := Lib.hid (B1.out.trans (hb.mono B1.out.size))
  have Z1 := Lib.hid (show (X1 ++ behind).size ≤ maxLen from by rw [ByteArray.size_append]; unfold maxLen; omega)
  clear hb hX B1
  go_wp2_with fail
  refine (lawRead_any (X1 ++ behind) _ Z1.out).mono ?_
  rintro e wb1 ⟨rfl, hb⟩
  have B2 := Lib.hid (C1.out.trans (hb.mono C1.out.size))
  clear hb C1 Z1
  go_wp2_with fail
  refine (rep_is (part ++ ⟨#[58]⟩) (m % 41) _ (by omega) (by omega) (by rw [ByteArray.size_append]; show part.size + 1 ≤ 41; omega) _).mono ?_
  rintro e wa2 ⟨X2, rfl, hX, hb⟩
  have nb2 : ¬ 9223372036854775807 < X2.size + behind.size := by omega
  have C2 := Lib.hid (B2.out.trans (hb.mono B2.out.size))
  have Z2 := Lib.hid (show (X2 ++ behind).size ≤ maxLen from by rw [ByteArray.size_append]; unfold maxLen; omega)
  clear hb hX B2
  go_wp2_with fail
  refine (lawRead_any (X2 ++ behind) _ Z2.out).mono ?_
  rintro e wb2 ⟨rfl, hb⟩
  have B3 := Lib.hid (C2.out.trans (hb.mono C2.out.size))
  clear hb C2 Z2
  go_wp2_with fail
  refine (rep_is ⟨#[57]⟩ (m % 41) _ (by omega) (by omega) (by decide) _).mono ?_
  rintro e wa3 ⟨X3, rfl, hX, hb⟩
  have na3 : ¬ 9223372036854775807 < X3.size + 1 := by omega
  have nb3 : ¬ 9223372036854775807 < X3.size + 1 + behind.size := by omega
  have C3 := Lib.hid (B3.out.trans (hb.mono B3.out.size))
  have Z3 : Hid (X3.size + 1 + behind.size ≤ maxLen) := Lib.hid (by unfold maxLen; omega)
  clear hb hX B3
  go_wp2_with fail
  refine (lawRead_any _ _ ?z).mono ?_
  case z =>
    rw [ByteArray.size_append, ByteArray.size_append]
    exact Z3.out
  rintro e wb3 ⟨rfl, hb⟩
  have B4 := Lib.hid (C3.out.trans (hb.mono C3.out.size))
  clear hb C3 Z3
  go_wp2
  go_ret
  exact ⟨rfl, B4.out⟩

theorem lawLong_any (part : ByteArray) (x : Int) (behind : ByteArray) (w : World) (hs : part.size ≤ maxLen) (hx : (Lit.int .u8 x).wf = true) (ht : behind.size ≤ maxLen) :
    Calls Try.prog 5 #[.string part, .int .u8 x, .string behind] w fun e w' => e = .returned (.bool true) ∧ Below w.heap.size w w' := by
  by_cases h : 40 < part.size ∨ 300 < behind.size
  · exact long_big part behind x w hs ht h
  · obtain ⟨m, hm, rfl⟩ := u8_bounds hx
    exact long_small part behind m hm w (by omega) (by omega)
end Go.Proofs.Ytjeonnlcajlghaa
