/- Layer 6: StatesTell's and StatesAll's walks. -/
import Derived.Test.YthflnllmenapkaaStE
namespace Go.Proofs.Ythflnllmenapkaa
open Go.RowKit Sta

theorem u8_bounds {a : Int} (h : (Lit.int .u8 a).wf = true) : 0 ≤ a ∧ a < 256 := by
  simp [Lit.wf] at h
  have h1 : a ≤ 255 := h.2
  exact ⟨h.1, by omega⟩

set_option maxRecDepth 100000 in
theorem tell_any (s c : Int) (c0 : 0 ≤ c) (c1 : c < 256) (w : World) : Calls Try.prog 5 #[.int .i64 s, .int .u8 c] w fun e w' => e = .returned (.bool true) ∧ Below w.heap.size w w' := by
  have HN := Lib.hid (next_any s c)
  have HR := Lib.hid (refNext_any s c c0 c1)
  rw [ref_next s c c0 c1] at HR
  generalize nextV s c = p at HN HR
  obtain ⟨x, y⟩ := p
  clear c0 c1
  go_enter Try.func5, Try.ntmps5
  go_wp2_with fail
  refine (awake_any _).mono ?_
  rintro e w1 ⟨rfl, hb⟩
  have B1 := Lib.hid hb
  clear hb
  go_wp2_with fail
  refine (HN.out _).mono ?_
  rintro e w2 ⟨rfl, hb⟩
  have B2 := Lib.hid (B1.out.trans (hb.mono B1.out.size))
  clear hb B1
  go_wp2_with fail
  refine (HR.out _).mono ?_
  rintro e w3 ⟨rfl, hb⟩
  have B3 := Lib.hid (B2.out.trans (hb.mono B2.out.size))
  clear hb B2
  go_wp2
  go_ret
  exact ⟨rfl, B3.out⟩

theorem tell_walk (s c : Int) (w : World) (hc : (Lit.int .u8 c).wf = true) : Calls Try.prog 5 #[.int .i64 s, .int .u8 c] w fun e w' => e = .returned (.bool true) ∧ Below w.heap.size w w' :=
  tell_any s c (u8_bounds hc).1 (u8_bounds hc).2 w

set_option maxRecDepth 100000 in
theorem all_walk (w : World) : Calls Try.prog 3 #[] w fun e w' => e = .returned (.bool true) ∧ Below w.heap.size w w' := by
  go_enter Try.func3, Try.ntmps3
  go_wp2
  go_loopw [1] (fun i wr => ∃ z : Int, -1 ≤ z ∧ z ≤ 15 ∧ i = .int .i64 z ∧ Hid (Below w.heap.size w wr)) (fun i _ => (15 - RowKit.intOf i).toNat)
  case atStart => exact ⟨-1, by omega, by omega, rfl, Lib.hid (Below.refl _ _)⟩
  case round =>
    obtain ⟨z, hz0, hz1, rfl, HB⟩ := hrel
    by_cases hlt : z ≤ 14
    · go_wp2
      go_loopw [2] (fun j wr2 => ∃ k : Nat, k ≤ 256 ∧ j = .int .i64 k ∧ Hid (Below w.heap.size w wr2)) (fun j _ => 256 - (RowKit.intOf j).toNat)
      case atStart => exact ⟨0, by omega, rfl, HB⟩
      case round =>
        obtain ⟨k, hk, rfl, HB2⟩ := hrel
        by_cases hk2 : k < 256
        · go_wp2_with fail
          refine (tell_any z k (by omega) (by omega) _).mono ?_
          rintro e w1 ⟨rfl, hb⟩
          have HB3 := Lib.hid (HB2.out.trans (hb.mono HB2.out.size))
          clear hb HB2
          go_wp2
          go_roundw
          case rel => exact ⟨k + 1, by omega, by go_num, HB3⟩
          case measure => simp [RowKit.intOf]; omega
        · go_wp2
          go_roundw
          case rel => exact ⟨z + 1, by omega, by omega, by go_num, HB2⟩
          case measure => simp [RowKit.intOf]; omega
    · go_wp2_with fail
      refine (awake_any _).mono ?_
      rintro e w1 ⟨rfl, hb⟩
      have HB3 := Lib.hid (HB.out.trans (hb.mono HB.out.size))
      go_wp2
      go_ret
      exact ⟨rfl, HB3.out⟩

end Go.Proofs.Ythflnllmenapkaa
