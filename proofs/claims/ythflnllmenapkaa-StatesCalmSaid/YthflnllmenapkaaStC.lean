/- Layer 6: Clears, Ends; leads, awake and run. -/
import Derived.Test.YthflnllmenapkaaStB
namespace Go.Proofs.Ythflnllmenapkaa
open Go.RowKit Sta

namespace Sta
def clearB (a b : Int) : Bool := (b == 1 || b == 3 || b == 7 || b == 12) && !(b == a)
def endB (a b : Int) : Bool := (a == 10 || a == 12) && !(b == a)
end Sta

theorem clears_any (a b : Int) (w : World) : Calls Try.prog 9 #[.int .i64 a, .int .i64 b] w fun e w' => e = .returned (.bool (clearB a b)) ∧ w = w' := by
  by_cases h1 : b = 1
  · subst h1
    go_enter Try.func9, Try.ntmps9
    go_wp2
    go_ret
    exact ⟨ret_bool (by simp [clearB]; rfl), rfl⟩
  by_cases h3 : b = 3
  · subst h3
    go_enter Try.func9, Try.ntmps9
    go_wp2
    go_ret
    exact ⟨ret_bool (by simp [clearB]; rfl), rfl⟩
  by_cases h7 : b = 7
  · subst h7
    go_enter Try.func9, Try.ntmps9
    go_wp2
    go_ret
    exact ⟨ret_bool (by simp [clearB]; rfl), rfl⟩
  by_cases h12 : b = 12
  · subst h12
    go_enter Try.func9, Try.ntmps9
    go_wp2
    go_ret
    exact ⟨ret_bool (by simp [clearB]; rfl), rfl⟩
  have d1 : (b == 1) = false := by simpa using h1
  have d3 : (b == 3) = false := by simpa using h3
  have d7 : (b == 7) = false := by simpa using h7
  have d12 : (b == 12) = false := by simpa using h12
  have E := Lib.hid (show clearB a b = false by simp [clearB, h1, h3, h7, h12])
  clear h1 h3 h7 h12
  go_enter Try.func9, Try.ntmps9
  go_wp2
  go_ret
  exact ⟨ret_bool E.out.symm, rfl⟩

theorem ends_any (a b : Int) (w : World) : Calls Try.prog 10 #[.int .i64 a, .int .i64 b] w fun e w' => e = .returned (.bool (endB a b)) ∧ w = w' := by
  by_cases h1 : a = 10
  · subst h1
    go_enter Try.func10, Try.ntmps10
    go_wp2
    go_ret
    exact ⟨ret_bool (by simp [endB]; rfl), rfl⟩
  by_cases h3 : a = 12
  · subst h3
    go_enter Try.func10, Try.ntmps10
    go_wp2
    go_ret
    exact ⟨ret_bool (by simp [endB]; rfl), rfl⟩
  have d1 : (a == 10) = false := by simpa using h1
  have d3 : (a == 12) = false := by simpa using h3
  have E := Lib.hid (show endB a b = false by simp [endB, h1, h3])
  clear h1 h3
  go_enter Try.func10, Try.ntmps10
  go_wp2
  go_ret
  exact ⟨ret_bool E.out.symm, rfl⟩

theorem leads_any (s c a n : Int) (w : World) : Calls Try.prog 11 #[.int .i64 s, .int .u8 c, .int .i64 a, .int .i64 n] w fun e w' => e = .returned (.bool ((nextV s c).1 == a && (nextV s c).2 == n)) ∧ Below w.heap.size w w' := by
  have HN := Lib.hid (next_any s c)
  generalize hp : nextV s c = p at HN ⊢
  obtain ⟨x, y⟩ := p
  clear hp
  cases hx : (x == a)
  all_goals
    go_enter Try.func11, Try.ntmps11
    go_wp2_with fail
    refine (HN.out _).mono ?_
    rintro e w1 ⟨rfl, hb⟩
    have HB := Lib.hid hb
    clear hb
    go_wp2
    go_ret
    exact ⟨rfl, HB.out⟩

theorem leads_yes {s c a n : Int} (h : nextV s c = (a, n)) (w : World) : Calls Try.prog 11 #[.int .i64 s, .int .u8 c, .int .i64 a, .int .i64 n] w fun e w' => e = .returned (.bool true) ∧ Below w.heap.size w w' := by
  have := leads_any s c a n w
  simpa [h] using this

theorem awake_any (w : World) : Calls Try.prog 8 #[] w fun e w' => e = .returned (.bool true) ∧ Below w.heap.size w w' := by
  go_enter Try.func8, Try.ntmps8
  go_wp2_with fail
  refine (leads_yes (by rfl) _).mono ?_
  rintro e w1 ⟨rfl, hb⟩
  have B1 := Lib.hid hb
  clear hb
  go_wp2_with fail
  refine (leads_yes (by rfl) _).mono ?_
  rintro e w2 ⟨rfl, hb⟩
  have B2 := Lib.hid (B1.out.trans (hb.mono B1.out.size))
  clear hb B1
  go_wp2_with fail
  refine (leads_yes (by rfl) _).mono ?_
  rintro e w3 ⟨rfl, hb⟩
  have B3 := Lib.hid (B2.out.trans (hb.mono B2.out.size))
  clear hb B2
  go_wp2_with fail
  refine (clears_any 1 3 _).mono ?_
  rintro e w4 ⟨rfl, rfl⟩
  rw [show clearB 1 3 = true from rfl]
  go_wp2_with fail
  refine (ends_any 12 0 _).mono ?_
  rintro e w4 ⟨rfl, rfl⟩
  rw [show endB 12 0 = true from rfl]
  go_wp2
  go_ret
  exact ⟨rfl, B3.out⟩

theorem run_step (s : Int) (l : List UInt8) (k : Nat) (h : k < l.length) : runV s (l.take (k + 1)) = (nextV (runV s (l.take k)) l[k].toNat).2 := by
  rw [List.take_succ_eq_append_getElem h, runV_append]
  rfl

set_option maxHeartbeats 1000000 in
theorem run_any (s : Int) (t : ByteArray) (l : List UInt8) (hl : l = t.data.toList) (ht : t.size ≤ 1000000) (w : World) :
    Calls Try.prog 14 #[.int .i64 s, .string t] w fun e w' => e = .returned (.int .i64 (runV s l)) ∧ Below w.heap.size w w' := by
  have hlen : l.length = t.size := by rw [hl]; rfl
  have HL := Lib.hid hl
  have HLen := Lib.hid hlen
  clear hl hlen
  go_enter Try.func14, Try.ntmps14
  go_wp2
  go_loopw [0, 5] (fun st i wr => ∃ k : Nat, k ≤ t.size ∧ i = .int .i64 k ∧ st = .int .i64 (runV s (l.take k)) ∧ Hid (Below w.heap.size w wr)) (fun _ i _ => t.size - (RowKit.intOf i).toNat)
  case atStart => exact ⟨0, Nat.zero_le _, rfl, by simp [runV], Lib.hid (Below.refl _ _)⟩
  case round =>
    obtain ⟨k, hk, rfl, rfl, HB⟩ := hrel
    by_cases hlt : k < t.size
    · have hlt' : k < l.length := by rw [HLen.out]; exact hlt
      have hb : l[k] = t[k] := by have := HL.out; subst this; rfl
      have E : Hid (runV s (l.take (k + 1)) = (nextV (runV s (l.take k)) t[k].toNat).2) := Lib.hid (by rw [run_step s l k hlt', hb])
      clear hb
      generalize runV s (l.take k) = z at E ⊢
      go_wp2_with fail
      refine (next_any z t[k].toNat _).mono ?_
      rintro e w1 ⟨rfl, hb⟩
      have HB1 := Lib.hid (HB.out.trans (hb.mono HB.out.size))
      clear hb HB
      go_wp2
      go_roundw
      case rel => exact ⟨k + 1, by omega, by go_num, by rw [E.out], HB1⟩
      case measure => simp [RowKit.intOf]; omega
    · have hkn : k = t.size := by omega
      have E : Hid (runV s (l.take k) = runV s l) := Lib.hid (by rw [hkn, ← HLen.out, List.take_length])
      generalize runV s (l.take k) = z at E ⊢
      subst hkn
      go_wp2
      go_ret
      exact ⟨ret_int E.out, HB.out⟩

end Go.Proofs.Ythflnllmenapkaa
