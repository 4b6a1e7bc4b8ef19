/- Layer 11: the program's Blank, Resize. -/
import Derived.Test.YtifolcfnknlmdaaRwPX
set_option linter.unusedVariables false
namespace Go.Proofs.Ytifolcfnknlmdaa.Rw
open Go.RowKit

theorem fill_whole (n : Nat) (a : Aa) : fillV (List.replicate n zeroCe) 0 n a = blanks n a := by
  unfold fillV blanks
  rw [List.take_zero, List.nil_append, Nat.zero_add, List.drop_eq_nil_of_le (by rw [List.length_replicate]; exact Nat.le_refl _), List.append_nil]

set_option maxRecDepth 100000 in
set_option maxHeartbeats 2000000 in
theorem pblank_any (x : Int) (a : Aa) (w : World) : Calls Try.prog 33 #[.int .i64 x, attrV a] w (RowPost w (blankV x a)) := by
  obtain ⟨W, hW, hB, hs, hat⟩ := box_at w a
  have HW := Lib.hid hW
  have HB := Lib.hid hB
  unfold blankV
  by_cases h : x < 1 ∨ 400 < x
  · rw [if_pos h]
    have g : decide (x < 1) = true ∨ decide (x < 1) = false ∧ decide (x > 400) = true := by
      by_cases h1 : x < 1
      · exact Or.inl (by simpa using h1)
      · exact Or.inr ⟨by simpa using h1, by have := h.resolve_left h1; simp; omega⟩
    clear hW hB hs hat h
    rcases g with g1 | ⟨g1, g2⟩
    all_goals
      go_enter Try.func33, Try.ntmps33
      go_upto_region 1 with fail
      change Code.wp _ _ _ _ (w.alloc (attrO a))
      rw [← HW.out]
      go_wp2
      go_ret
      exact ⟨_, rfl, own_none _ _, HB.out⟩
  · rw [if_neg h]
    obtain ⟨k, rfl⟩ : ∃ k : Nat, x = (k : Int) := ⟨x.toNat, by omega⟩
    rw [Int.toNat_natCast]
    have hk : k ≤ 100000 := by omega
    obtain ⟨g, hg⟩ : ∃ g, g = W.heap.size := ⟨_, rfl⟩
    obtain ⟨w1, hr, ho, hb⟩ := make_rows W .i64 .i64 k (by omega)
    rw [← hg] at hr ho hb
    have S1 : Hid (St W g k (List.replicate k zeroCe) w1) := Lib.hid ⟨hb, ho⟩
    have K1 := Lib.hid (st_erase S1.out hk 0 k k (p := some ⟨g, 0, none⟩) (Or.inl (by rw [Nat.zero_mul])) (by omega) a)
    rw [fill_whole] at K1
    have g1 : decide ((k : Int) < 1) = false := by simp; omega
    have g2 : decide ((k : Int) > 400) = false := by simp; omega
    have hat1 := hat w1 (by rw [← hg]; exact hb)
    obtain ⟨B, hBq⟩ : ∃ B, B = w.heap.size := ⟨_, rfl⟩
    rw [← hBq] at hat1
    have HBq := Lib.hid hBq
    have a0 := cell_of hat1 0
    have a1 := cell_of hat1 1
    have a2 := cell_of hat1 2
    have a3 := cell_of hat1 3
    have a4 := cell_of hat1 4
    have HG : Hid (w.heap.size ≤ g) := Lib.hid (by rw [hg]; exact hB.size)
    clear hW hB hs hat hg ho hb hk hat1 hBq h
    go_enter Try.func33, Try.ntmps33
    go_upto_region 1 with fail
    change Code.wp _ _ _ _ (w.alloc (attrO a))
    rw [← HW.out, ← HBq.out]
    go_wp2_with fail
    refine (show Calls _ _ _ _ _ from K1.out).mono ?_
    rintro e w2 ⟨rfl, s2⟩
    have S2 := Lib.hid s2
    clear s2 K1 S1 a0 a1 a2 a3 a4 hr
    go_wp2
    go_ret
    exact ⟨_, rfl, own_less S2.out.2 HG.out, HB.out.trans (S2.out.1.mono HG.out)⟩

end Go.Proofs.Ytifolcfnknlmdaa.Rw
