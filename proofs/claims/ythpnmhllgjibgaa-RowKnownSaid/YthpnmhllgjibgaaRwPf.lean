/- Layer 11: the program's Blank, Resize. -/
import Derived.Test.YthpnmhllgjibgaaRwPd
set_option linter.unusedVariables false
namespace Go.Proofs.Ythpnmhllgjibgaa.Rw
open Go.RowKit

theorem fill_whole (n : Nat) (a : Aa) : fillV (List.replicate n zeroCe) 0 n a = blanks n a := by
  unfold fillV blanks
  rw [List.take_zero, List.nil_append, Nat.zero_add, List.drop_eq_nil_of_le (by rw [List.length_replicate]; exact Nat.le_refl _), List.append_nil]

set_option maxRecDepth 100000 in
set_option maxHeartbeats 2000000 in
theorem pblank_any (x : Int) (a : Aa) (w : World) : Calls Try.prog 8 #[.int .i64 x, attrV a] w (RowPost w (blankV x a)) := by
  obtain ⟨W, hW, hB, hs, hat⟩ := box_at w a
  have HW := Lib.hid hW
  have HB := Lib.hid hB
  unfold blankV
  by_cases h : x < 1 ∨ 400 < x
  · rw [if_pos h]
    have g : decide (x < 1) = true ∨ decide (x < 1) = false ∧ decide (x > 400) = true := by
      by_cases h1 : x < 1
      · exact Or.inl (by simpa using h1)
      · exact Or.inr ⟨by simpa using h1, by have := h.resolve_left h1; simp; omega⟩
    clear hW hB hs hat h
    rcases g with g1 | ⟨g1, g2⟩
    all_goals
      go_enter Try.func8, Try.ntmps8
      go_upto_region 1 with fail
      change Code.wp _ _ _ _ (w.alloc (attrO a))
      rw [← HW.out]
      go_wp2
      go_ret
      exact ⟨_, rfl, own_none _ _, HB.out⟩
  · rw [if_neg h]
    obtain ⟨k, rfl⟩ : ∃ k : Nat, x = (k : Int) := ⟨x.toNat, by omega⟩
    rw [Int.toNat_natCast]
    have hk : k ≤ 100000 := by omega
    obtain ⟨g, hg⟩ : ∃ g, g = W.heap.size := ⟨_, rfl⟩
    obtain ⟨w1, hr, ho, hb⟩ := make_rows W .i64 .i64 k (by omega)
    rw [← hg] at hr ho hb
    have S1 : Hid (St W g k (List.replicate k zeroCe) w1) := Lib.hid ⟨hb, ho⟩
    have K1 := Lib.hid (st_erase S1.out hk 0 k k (p := some ⟨g, 0, none⟩) (Or.inl (by rw [Nat.zero_mul])) (by omega) a)
    rw [fill_whole] at K1
    have g1 : decide ((k : Int) < 1) = false := by simp; omega
    have g2 : decide ((k : Int) > 400) = false := by simp; omega
    have hat1 := hat w1 (by rw [← hg]; exact hb)
    obtain ⟨B, hBq⟩ : ∃ B, B = w.heap.size := ⟨_, rfl⟩
    rw [← hBq] at hat1
    have HBq := Lib.hid hBq
    have a0 := cell_of hat1 0
    have a1 := cell_of hat1 1
    have a2 := cell_of hat1 2
    have a3 := cell_of hat1 3
    have a4 := cell_of hat1 4
    have HG : Hid (w.heap.size ≤ g) := Lib.hid (by rw [hg]; exact hB.size)
    clear hW hB hs hat hg ho hb hk hat1 hBq h
    go_enter Try.func8, Try.ntmps8
    go_upto_region 1 with fail
    change Code.wp _ _ _ _ (w.alloc (attrO a))
    rw [← HW.out, ← HBq.out]
    go_wp2_with fail
    refine (show Calls _ _ _ _ _ from K1.out).mono ?_
    rintro e w2 ⟨rfl, s2⟩
    have S2 := Lib.hid s2
    clear s2 K1 S1 a0 a1 a2 a3 a4 hr
    go_wp2
    go_ret
    exact ⟨_, rfl, own_less S2.out.2 HG.out, HB.out.trans (S2.out.1.mono HG.out)⟩

set_option maxRecDepth 100000 in
set_option maxHeartbeats 2000000 in
theorem pres_any (u : Value) (l : List Ce) (x : Int) (a : Aa) (w : World) (h : Lies w u l) (hl : l.length ≤ 100000) : Calls Try.prog 18 #[u, .int .i64 x, attrV a] w (RowPost w (resV l x a)) := by
  obtain ⟨W, hW, hB, hs, hat⟩ := box_at w a
  obtain ⟨g, hg⟩ : ∃ g, g = W.heap.size := ⟨_, rfl⟩
  obtain ⟨k, hk⟩ : ∃ k, k = l.length := ⟨_, rfl⟩
  rw [← hk] at hl
  have HC := Lib.hid (st_copied u l W g k (h.below hB) hk hl hg)
  have HW := Lib.hid hW
  have HB := Lib.hid hB
  have HL : Hid (k ≤ 100000) := Lib.hid hl
  have HG : Hid (w.heap.size ≤ g) := Lib.hid (by rw [hg]; exact hB.size)
  have HAt : Hid (∀ V, Below g W V → V.heap[w.heap.size]? = some (attrO a)) := Lib.hid (by rw [hg]; exact hat)
  obtain ⟨B, hBq⟩ : ∃ B, B = w.heap.size := ⟨_, rfl⟩
  rw [← hBq] at HAt
  have HBq := Lib.hid hBq
  unfold resV
  by_cases hx : x < 1 ∨ 400 < x
  · rw [if_pos hx]
    have hx2 : decide (x < 1) = true ∨ decide (x < 1) = false ∧ decide (x > 400) = true := by
      by_cases h1 : x < 1
      · exact Or.inl (by simpa using h1)
      · exact Or.inr ⟨by simpa using h1, by have := hx.resolve_left h1; simp; omega⟩
    clear hW hB hs hat hx hg hk hl h hBq
    rcases hx2 with g1 | ⟨g1, g2⟩
    all_goals
      go_enter Try.func18, Try.ntmps18
      go_wp2_with fail
      rw [← HW.out]
      refine (show Calls _ _ _ _ _ from HC.out).mono ?_
      rintro e w1 ⟨rfl, s1⟩
      have S1 := Lib.hid s1
      clear s1 HC
      go_wp2
      go_ret
      exact ⟨_, rfl, own_less S1.out.2 HG.out, HB.out.trans (S1.out.1.mono HG.out)⟩
  · rw [if_neg hx]
    obtain ⟨X, rfl⟩ : ∃ X : Nat, x = (X : Int) := ⟨x.toNat, by omega⟩
    rw [Int.toNat_natCast, ← resW_any]
    have g1 : decide ((X : Int) < 1) = false := by simp; omega
    have g2 : decide ((X : Int) > 400) = false := by simp; omega
    have HX : Hid (1 ≤ X ∧ X ≤ 400) := Lib.hid (by omega)
    clear hW hB hs hat hx hg hk hl h hBq
    go_enter Try.func18, Try.ntmps18
    go_wp2_with fail
    rw [← HW.out]
    refine (show Calls _ _ _ _ _ from HC.out).mono ?_
    rintro e w1 ⟨rfl, s1⟩
    have K2 := Lib.hid (st_part s1 HL.out X)
    clear s1 HC
    go_wp2_with fail
    refine (show Calls _ _ _ _ _ from K2.out).mono ?_
    rintro e w2 ⟨rfl, s2⟩
    have S2 := Lib.hid s2
    have hat1 := HAt.out _ S2.out.1
    rw [HBq.out] at hat1
    have a0 := cell_of hat1 0
    have a1 := cell_of hat1 1
    have a2 := cell_of hat1 2
    have a3 := cell_of hat1 3
    have a4 := cell_of hat1 4
    have K3 : Hid (Calls Try.prog 8 #[.int .i64 (X : Int), attrV a] w2 (RowPost w2 (blanks X a))) := Lib.hid (by
      have := pblank_any (X : Int) a w2
      unfold blankV at this
      rwa [if_neg (by have := HX.out; omega), Int.toNat_natCast] at this)
    clear s2 K2 hat1
    go_wp2_with fail
    refine (show Calls _ _ _ _ _ from K3.out).mono ?_
    rintro e w3 ⟨v, rfl, ho, hb⟩
    obtain ⟨g2', c2, rfl, hg2, -, hc2, hM2, -⟩ := own_somek ho (k := X) (blanks_len X a).symm HX.out.1
    have S3 := Lib.hid (S2.out.below hb)
    have HO := Lib.hid ho
    have HB3 : Hid (Below w.heap.size w w3) := Lib.hid (HB.out.trans (S3.out.1.mono HG.out))
    have HG2 : Hid (w.heap.size ≤ g2') := Lib.hid (Nat.le_trans HG.out (Nat.le_trans (Nat.le_of_lt S2.out.lt) hg2))
    have HS2 : Hid (w.heap.size ≤ w2.heap.size) := Lib.hid (Nat.le_trans HG.out (Nat.le_of_lt S2.out.lt))
    have HLies := Lib.hid (own_lies S3.out.2)
    clear ho hb hg2 K3 a0 a1 a2 a3 a4 hc2 hM2
    go_wp2_with (refine wpList_copy_rows (dp := some ⟨g2', 0, none⟩) (dn := X) (dc := c2) (sp := some ⟨g, 0, none⟩) (sn := k) (sc := k) rfl (.tmp 24) (.tmp 25) rfl HO.out (blanks_len X a).symm (Nat.zero_le _) rfl rfl (by omega) (Or.inl (by rw [Nat.zero_mul])) HLies.out w.heap.size w HB3.out HG2.out ?_)
    intro w4 ho4 hb4
    have O4 := Lib.hid (own_less ho4.out HS2.out)
    have B4 := Lib.hid hb4
    clear ho4 hb4 HO HB3 HG2 HLies S3 S2
    go_wp2
    go_ret
    exact ⟨_, rfl, O4.out, B4.out⟩
end Go.Proofs.Ythpnmhllgjibgaa.Rw
