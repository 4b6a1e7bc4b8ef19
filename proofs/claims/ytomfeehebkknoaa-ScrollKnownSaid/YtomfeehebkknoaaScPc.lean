/- Layer 13: the program's fresh, Fresh. -/
import Derived.Test.YtomfeehebkknoaaScPb
import Derived.Test.YtomfeehebkknoaaRwPf
set_option linter.unusedVariables false
namespace Go.Proofs.Ytomfeehebkknoaa.Rw
open Go.RowKit

theorem OwnT.less {w : World} {base B : Nat} {v : Value} {us : List Value} {ls : Ls} (h : OwnT w base v us ls) (hB : B ≤ base) : OwnT w B v us ls := ⟨one_less h.1 hB, h.2.more fun b hb => Nat.le_trans hB hb⟩
theorem blank_fresh (x : Int) (a : Aa) : blankV x a = freshC x a := by
  unfold blankV freshC
  by_cases h : 1 ≤ x ∧ x ≤ 400
  · rw [if_pos h, if_neg (by omega)]
  · rw [if_neg h, if_pos (by omega)]
theorem rep_take (f : List Ce) (k : Nat) : List.replicate (k + 1) f = List.replicate k f ++ [f] := List.replicate_succ'

set_option maxRecDepth 100000 in
set_option maxHeartbeats 2000000 in
theorem freshT_any (n : Nat) (x : Int) (a : Aa) (w : World) (hl : n ≤ 1000000) : Calls Try.prog 20 #[.int .i64 (n : Int), .int .i64 x, attrV a] w (TabPost w (List.replicate n (freshC x a))) := by
  obtain ⟨W, hW, hB, hs, hat⟩ := box_at w a
  obtain ⟨g, hg⟩ : ∃ g, g = W.heap.size := ⟨_, rfl⟩
  obtain ⟨w1, hr, hh⟩ := make_tab W n hl
  rw [← hg] at hr hh
  obtain ⟨f, hf⟩ : ∃ f, f = freshC x a := ⟨_, rfl⟩
  have HBl : Hid (∀ V, Calls Try.prog 26 #[.int .i64 x, attrV a] V (RowPost V f)) := Lib.hid fun V => by rw [hf, ← blank_fresh]; exact pblank_any x a V
  rw [← hf]
  have H0 := Lib.hid (part_zero hh)
  have HG := Lib.hid hg
  have HL := Lib.hid hl
  have HW := Lib.hid hW
  have HB := Lib.hid hB
  have HAt : Hid (∀ V, Below g W V → V.heap[w.heap.size]? = some (attrO a)) := Lib.hid (by rw [hg]; exact hat)
  obtain ⟨B, hBq⟩ : ∃ B, B = w.heap.size := ⟨_, rfl⟩
  rw [← hBq] at HAt
  have HBq := Lib.hid hBq
  clear hW hB hs hat hg hh hl hBq hf
  go_enter Try.func20, Try.ntmps20
  go_upto_region 1 with fail
  change Code.wp _ _ _ _ (w.alloc (attrO a))
  rw [← HW.out, ← HBq.out]
  go_wp2
  go_loopw [13] (fun i wr => ∃ (k : Nat) (us : List Value), k ≤ n ∧ i = .int .i64 k ∧ Hid (us.length = k) ∧ Hid (PartT W g n wr us (List.replicate k f))) (fun i _ => n - (RowKit.intOf i).toNat)
  case atStart => exact ⟨0, [], Nat.zero_le _, rfl, Lib.hid rfl, H0⟩
  case round =>
    obtain ⟨k, us, hk, rfl, HU, HP⟩ := hrel
    by_cases hlt : k < n
    · have glt : decide ((k : Int) < (n : Int)) = true := by simp; omega
      have hat1 := HAt.out wr HP.out.1.2.2
      have a0 := cell_of hat1 0
      have a1 := cell_of hat1 1
      have a2 := cell_of hat1 2
      have a3 := cell_of hat1 3
      have a4 := cell_of hat1 4
      have i2 := idx_ownT g n k hlt
      clear hat1
      go_wp2_with fail
      refine (show Calls _ _ _ _ _ from HBl.out _).mono ?_
      rintro e w2 ⟨u, rfl, ho, hb⟩
      have hc := (HP.out.1.below hb HP.out.1.lt).cell HU.out hlt
      have HX := Lib.hid (part_set HP.out HU.out hlt hb ho).1
      have c1 := hc.1
      have f1 := hc.2
      have HU2 : Hid ((us ++ [u]).length = k + 1) := Lib.hid (by rw [List.length_append, List.length_singleton, HU.out])
      have hn6 := HL.out
      have HSl : Hid (∃ A m c, u = .slice A m c) := Lib.hid (by rcases own_shape ho with ⟨rfl, _⟩ | ⟨_, _, _, rfl, _⟩ <;> exact ⟨_, _, _, rfl⟩)
      clear hc hb ho a0 a1 a2 a3 a4
      obtain ⟨A, m, c, rfl⟩ := HSl.out
      go_wp2
      go_roundw
      case rel => exact ⟨k + 1, _, by omega, by go_num, HU2, Lib.hid (by rw [rep_take]; exact HX.out)⟩
      case measure => simp [RowKit.intOf]; omega
    · have hkn : k = n := by omega
      subst hkn
      have glt : decide ((k : Int) < (k : Int)) = false := by simp
      have HF := Lib.hid (HP.out.own HU.out HL.out HG.out)
      go_wp2
      go_ret
      exact ⟨_, us, rfl, HF.out.1.less HB.out.size, HB.out.trans (HF.out.2.mono HB.out.size)⟩

set_option maxRecDepth 100000 in
set_option maxHeartbeats 2000000 in
theorem freshP_any (h x : Int) (a : Aa) (w : World) : Calls Try.prog 11 #[.int .i64 h, .int .i64 x, attrV a] w (TabPost w (freshT h x a)) := by
  obtain ⟨W, hW, hB, hs, hat⟩ := box_at w a
  have HW := Lib.hid hW
  have HB := Lib.hid hB
  unfold freshT
  by_cases hc : 1 ≤ h ∧ h ≤ 400
  · rw [if_pos hc]
    obtain ⟨n, rfl⟩ : ∃ n : Nat, h = (n : Int) := ⟨h.toNat, by omega⟩
    rw [Int.toNat_natCast]
    have HC := Lib.hid (freshT_any n x a W (by omega))
    have hat1 := hat W (Below.refl _ _)
    obtain ⟨B, hBq⟩ : ∃ B, B = w.heap.size := ⟨_, rfl⟩
    rw [← hBq] at hat1
    have HBq := Lib.hid hBq
    have a0 := cell_of hat1 0
    have a1 := cell_of hat1 1
    have a2 := cell_of hat1 2
    have a3 := cell_of hat1 3
    have a4 := cell_of hat1 4
    have g1 : decide ((n : Int) < 1) = false := by simp; omega
    have g2 : decide ((n : Int) > 400) = false := by simp; omega
    clear hW hB hs hat hat1 hBq
    go_enter Try.func11, Try.ntmps11
    go_upto_region 1 with fail
    change Code.wp _ _ _ _ (w.alloc (attrO a))
    rw [← HW.out, ← HBq.out]
    go_wp2_with fail
    refine (show Calls _ _ _ _ _ from HC.out).mono ?_
    rintro e w2 ⟨v, us, rfl, ho, hb⟩
    have HO := Lib.hid ho
    have HB2 := Lib.hid hb
    clear ho hb HC a0 a1 a2 a3 a4
    go_wp2
    go_ret
    exact ⟨_, us, rfl, HO.out.less HB.out.size, HB.out.trans (HB2.out.mono HB.out.size)⟩
  · rw [if_neg hc]
    have g : decide (h < 1) = true ∨ decide (h < 1) = false ∧ decide (h > 400) = true := by
      by_cases h1 : h < 1
      · exact Or.inl (by simpa using h1)
      · exact Or.inr ⟨by simpa using h1, by simp; omega⟩
    clear hW hB hs hat hc
    rcases g with g1 | ⟨g1, g2⟩
    all_goals
      go_enter Try.func11, Try.ntmps11
      go_upto_region 1 with fail
      change Code.wp _ _ _ _ (w.alloc (attrO a))
      rw [← HW.out]
      go_wp2
      go_ret
      exact ⟨_, [], rfl, ⟨World.ownsRow_nil _ _ _ _, rows_nil _ _⟩, HB.out⟩
end Go.Proofs.Ytomfeehebkknoaa.Rw
