/- Layer 14: BackLast's walk. -/
import Derived.Test.YtpanhkhiomgclaaBaK
set_option linter.unusedVariables false
namespace Go.Proofs.Ytpanhkhiomgclaa.Ba
open Go.RowKit

theorem take_step (l : List Int) (k : Nat) (h : k < l.length) : l.take (k + 1) = l.take k ++ [l.getD k 0] := by
  rw [List.take_add_one, List.getElem?_eq_getElem h, List.getD_eq_getElem?_getD, List.getElem?_eq_getElem h]
  rfl
/-- One more is put: what the back has then, what Put answers, how many are gone. -/
theorem lasts_step (M : Nat) (l : List Int) (k G : Nat) (h : k < l.length) : putV M (lastsV M (l.take k)) (l.getD k 0) = lastsV M (l.take (k + 1)) ∧ putB M (lastsV M (l.take k)) = decide (M ≤ k) ∧ goneV M (lastsV M (l.take k)) (G + (k - M)) = G + (k + 1 - M) := by
  have hl : (l.take k).length = k := by rw [List.length_take]; omega
  have := lasts_put M (l.take k) (l.getD k 0)
  rw [hl, ← take_step l k h] at this
  exact ⟨this.1, this.2.1, this.2.2 G⟩

def lastBig (m : Int) (n1 n2 : Nat) : Bool := decide (m < 0) || decide (m > 500) || decide (n1 > 600) || decide (n2 > 600)
set_option maxRecDepth 100000 in
set_option maxHeartbeats 4000000 in
theorem last_no {w : World} {A1 A2 : Option Addr} {n1 c1 n2 c2 : Nat} (m : Int) (h : m < 0 ∨ m > 500 ∨ n1 > 600 ∨ n2 > 600) : Calls Try.prog 5 #[.int .i64 m, .slice A1 n1 c1, .slice A2 n2 c2] w fun e w' => e = .returned (.bool true) ∧ Below w.heap.size w w' := by
  have HW := Lib.hid (wakes_any w)
  have hh : decide (m < 0) = true ∨ decide (m < 0) = false ∧ (decide (m > 500) = true ∨ decide (m > 500) = false ∧ (decide ((n1 : Int) > 600) = true ∨ decide ((n1 : Int) > 600) = false ∧ decide ((n2 : Int) > 600) = true)) := by
    by_cases a1 : m < 0
    · exact Or.inl (by simpa using a1)
    · refine Or.inr ⟨by simpa using a1, ?_⟩
      by_cases a2 : m > 500
      · exact Or.inl (by simpa using a2)
      · refine Or.inr ⟨by simpa using a2, ?_⟩
        by_cases a3 : n1 > 600
        · exact Or.inl (by simp; omega)
        · exact Or.inr ⟨by simp; omega, by simp; omega⟩
  clear h
  rcases hh with g1 | ⟨g1, g2 | ⟨g2, g3 | ⟨g3, g4⟩⟩⟩
  all_goals
    go_enter Try.func5, Try.ntmps5
    go_wp2_with fail
    refine (show Calls _ _ _ _ _ from HW.out).mono ?_
    rintro e w1 ⟨rfl, hb⟩
    go_wp2
    go_ret
    exact ⟨rfl, hb⟩

set_option maxRecDepth 100000 in
set_option maxHeartbeats 8000000 in
theorem last_yes {w : World} {A1 A2 : Option Addr} {n1 c1 n2 c2 : Nat} {L1 L2 : List Int} (H1 : LiesI w (.slice A1 n1 c1) L1) (H2 : LiesI w (.slice A2 n2 c2) L2) (M : Nat) (hM : M ≤ 500) (h1 : n1 ≤ 600) (h2 : n2 ≤ 600) : Calls Try.prog 5 #[.int .i64 (M : Int), .slice A1 n1 c1, .slice A2 n2 c2] w fun e w' => e = .returned (.bool true) ∧ Below w.heap.size w w' := by
  have g1 : decide ((M : Int) < 0) = false := by simp
  have g2 : decide ((M : Int) > 500) = false := by simp; omega
  have g3 : decide ((n1 : Int) > 600) = false := by simp; omega
  have g4 : decide ((n2 : Int) > 600) = false := by simp; omega
  have hl1 := H1.len.1
  have hl2 := H2.len.1
  have HL := Lib.hid (And.intro hl1 (And.intro hl2 (And.intro hM (And.intro h1 h2))))
  have HA := Lib.hid H1
  have HC := Lib.hid H2
  have K0 := Lib.hid (new_any (M : Int) w (in_small (by omega) (by omega)))
  have HM : Hid (newB (M : Int) = true) := Lib.hid (by unfold newB; simp; omega)
  clear H1 H2 hl1 hl2
  go_enter Try.func5, Try.ntmps5
  go_wp2_with fail
  refine (show Calls _ _ _ _ _ from K0.out).mono ?_
  intro e w1 hp
  obtain ⟨s, rfl, hm⟩ := mine_new (w := w) HM.out (Below.refl _ _) hp
  obtain ⟨p, rfl⟩ := hm.ptr
  rw [Int.toNat_natCast] at hm
  have H := Lib.hid hm
  clear hm hp K0 HM g1 g2 g3 g4
  go_wp2
  go_loopw [9] (fun i wr => ∃ k : Nat, k ≤ n1 ∧ i = .int .i64 k ∧ Hid (MineB w wr (.pointer (some ⟨p, 0, none⟩)) M (0 + (k - M)) (lastsV M (L1.take k)))) (fun i _ => n1 - (RowKit.intOf i).toNat)
  case atStart => exact ⟨0, Nat.zero_le _, rfl, Lib.hid (by simpa [lastsV] using H.out)⟩
  case round =>
    obtain ⟨k, hk, rfl, HP⟩ := hrel
    by_cases hlt : k < n1
    · have glt : decide ((k : Int) < (n1 : Int)) = true := by simp; omega
      obtain ⟨b1, o1, rfl, hb1, q1⟩ := HA.out.at_ hlt
      have q1' := (HP.out.below.cell (p := ⟨b1, o1 + k, none⟩) hb1).trans q1
      have i1 := idx_int b1 o1 n1 c1 k hlt
      have hst := lasts_step M L1 k 0 (by rw [← HL.out.1]; exact hlt)
      have K1 := mine_put HP.out (L1.getD k 0) (by omega)
      rw [hst.1, hst.2.2] at K1
      have K1 := Lib.hid K1
      generalize L1.getD k 0 = X at *
      clear q1 hb1 hst HP
      go_wp2_with fail
      refine (show Calls _ _ _ _ _ from K1.out).mono ?_
      rintro e w2 ⟨rfl, hp, -⟩
      have HP := Lib.hid hp
      clear hp K1 q1'
      go_wp2
      go_roundw
      case rel => exact ⟨k + 1, by omega, by go_num, HP⟩
      case measure => simp [RowKit.intOf]; omega
    · have hkn : k = n1 := by omega
      subst hkn
      have glt : decide ((k : Int) < (k : Int)) = false := by simp
      have K1 := Lib.hid (mine_clear HP.out)
      clear HP
      go_wp2_with fail
      refine (show Calls _ _ _ _ _ from K1.out).mono ?_
      rintro e w2 ⟨rfl, hp, -⟩
      have K2 := Lib.hid (mine_gone hp)
      clear hp K1
      go_wp2_with fail
      refine (show Calls _ _ _ _ _ from K2.out).mono ?_
      rintro e w3 ⟨rfl, hp, -⟩
      have H := Lib.hid hp
      obtain ⟨G, hG⟩ : ∃ G, G = 0 + (k - M) := ⟨_, rfl⟩
      rw [← hG] at H ⊢
      have HG := Lib.hid hG
      have HG6 : Hid (G ≤ 600) := Lib.hid (by have := HL.out; omega)
      clear hp K2 hG
      go_wp2
      go_loopw [11] (fun i wr => ∃ j : Nat, j ≤ n2 ∧ i = .int .i64 j ∧ Hid (MineB w wr (.pointer (some ⟨p, 0, none⟩)) M (G + (j - M)) (lastsV M (L2.take j)))) (fun i _ => n2 - (RowKit.intOf i).toNat)
      case atStart => exact ⟨0, Nat.zero_le _, rfl, Lib.hid (by simpa [lastsV] using H.out)⟩
      case round =>
        obtain ⟨j, hj, rfl, HP⟩ := hrel
        by_cases hlt : j < n2
        · have glt : decide ((j : Int) < (n2 : Int)) = true := by simp; omega
          obtain ⟨b1, o1, rfl, hb1, q1⟩ := HC.out.at_ hlt
          have q1' := (HP.out.below.cell (p := ⟨b1, o1 + j, none⟩) hb1).trans q1
          have i1 := idx_int b1 o1 n2 c2 j hlt
          have hst := lasts_step M L2 j G (by rw [← HL.out.2.1]; exact hlt)
          have K1 := mine_put HP.out (L2.getD j 0) (by have := HG6.out; omega)
          rw [hst.1, hst.2.1, hst.2.2] at K1
          have hT : (decide (M ≤ j) = true ∧ decide ((j : Int) ≥ (M : Int)) = true) ∨ (decide (M ≤ j) = false ∧ decide ((j : Int) ≥ (M : Int)) = false) := by
            by_cases hMj : M ≤ j
            · exact Or.inl ⟨by simpa using hMj, by simp; omega⟩
            · exact Or.inr ⟨by simpa using hMj, by simp; omega⟩
          have hj6 := HL.out.2.2.2.2
          generalize L2.getD j 0 = X at *
          clear q1 hb1 hst HP
          rcases hT with ⟨t1, gx⟩ | ⟨t1, gx⟩
          all_goals
            rw [t1] at K1
            have K2 := Lib.hid K1
            clear K1
            go_wp2_with fail
            refine (show Calls _ _ _ _ _ from K2.out).mono ?_
            rintro e w4 ⟨rfl, hp, -⟩
            have HP := Lib.hid hp
            clear hp K2 q1'
            go_wp2
            go_roundw
            case rel => exact ⟨j + 1, by omega, by go_num, HP⟩
            case measure => simp [RowKit.intOf]; omega
        · have hkn : j = n2 := by omega
          subst hkn
          have glt : decide ((j : Int) < (j : Int)) = false := by simp
          obtain ⟨N, hN⟩ : ∃ N, N = j - M := ⟨_, rfl⟩
          rw [← hN] at HP
          have hj6 := HL.out.2.2.2.2
          have hM5 := HL.out.2.2.1
          have hk6 := HL.out.2.2.2.1
          have z1 : IntKind.i64.wrap ((j : Int) - (M : Int)) = (j : Int) - (M : Int) := IntWalk.i64_in _ (by omega)
          have z2 : IntKind.i64.wrap ((k : Int) - (M : Int)) = (k : Int) - (M : Int) := IntWalk.i64_in _ (by omega)
          have y1 : (if (j : Int) - (M : Int) < 0 then (0 : Int) else (j : Int) - (M : Int)) = (N : Int) := by split <;> omega
          have y2 : max ((j : Int) - (M : Int)) 0 = (N : Int) := by omega
          have hGk : G = k - M := by rw [HG.out]; omega
          have y3 : (if (k : Int) - (M : Int) < 0 then (0 : Int) else (k : Int) - (M : Int)) = (G : Int) := by split <;> omega
          have y4 : max ((k : Int) - (M : Int)) 0 = (G : Int) := by omega
          obtain ⟨X, hX⟩ : ∃ X, X = G + N := ⟨_, rfl⟩
          have z3 : IntKind.i64.wrap ((G : Int) + (N : Int)) = (X : Int) := by have := HG6.out; rw [IntWalk.i64_in _ (by omega)]; omega
          have e1 : ((G : Int) == (G : Int)) = true := by simp
          have e2 : ((X : Int) == (X : Int)) = true := by simp
          rw [← hX] at HP
          obtain ⟨Z, hZ⟩ : ∃ Z, Z = lastsV M (L2.take j) := ⟨_, rfl⟩
          rw [← hZ] at HP
          have hZ2 : Z = L2.drop N := by
            rw [hZ, List.take_of_length_le (by have := HL.out.2.1; omega), hN]
            unfold lastsV
            rw [← HL.out.2.1]
          obtain ⟨P, m, d, hmm, sl, hw⟩ := from_ints HC.out N (by omega)
          have hbw := HP.out.below
          have hwV : ∀ V, Below wr.heap.size wr V → LiesI V (.slice P m d) (L2.drop N) := fun V hV => hw.below (hbw.trans (hV.mono hbw.size))
          have hZl : Z.length ≤ 500 := by have := HP.out.cap; omega
          have S1 : Hid (∀ V, Below wr.heap.size wr V → Calls Try.prog 16 #[.pointer (some ⟨p, 0, none⟩)] V fun e w' => e = .returned (.int .i64 (X : Int)) ∧ Below wr.heap.size wr w') := Lib.hid fun V hV => (mine_gone (HP.out.old hV)).mono fun e w' ⟨he, _, hb⟩ => ⟨he, hV.trans (hb.mono hV.size)⟩
          have S2 : Hid (∀ V, Below wr.heap.size wr V → Calls Try.prog 18 #[.pointer (some ⟨p, 0, none⟩), .int .i64 1000] V fun e w' => ∃ A c, e = .returned (.slice A Z.length c) ∧ LiesI w' (.slice A Z.length c) Z ∧ Below wr.heap.size wr w') := Lib.hid fun V hV => (mine_last (HP.out.old hV) 1000 (in_small (by decide) (by decide))).mono fun e w' ⟨A, c, he, ho, _, hb⟩ => by
            rw [last_all Z 1000 (by omega)] at he ho
            exact ⟨A, c, he, ownI_lies ho, hV.trans (hb.mono hV.size)⟩
          have S3 : Hid (∀ V A c, Below wr.heap.size wr V → LiesI V (.slice A Z.length c) Z → Calls Try.prog 17 #[.slice A Z.length c, .slice P m d] V fun e w' => e = .returned (.bool true) ∧ Below wr.heap.size wr w') := Lib.hid fun V A c hV hz => (same_any hz (hwV V hV) (by omega)).mono fun e w' ⟨he, hb⟩ => ⟨by rw [he, decide_eq_true hZ2], hV.trans (hb.mono hV.size)⟩
          have S4 : Hid (∀ V, Below wr.heap.size wr V → Calls Try.prog 20 #[.pointer (some ⟨p, 0, none⟩), .int .i64 1000] V fun e w' => ∃ A c, e = .returned (.slice A Z.length c) ∧ LiesI w' (.slice A Z.length c) Z ∧ Below wr.heap.size wr w') := Lib.hid fun V hV => (mine_all (HP.out.old hV) 1000 (by decide) (by decide)).mono fun e w' ⟨A, c, he, ho, _, hb⟩ => by
            rw [List.take_of_length_le (by omega)] at he ho
            exact ⟨A, c, he, ownI_lies ho, hV.trans (hb.mono hV.size)⟩
          have S5 : Hid (∀ V, Below wr.heap.size wr V → Calls Try.prog 8 #[] V fun e w' => e = .returned (.bool true) ∧ Below wr.heap.size wr w') := Lib.hid fun V hV => (wakes_any V).mono fun e w' ⟨he, hb⟩ => ⟨he, hV.trans (hb.mono hV.size)⟩
          have HBw := Lib.hid hbw
          have kd : Below wr.heap.size wr wr.drew := below_drew (Below.refl _ _) 1
          generalize Z.length = q at *
          clear hZ hZ2 hw hwV hbw hN hX hGk hj6 hM5 hk6 HG HG6 HP HA HC hZl hmm
          go_upto_region 18 with fail
          go_region_held3 (fun V => Below wr.heap.size wr V) (assumption)
            (first
              | (go_at_call 16; (with_reducible refine (S1.out _ (by assumption)).mono ?_); rintro e v1 ⟨rfl, q1⟩)
              | (go_at_call 18; (with_reducible refine (S2.out _ (by assumption)).mono ?_); rintro e v2 ⟨A5, c5, rfl, z5, q2⟩)
              | (go_at_call 17; (with_reducible refine (S3.out _ _ _ (by assumption) (by assumption)).mono ?_); rintro e v3 ⟨rfl, q3⟩)
              | (go_at_call 20; (with_reducible refine (S4.out _ (by assumption)).mono ?_); rintro e v4 ⟨A6, c6, rfl, z6, q4⟩)
              | (go_at_call 8; (with_reducible refine (S5.out _ (by assumption)).mono ?_); rintro e v5 ⟨rfl, q5⟩))
          go_wp2
          go_ret
          exact ⟨rfl, HBw.out.trans (q5.mono HBw.out.size)⟩
theorem last_law {w : World} {v1 v2 : Value} {L1 L2 : List Int} (H1 : LiesI w v1 L1) (H2 : LiesI w v2 L2) (m : Int) : Calls Try.prog 5 #[.int .i64 m, v1, v2] w fun e w' => e = .returned (.bool true) ∧ Below w.heap.size w w' := by
  obtain ⟨A1, c1, rfl, -⟩ := id H1
  obtain ⟨A2, c2, rfl, -⟩ := id H2
  by_cases h : m < 0 ∨ m > 500 ∨ L1.length > 600 ∨ L2.length > 600
  · exact last_no m h
  · obtain ⟨M, rfl⟩ : ∃ M : Nat, m = (M : Int) := ⟨m.toNat, by omega⟩
    exact last_yes H1 H2 M (by omega) (by omega) (by omega)
end Go.Proofs.Ytpanhkhiomgclaa.Ba
