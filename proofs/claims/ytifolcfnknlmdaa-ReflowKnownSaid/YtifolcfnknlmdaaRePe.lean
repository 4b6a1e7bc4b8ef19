/- Layer 15: the program's found and behind. -/
import Derived.Test.YtifolcfnknlmdaaRePd
set_option linter.unusedVariables false
namespace Go.Proofs.Ytifolcfnknlmdaa.Re
open Go.RowKit Go.Proofs.Ytifolcfnknlmdaa.Rw

theorem spot_lt (W : Nat) (p : List Ce) (i : Nat) (h : i < p.length) : spot W p i = pos blC wdC W p i := if_pos h
theorem spot_ge (W : Nat) (p : List Ce) (i : Nat) (h : ¬ i < p.length) : spot W p i = (min ((if p.length = 0 then 0 else (pos blC wdC W p (p.length - 1)).1 + 1) + (i - p.length)) (W - 1), (lay blC wdC W p).length - 1) := if_neg h
theorem pos_step (W : Nat) (h2 : 2 ≤ W) (cs : List Ce) (i : Nat) : pos blC wdC W cs i = if fitV W cs < cs.length ∧ fitV W cs ≤ i then ((pos blC wdC W (cs.drop (fitV W cs)) (i - fitV W cs)).1, (pos blC wdC W (cs.drop (fitV W cs)) (i - fitV W cs)).2 + 1) else (i, 0) := by
  rw [pos]
  unfold fitV
  by_cases h1 : cs.length < W
  · rw [dif_neg (by omega), dif_neg (by omega), if_pos h1, if_neg (by omega)]
  · rw [if_neg h1]
    by_cases h3 : wdC (cs.getD (W - 1) blC) = true
    · rw [dif_pos ⟨h2, by omega, h3⟩, if_pos h3]
      by_cases h5 : i < W - 1
      · rw [if_pos h5, if_neg (by omega)]
      · rw [if_neg h5, if_pos (by omega)]
    · rw [dif_neg (fun h => h3 h.2.2), if_neg h3]
      by_cases h4 : W < cs.length
      · rw [dif_pos ⟨h2, h4⟩]
        by_cases h5 : i < W
        · rw [if_pos h5, if_neg (by omega)]
        · rw [if_neg h5, if_pos (by omega)]
      · rw [dif_neg (fun h => h4 h.2), if_neg (by omega)]
/-- Line by line. -/
theorem spot_step (W : Nat) (h2 : 2 ≤ W) (cs : List Ce) (i : Nat) : spot W cs i = if fitV W cs < cs.length ∧ fitV W cs ≤ i then ((spot W (cs.drop (fitV W cs)) (i - fitV W cs)).1, (spot W (cs.drop (fitV W cs)) (i - fitV W cs)).2 + 1) else (min i (W - 1), 0) := by
  have hlay := lay_fit W h2 cs
  have hpos := pos_step W h2 cs
  have hf := fit_le W cs
  have hf2 : fitV W cs = cs.length ∨ fitV W cs < cs.length := by omega
  generalize fitV W cs = n at *
  have hdl : (cs.drop n).length = cs.length - n := List.length_drop
  rcases hf2 with he | hlt
  · rw [if_neg (by omega : ¬ (n < cs.length ∧ n ≤ i))]
    by_cases hi : i < cs.length
    · rw [spot_lt W cs i hi, hpos i, if_neg (by omega), Nat.min_eq_left (by omega)]
    · rw [spot_ge W cs i hi, hpos, if_neg (by omega : ¬ (n < cs.length ∧ n ≤ cs.length - 1)), hlay, if_neg (by omega : ¬ n < cs.length)]
      simp only [List.length_cons, List.length_nil]
      congr 1
      split <;> omega
  · by_cases hi : n ≤ i
    · have hne : 0 < (lay blC wdC W (cs.drop n)).length := List.length_pos_iff.2 (lay_ne blC wdC W _)
      rw [if_pos ⟨hlt, hi⟩]
      by_cases hi2 : i < cs.length
      · rw [spot_lt W cs i hi2, hpos i, if_pos ⟨hlt, hi⟩, spot_lt W _ _ (by rw [hdl]; omega)]
      · have e0 : ¬ cs.length = 0 := by omega
        have e1 : ¬ (cs.drop n).length = 0 := by rw [hdl]; omega
        have e2 : n < cs.length ∧ n ≤ cs.length - 1 := by omega
        rw [spot_ge W cs i hi2, spot_ge W _ _ (by rw [hdl]; omega), if_neg e0, if_neg e1, hpos, if_pos e2, hlay, if_pos hlt, List.length_cons, hdl, show cs.length - 1 - n = cs.length - n - 1 by omega, show i - n - (cs.length - n) = i - cs.length by omega]
        dsimp only
        congr 1
        omega
    · rw [if_neg (fun h => hi h.2), spot_lt W cs i (by omega), hpos i, if_neg (fun h => hi h.2), Nat.min_eq_left (by omega)]
structure FState (w : World) (W : Nat) (cs : List Ce) (i f y : Nat) (wz : World) (uc : Value) : Prop where
  lies : Lies w uc (cs.drop f)
  le : f ≤ cs.length
  upi : f ≤ i
  few : y ≤ f
  spot : spot W cs i = ((spot W (cs.drop f) (i - f)).1, (spot W (cs.drop f) (i - f)).2 + y)
  bel : Below w.heap.size w wz
set_option maxRecDepth 100000 in
set_option maxHeartbeats 8000000 in
theorem found_any {u : Value} {cs : List Ce} (W : Nat) (h2 : 2 ≤ W) (h4 : W ≤ 400) (i : Nat) (hi : i ≤ 1000000000) {w : World} (h : Lies w u cs) (hl : cs.length ≤ 100000) : Calls Try.prog 25 #[u, .int .i64 (W : Int), .int .i64 (i : Int)] w fun e w' => e = .returned (.tuple #[.int .i64 ((spot W cs i).1 : Int), .int .i64 ((spot W cs i).2 : Int)]) ∧ Below w.heap.size w w' := by
  have H0 : Hid (∀ w1, Below w.heap.size w w1 → FState w W cs i 0 0 w1 u) := Lib.hid fun w1 b1 => ⟨h, Nat.zero_le _, Nat.zero_le _, Nat.zero_le _, rfl, b1⟩
  have HL := Lib.hid hl
  obtain ⟨A0, c0, rfl, -⟩ := id h
  have KF := Lib.hid (fit_any W h2 h4 w h)
  clear h hl
  go_enter Try.func25, Try.ntmps25
  go_wp2_with fail
  refine (show Calls _ _ _ _ _ from KF.out).mono ?_
  rintro e w1 ⟨rfl, b1⟩
  have H1 := Lib.hid (H0.out _ b1)
  clear b1 KF H0
  go_wp2
  go_loopw [0, 2, 7, 8] (fun uc xv yv nv wr => ∃ (f y : Nat) (wz : World) (ucz : Value), wz = wr ∧ ucz = uc ∧ xv = .int .i64 ((i - f : Nat) : Int) ∧ yv = .int .i64 (y : Int) ∧ nv = .int .i64 (fitV W (cs.drop f) : Int) ∧ Hid (FState w W cs i f y wz ucz)) (fun uc _ _ _ _ => sliceLen uc)
  case atStart => exact ⟨0, 0, _, _, rfl, rfl, rfl, rfl, rfl, H1⟩
  case round =>
    obtain ⟨f, y, wr, uc, rfl, rfl, rfl, rfl, rfl, H⟩ := hrel
    obtain ⟨A, c, rfl, -⟩ := id H.out.lies
    obtain ⟨l', hl'⟩ : ∃ l', l' = cs.drop f := ⟨_, rfl⟩
    have hli := H.out.lies
    rw [← hl'] at hli ⊢
    obtain ⟨N, hN⟩ : ∃ N, N = l'.length := ⟨_, rfl⟩
    obtain ⟨M, hM⟩ : ∃ M, M = fitV W l' := ⟨_, rfl⟩
    obtain ⟨X, hX⟩ : ∃ X, X = i - f := ⟨_, rfl⟩
    have hMN : M ≤ N ∧ M ≤ W := by rw [hM, hN]; exact fit_le W l'
    have hN4 : N ≤ 100000 := by rw [hN, hl', List.length_drop]; have := HL.out; omega
    have hst := spot_step W h2 l' X
    have hsp := H.out.spot
    rw [← hM, ← hN] at hst
    rw [← hl', ← hX] at hsp
    have hy : y ≤ 100000 := by have := H.out.few; have := H.out.le; have := HL.out; omega
    have hX9 : X ≤ 1000000000 := by omega
    rw [← hN] at hli ⊢
    rw [← hM, ← hX]
    by_cases hgo : M < N ∧ M ≤ X
    · rw [if_pos hgo] at hst
      have g1 : decide ((M : Int) < (N : Int)) = true := by simp; omega
      have g1' : decide (M < N) = true := by simp; omega
      have g2 : decide ((X : Int) ≥ (M : Int)) = true := by simp; omega
      have g2' : decide (M ≤ X) = true := by simp; omega
      have hpos : 0 < M := by rw [hM]; exact fit_pos W h2 l' (by rw [← hM, ← hN]; exact hgo.1)
      obtain ⟨p, d, i2, lf⟩ := from_cells hli M hMN.1
      have hxm : IntKind.i64.wrap ((X : Int) - (M : Int)) = ((i - (f + M) : Nat) : Int) := by rw [IntWalk.i64_in _ (by omega)]; omega
      have hyp : IntKind.i64.wrap ((y : Int) + 1) = ((y + 1 : Nat) : Int) := by rw [IntWalk.i64_in _ (by omega)]; omega
      have HF : Hid (∀ w2, Below wr.heap.size wr w2 → FState w W cs i (f + M) (y + 1) w2 (.slice p (N - M) d)) := Lib.hid fun w2 b2 => ⟨by rw [← List.drop_drop, ← hl']; exact lf, by have h1 := hN; rw [hl', List.length_drop] at h1; omega, by omega, by have := H.out.few; omega, by rw [hsp, hst, ← List.drop_drop, ← hl', show i - (f + M) = X - M by omega, Nat.add_assoc, Nat.add_comm 1 y], H.out.bel.trans (b2.mono H.out.bel.size)⟩
      have KF := Lib.hid (fit_any W h2 h4 wr (lf.below H.out.bel))
      rw [hl', List.drop_drop] at KF
      have HM := Lib.hid (And.intro hpos hMN.1)
      clear hli hN hM hl' hX hst hsp hgo lf hpos hMN H
      go_wp2_with fail
      refine (show Calls _ _ _ _ _ from KF.out).mono ?_
      rintro e w2 ⟨rfl, b2⟩
      have HF2 := Lib.hid (HF.out _ b2)
      clear b2 KF HF
      go_wp2
      go_roundw
      case rel => exact ⟨f + M, y + 1, _, _, rfl, rfl, rfl, rfl, rfl, HF2⟩
      case measure => have := HM.out; simp [sliceLen]; omega
    · rw [if_neg hgo] at hst
      rw [hst] at hsp
      have hr : min X (W - 1) = (spot W cs i).1 ∧ y = (spot W cs i).2 := by rw [hsp]; exact ⟨rfl, (Nat.zero_add y).symm⟩
      obtain ⟨R, hR⟩ : ∃ R, R = min X (W - 1) := ⟨_, rfl⟩
      have HR1 : Hid (R = (spot W cs i).1 ∧ y = (spot W cs i).2) := Lib.hid (And.intro (hR.trans hr.1) hr.2)
      have zw : IntKind.i64.wrap ((W : Int) - 1) = ((W - 1 : Nat) : Int) := by rw [IntWalk.i64_in _ (by omega)]; omega
      obtain ⟨V, hV⟩ : ∃ V, V = W - 1 := ⟨_, rfl⟩
      rw [← hV] at zw hR
      have HBl := Lib.hid H.out.bel
      have hvx : (V < X ∧ R = V) ∨ (¬ V < X ∧ R = X) := by omega
      have h1 : (M < N ∧ ¬ M ≤ X) ∨ ¬ M < N := by omega
      rcases hvx with ⟨hv, hRv⟩ | ⟨hv, hRv⟩
      · have g3 : decide ((V : Int) < (X : Int)) = true := by simp; omega
        have g3' : decide (V < X) = true := by simp; omega
        have hv' : (V : Int) < (X : Int) := by omega
        have HRv := Lib.hid hRv
        clear hRv
        rcases h1 with ⟨h1, h1'⟩ | h1
        · have g1 : decide ((M : Int) < (N : Int)) = true := by simp; omega
          have g1' : decide (M < N) = true := by simp; omega
          have g2 : decide ((X : Int) ≥ (M : Int)) = false := by simp; omega
          have g2' : decide (M ≤ X) = false := by simp; omega
          clear hli hN hM hl' hst hsp hgo hMN H hr hV h1 h1' hX hR
          go_wp2
          go_ret2
          exact ⟨by rw [← HR1.out.1, ← HR1.out.2, HRv.out]; rfl, HBl.out⟩
        · have g1 : decide ((M : Int) < (N : Int)) = false := by simp; omega
          have g1' : decide (M < N) = false := by simp; omega
          clear hli hN hM hl' hst hsp hgo hMN H hr hV h1 hX hR
          go_wp2
          go_ret2
          exact ⟨by rw [← HR1.out.1, ← HR1.out.2, HRv.out]; rfl, HBl.out⟩
      · have g3 : decide ((V : Int) < (X : Int)) = false := by simp; omega
        have g3' : decide (V < X) = false := by simp; omega
        have hv' : ¬ (V : Int) < (X : Int) := by omega
        have HRv := Lib.hid hRv
        clear hRv
        rcases h1 with ⟨h1, h1'⟩ | h1
        · have g1 : decide ((M : Int) < (N : Int)) = true := by simp; omega
          have g1' : decide (M < N) = true := by simp; omega
          have g2 : decide ((X : Int) ≥ (M : Int)) = false := by simp; omega
          have g2' : decide (M ≤ X) = false := by simp; omega
          clear hli hN hM hl' hst hsp hgo hMN H hr hV h1 h1' hX hR
          go_wp2
          go_ret2
          exact ⟨by rw [← HR1.out.1, ← HR1.out.2, HRv.out]; rfl, HBl.out⟩
        · have g1 : decide ((M : Int) < (N : Int)) = false := by simp; omega
          have g1' : decide (M < N) = false := by simp; omega
          clear hli hN hM hl' hst hsp hgo hMN H hr hV h1 hX hR
          go_wp2
          go_ret2
          exact ⟨by rw [← HR1.out.1, ← HR1.out.2, HRv.out]; rfl, HBl.out⟩
end Go.Proofs.Ytifolcfnknlmdaa.Re
