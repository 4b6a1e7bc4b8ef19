/- Layer 12: the document's stops: Resize, New. -/
import Derived.Test.YtfkiihddcinckaaTbE
set_option linter.unusedVariables false
namespace Go.Proofs.Ytfkiihddcinckaa.Tb
open Go.RowKit

def RefOut (w : World) (W : Nat) (l : List Nat) (e : Ending) (w' : World) : Prop := ∃ v, e = .returned (refV W v) ∧ LiesI w' v l ∧ Below w.heap.size w w' ∧ ∀ b, v.ownBlock = some b → w.heap.size ≤ b ∧ b < w'.heap.size
def sizeP (W : Nat) (l : List Nat) (k : Nat) : Bool := (decide (k < W) && isL l (k : Int)) || (decide (W ≤ k) && baseB k)
theorem mod8 (k : Nat) : (((k : Int) % 8 == 0) = (k % 8 == 0)) ∧ (((k : Int).tmod 8 == 0) = (k % 8 == 0)) := by
  have h : (k : Int).tmod 8 = (k : Int) % 8 := Int.tmod_eq_emod_of_nonneg (by omega)
  rw [h]
  refine ⟨?_, ?_⟩ <;>
  · by_cases e : k % 8 = 0
    · rw [e]; simp; omega
    · rw [show (k % 8 == 0) = false by simpa using e]; simp; omega

set_option maxRecDepth 100000 in
set_option maxHeartbeats 4000000 in
theorem rsize_any (W : Nat) (v : Value) (l : List Nat) (x : Int) (w : World) (h : LiesI w v l) (hl : l.length ≤ 100000) (hWb : W ≤ 100000) : Calls Try.prog 18 #[refV W v, .int .i64 x] w (RefOut w (widthV x) ((List.range (widthV x)).filter (sizeP W l))) := by
  obtain ⟨A, c, e, -⟩ := id h
  obtain ⟨nn, hnn⟩ : ∃ nn, nn = l.length := ⟨_, rfl⟩
  rw [← hnn] at e
  clear hnn
  subst e
  obtain ⟨W0, hW0, hB, hs, hp, hr⟩ := box_two w W (.slice A nn c)
  have HL := Lib.hid (h.below hB)
  have HIs : Hid (∀ V y, Below W0.heap.size W0 V → Calls Try.prog 39 #[refV W (.slice A nn c), .int .i64 y] V fun e w' => e = .returned (.bool (isL l y)) ∧ Below V.heap.size V w') := Lib.hid fun V y hV => ris_any W _ l y V (HL.out.below hV) hl
  have HWd := Lib.hid (rwidth_any x W0)
  obtain ⟨X, hX⟩ : ∃ X, X = widthV x := ⟨_, rfl⟩
  rw [← hX] at HWd ⊢
  have HXb : Hid (1 ≤ X ∧ X ≤ 400) := Lib.hid (by rw [hX]; exact width_in x)
  have HB := Lib.hid hB
  have HW := Lib.hid hW0
  obtain ⟨P, hP⟩ : ∃ P, P = w.heap.size := ⟨_, rfl⟩
  rw [← hP] at hp hr hs
  have HP := Lib.hid hP
  have HRs := Lib.hid hs
  have HQ : Hid (∀ V, Below W0.heap.size W0 V → V.heap[P]? = some (refO W (.slice A nn c)) ∧ V.heap[P + 1]? = some zeroR) := Lib.hid fun V hV => ⟨(hV.block P (by omega)).trans hp, (hV.block (P + 1) (by omega)).trans hr⟩
  have HWb := Lib.hid hWb
  obtain ⟨p, hpp⟩ : ∃ p, p = sizeP W l := ⟨_, rfl⟩
  rw [← hpp]
  have HPp := Lib.hid hpp
  have HJ : Hid (∀ V, Below W0.heap.size W0 V → Below w.heap.size w V) := Lib.hid fun V hV => HB.out.trans (hV.mono HB.out.size)
  obtain ⟨V, o, hV, ho, hG⟩ := ref_new W0 X (Below.refl _ _) (Nat.le_refl _)
  have G1 := Lib.hid hG
  have HV := Lib.hid hV
  have Ho := Lib.hid ho
  clear h hB hW0 hP hp hr hl hs hWb hpp hX hV ho hG
  go_enter Try.func18, Try.ntmps18
  go_upto_region 1 with fail
  change Code.wp _ _ _ _ ((w.alloc (refO W (.slice A nn c))).alloc zeroR)
  rw [← HW.out, ← HP.out]
  clear HW
  go_wp2_with fail
  refine (show Calls _ _ _ _ _ from HWd.out).mono ?_
  rintro e w1 ⟨rfl, rfl⟩
  go_upto_region 2 with fail
  change Code.wp _ _ _ _ (W0.alloc (refO X (.slice none 0 0)))
  rw [HV.out, Ho.out]
  clear HV Ho HWd
  go_wp2
  go_loopw [6] (fun i wr => ∃ (k : Nat) (vv : Value), k ≤ X ∧ i = .int .i64 k ∧ Hid (RefG W0.heap.size W0 o X vv ((List.range k).filter p) wr)) (fun i _ => X - (RowKit.intOf i).toNat)
  case atStart => exact ⟨0, _, Nat.zero_le _, rfl, G1⟩
  case round =>
    obtain ⟨k, vv, hk, rfl, HG⟩ := hrel
    rename_i wr
    have q0 := HG.out.cell0
    have q1 := HG.out.cell1
    have qf := HG.out.free
    have b0 := cell_of (HQ.out wr HG.out.below).1 0
    have b1 := cell_of (HQ.out wr HG.out.below).1 1
    have z1 : IntKind.i64.wrap ((k : Int) + 1) = (k : Int) + 1 := IntWalk.i64_in _ (by have := HXb.out; omega)
    by_cases hlt : k < X
    · have glt : decide ((k : Int) < (X : Int)) = true := by simp; omega
      have HLn : Hid (((List.range k).filter p).length + 1 ≤ 1000000) := Lib.hid (by have h1 := List.length_filter_le p (List.range k); rw [List.length_range] at h1; have := HXb.out; omega)
      by_cases hkW : k < W
      · have gA : decide ((k : Int) < (W : Int)) = true := by simp; omega
        have gB : decide ((k : Int) ≥ (W : Int)) = false := by simp; omega
        have HIk := Lib.hid (HIs.out wr (k : Int) HG.out.below)
        have HPk : Hid (p k = isL l (k : Int)) := Lib.hid (by rw [HPp.out]; unfold sizeP; rw [decide_eq_true hkW, decide_eq_false (by omega)]; simp)
        go_wp2_with fail
        refine (show Calls _ _ _ _ _ from HIk.out).mono ?_
        rintro e w2 ⟨rfl, j2⟩
        have G1' := Lib.hid (HG.out.old j2)
        clear j2 HIk q0 q1 qf b0 b1
        have q0 := G1'.out.cell0
        have q1 := G1'.out.cell1
        have qf := G1'.out.free
        have b0 := cell_of (HQ.out w2 G1'.out.below).1 0
        have b1 := cell_of (HQ.out w2 G1'.out.below).1 1
        cases hq : isL l (k : Int) with
        | true =>
          have HE : Hid ((List.range (k + 1)).filter p = (List.range k).filter p ++ [k]) := Lib.hid (by rw [filter_step, HPk.out, hq]; rfl)
          clear hq
          have HGA := Lib.hid (G1'.out.alloc (.cells #[.int .i64 (k : Int)] 3))
          have HO := Lib.hid (one_int w2 k)
          go_wp2_with (at_builtin; refine append_ints _ rfl (.tmp 41) (.tmp 43) rfl W0.heap.size _ _ ((List.range k).filter p) [k] rfl HGA.out.own rfl HO.out (by simp) (by simpa using HLn.out) HGA.out.below.size ?_)
          intro g cc w3 ho2 hg2
          obtain ⟨hb2, hx2⟩ := HGA.out.grown hg2
          have G2 := Lib.hid (RefG.stored hb2 hx2 ho2 HGA.out.ho HGA.out.hs)
          have q1 := cell_of hx2 1
          have qf := free_of hx2
          clear ho2 hg2 hb2 hx2 HGA HO HLn
          go_wp2
          go_roundw
          case rel => exact ⟨k + 1, _, by omega, by go_num, Lib.hid (by rw [HE.out]; exact G2.out)⟩
          case measure => simp [RowKit.intOf] <;> omega
        | false =>
          have HE : Hid ((List.range (k + 1)).filter p = (List.range k).filter p) := Lib.hid (by rw [filter_step, HPk.out, hq]; simp)
          clear hq
          go_wp2
          go_roundw
          case rel => exact ⟨k + 1, vv, by omega, by go_num, Lib.hid (by rw [HE.out]; exact G1'.out)⟩
          case measure => simp [RowKit.intOf] <;> omega
      · have gA : decide ((k : Int) < (W : Int)) = false := by simp; omega
        have gB : decide ((k : Int) ≥ (W : Int)) = true := by simp; omega
        have HPk : Hid (p k = baseB k) := Lib.hid (by rw [HPp.out]; unfold sizeP; rw [decide_eq_false hkW, decide_eq_true (by omega)]; simp)
        by_cases hk0 : k = 0
        · have HE : Hid ((List.range (k + 1)).filter p = (List.range k).filter p) := Lib.hid (by rw [filter_step, HPk.out, hk0]; simp [baseB])
          have gC : decide ((k : Int) > 0) = false := by simp; omega
          have hk1 : ¬ 0 < k := by omega
          clear hk0
          go_wp2
          go_roundw
          case rel => exact ⟨k + 1, vv, by omega, by go_num, Lib.hid (by rw [HE.out]; exact HG.out)⟩
          case measure => simp [RowKit.intOf] <;> omega
        · have gC : decide ((k : Int) > 0) = true := by simp; omega
          have hk1 : 0 < k := by omega
          obtain ⟨m1, m2⟩ := mod8 k
          have hbk : baseB k = (k % 8 == 0) := by unfold baseB; rw [decide_eq_true (by omega)]; rfl
          cases hm : (k % 8 == 0) with
          | true =>
            rw [hm] at m1 m2 hbk
            have HE : Hid ((List.range (k + 1)).filter p = (List.range k).filter p ++ [k]) := Lib.hid (by rw [filter_step, HPk.out, hbk]; rfl)
            clear hm hbk
            have HGA := Lib.hid (HG.out.alloc (.cells #[.int .i64 (k : Int)] 3))
            have HO := Lib.hid (one_int wr k)
            go_wp2_with (at_builtin; refine append_ints _ rfl (.tmp 41) (.tmp 43) rfl W0.heap.size _ _ ((List.range k).filter p) [k] rfl HGA.out.own rfl HO.out (by simp) (by simpa using HLn.out) HGA.out.below.size ?_)
            intro g cc w3 ho2 hg2
            obtain ⟨hb2, hx2⟩ := HGA.out.grown hg2
            have G2 := Lib.hid (RefG.stored hb2 hx2 ho2 HGA.out.ho HGA.out.hs)
            have q1 := cell_of hx2 1
            have qf := free_of hx2
            clear ho2 hg2 hb2 hx2 HGA HO HLn
            go_wp2
            go_roundw
            case rel => exact ⟨k + 1, _, by omega, by go_num, Lib.hid (by rw [HE.out]; exact G2.out)⟩
            case measure => simp [RowKit.intOf] <;> omega
          | false =>
            rw [hm] at m1 m2 hbk
            have HE : Hid ((List.range (k + 1)).filter p = (List.range k).filter p) := Lib.hid (by rw [filter_step, HPk.out, hbk]; simp)
            clear hm hbk
            go_wp2
            go_roundw
            case rel => exact ⟨k + 1, vv, by omega, by go_num, Lib.hid (by rw [HE.out]; exact HG.out)⟩
            case measure => simp [RowKit.intOf] <;> omega
    · have hkw : k = X := by omega
      have glt : decide ((k : Int) < (X : Int)) = false := by simp; omega
      have e : (List.range k).filter p = (List.range X).filter p := by rw [hkw]
      have HF : Hid (RefG W0.heap.size W0 o X vv ((List.range X).filter p) wr) := Lib.hid (by rw [← e]; exact HG.out)
      clear e
      rcases ownI_form HF.out.own with ⟨e, _⟩ | ⟨g, cc, e⟩
      all_goals
        subst e
        have r0 := cell_of (HQ.out wr HG.out.below).2 0
        have r1 := cell_of (HQ.out wr HG.out.below).2 1
        have fr := fun i => free_of (HQ.out wr HG.out.below).2 i
        clear HG
        go_wp2
        change bodyPost _ _ _ _ _ (setR wr (P + 1) X _)
        exact bodyPost_ret (results_one Try.results18 _ _ (P + 1) X _ rfl (setR_at (HQ.out wr HF.out.below).2 X _)) rfl ⟨_, rfl, HF.out.result (by have := HRs.out; omega) X _, setR_below (HJ.out wr HF.out.below) (by have := HP.out; omega) X _, fun b hb => ⟨by have := (ownI_ge HF.out.own b hb).1; have := HRs.out; have := HP.out; omega, by rw [setR_size]; exact (ownI_ge HF.out.own b hb).2.1⟩⟩

/-! ### New -/
theorem base_steps (j d : Nat) (h : d ≤ 8) : (List.range (8 * j + 8 + d)).filter baseB = (List.range (8 * j + 8)).filter baseB ++ if 0 < d then [8 * j + 8] else [] := by
  induction d with
  | zero => simp
  | succ d ih =>
    have hd := ih (by omega)
    rw [← Nat.add_assoc, filter_step, hd]
    by_cases h0 : d = 0
    · subst h0
      have h1 : (8 * j + 8) % 8 = 0 := by omega
      have h2 : baseB (8 * j + 8) = true := by unfold baseB; rw [h1, decide_eq_true (by omega)]; rfl
      simp [h2]
    · have h1 : ((8 * j + 8 + d) % 8 == 0) = false := by
        have : (8 * j + 8 + d) % 8 ≠ 0 := by omega
        simpa using this
      have h2 : baseB (8 * j + 8 + d) = false := by unfold baseB; rw [h1]; simp
      have h3 : 0 < d := by omega
      simp [h2, h3]
theorem base_between {j y : Nat} (h1 : 8 * j + 8 < y) (h2 : y ≤ 8 * j + 16) : (List.range y).filter baseB = (List.range (8 * j + 8)).filter baseB ++ [8 * j + 8] := by
  have := base_steps j (y - (8 * j + 8)) (by omega)
  rw [show 8 * j + 8 + (y - (8 * j + 8)) = y by omega, if_pos (by omega)] at this
  exact this
theorem base_small {y : Nat} (h : y ≤ 8) : (List.range y).filter baseB = [] := by
  refine List.filter_eq_nil_iff.2 fun k hk => ?_
  rw [List.mem_range] at hk
  unfold baseB
  simp
  omega

set_option maxRecDepth 100000 in
set_option maxHeartbeats 4000000 in
theorem rnew_any (x : Int) (w : World) : Calls Try.prog 11 #[.int .i64 x] w (RefOut w (widthV x) ((List.range (widthV x)).filter baseB)) := by
  obtain ⟨W0, hW0⟩ : ∃ W0, W0 = w.alloc zeroR := ⟨_, rfl⟩
  have hr : W0.heap[w.heap.size]? = some zeroR := by rw [hW0]; exact heap_new w zeroR
  have hs : W0.heap.size = w.heap.size + 1 := by rw [hW0]; simp
  have hB : Below w.heap.size w W0 := by rw [hW0]; exact (Below.refl _ _).alloc (Nat.le_refl _) _
  have HWd := Lib.hid (rwidth_any x W0)
  obtain ⟨X, hX⟩ : ∃ X, X = widthV x := ⟨_, rfl⟩
  rw [← hX] at HWd ⊢
  have HXb : Hid (1 ≤ X ∧ X ≤ 400) := Lib.hid (by rw [hX]; exact width_in x)
  have HB := Lib.hid hB
  have HW := Lib.hid hW0
  obtain ⟨P, hP⟩ : ∃ P, P = w.heap.size := ⟨_, rfl⟩
  rw [← hP] at hr hs
  have HP := Lib.hid hP
  have HRs := Lib.hid hs
  have HQ : Hid (∀ V, Below W0.heap.size W0 V → V.heap[P]? = some zeroR) := Lib.hid fun V hV => (hV.block P (by omega)).trans hr
  have HJ : Hid (∀ V, Below W0.heap.size W0 V → Below w.heap.size w V) := Lib.hid fun V hV => HB.out.trans (hV.mono HB.out.size)
  obtain ⟨V, o, hV, ho, hG⟩ := ref_new W0 X (Below.refl _ _) (Nat.le_refl _)
  have G1 := Lib.hid hG
  have HV := Lib.hid hV
  have Ho := Lib.hid ho
  clear hB hW0 hP hr hs hX hV ho hG
  go_enter Try.func11, Try.ntmps11
  go_upto_region 1 with fail
  change Code.wp _ _ _ _ (w.alloc zeroR)
  rw [← HW.out, ← HP.out]
  clear HW
  go_wp2_with fail
  refine (show Calls _ _ _ _ _ from HWd.out).mono ?_
  rintro e w1 ⟨rfl, rfl⟩
  go_upto_region 2 with fail
  change Code.wp _ _ _ _ (W0.alloc (refO X (.slice none 0 0)))
  rw [HV.out, Ho.out]
  clear HV Ho HWd
  go_wp2
  go_loopw [4] (fun i wr => ∃ (j y : Nat) (vv : Value), i = .int .i64 (y : Int) ∧ Hid (y = 8 * j + 8) ∧ Hid (j = 0 ∨ y < X + 8) ∧ Hid (RefG W0.heap.size W0 o X vv ((List.range y).filter baseB) wr)) (fun i _ => X + 8 - (RowKit.intOf i).toNat)
  case atStart => exact ⟨0, 8, _, rfl, Lib.hid rfl, Lib.hid (Or.inl rfl), Lib.hid (by rw [base_small (Nat.le_refl _)]; exact G1.out)⟩
  case round =>
    obtain ⟨j, y, vv, rfl, HY, HYb, HG⟩ := hrel
    rename_i wr
    have q0 := HG.out.cell0
    have q1 := HG.out.cell1
    have qf := HG.out.free
    by_cases hlt : y < X
    · have glt : decide ((y : Int) < (X : Int)) = true := by simp; omega
      have z1 : IntKind.i64.wrap ((y : Int) + 8) = ((y + 8 : Nat) : Int) := by rw [IntWalk.i64_in _ (by have := HXb.out; omega)]; omega
      have HE : Hid ((List.range (y + 8)).filter baseB = (List.range y).filter baseB ++ [y]) := Lib.hid (by
        rw [HY.out, base_between (j := j) (by omega) (by omega)])
      have HLn : Hid (((List.range y).filter baseB).length + 1 ≤ 1000000) := Lib.hid (by have h1 := List.length_filter_le baseB (List.range y); rw [List.length_range] at h1; have := HXb.out; omega)
      have HGA := Lib.hid (HG.out.alloc (.cells #[.int .i64 (y : Int)] 3))
      have HO := Lib.hid (one_int wr y)
      go_wp2_with (at_builtin; refine append_ints _ rfl (.tmp 15) (.tmp 17) rfl W0.heap.size _ _ ((List.range y).filter baseB) [y] rfl HGA.out.own rfl HO.out (by simp) (by simpa using HLn.out) HGA.out.below.size ?_)
      intro g cc w3 ho2 hg2
      obtain ⟨hb2, hx2⟩ := HGA.out.grown hg2
      have G2 := Lib.hid (RefG.stored hb2 hx2 ho2 HGA.out.ho HGA.out.hs)
      have q1 := cell_of hx2 1
      have qf := free_of hx2
      clear ho2 hg2 hb2 hx2 HGA HO HLn
      go_wp2
      go_roundw
      case rel => exact ⟨j + 1, y + 8, _, by go_num, Lib.hid (by have := HY.out; omega), Lib.hid (Or.inr (by omega)), Lib.hid (by rw [HE.out]; exact G2.out)⟩
      case measure => simp [RowKit.intOf] <;> omega
    · have glt : decide ((y : Int) < (X : Int)) = false := by simp; omega
      have e : (List.range y).filter baseB = (List.range X).filter baseB := by
        have h1 := HY.out
        have h2 := HYb.out
        rcases h2 with h0 | h0
        · rw [base_small (by omega), base_small (by omega)]
        · by_cases hj : j = 0
          · rw [base_small (by omega), base_small (by omega)]
          · obtain ⟨i, rfl⟩ : ∃ i, j = i + 1 := ⟨j - 1, by omega⟩
            rw [h1, base_between (j := i) (y := 8 * (i + 1) + 8) (by omega) (by omega), base_between (j := i) (y := X) (by omega) (by omega)]
      have HF : Hid (RefG W0.heap.size W0 o X vv ((List.range X).filter baseB) wr) := Lib.hid (by rw [← e]; exact HG.out)
      clear e
      rcases ownI_form HF.out.own with ⟨e, _⟩ | ⟨g, cc, e⟩
      all_goals
        subst e
        have r0 := cell_of (HQ.out wr HG.out.below) 0
        have r1 := cell_of (HQ.out wr HG.out.below) 1
        have fr := fun i => free_of (HQ.out wr HG.out.below) i
        clear HG
        go_wp2
        change bodyPost _ _ _ _ _ (setR wr P X _)
        exact bodyPost_ret (results_one Try.results11 _ _ P X _ rfl (setR_at (HQ.out wr HF.out.below) X _)) rfl ⟨_, rfl, HF.out.result (by have := HRs.out; omega) X _, setR_below (HJ.out wr HF.out.below) (by have := HP.out; omega) X _, fun b hb => ⟨by have := (ownI_ge HF.out.own b hb).1; have := HRs.out; have := HP.out; omega, by rw [setR_size]; exact (ownI_ge HF.out.own b hb).2.1⟩⟩
end Go.Proofs.Ytfkiihddcinckaa.Tb
