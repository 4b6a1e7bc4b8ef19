/- Layer 12: the document's stops: Clear. -/
import Derived.Test.YtfkiihddcinckaaTbF
set_option linter.unusedVariables false
namespace Go.Proofs.Ytfkiihddcinckaa.Tb
open Go.RowKit

set_option maxRecDepth 100000 in
set_option maxHeartbeats 2000000 in
theorem rclr_no (W : Nat) (v : Value) (l : List Nat) (x : Int) (w : World) (h : LiesI w v l) (hl : l.length ≤ 100000) (hok : isL l x = false) : Calls Try.prog 15 #[refV W v, .int .i64 x] w (RefPost v w W l false) := by
  obtain ⟨A, c, e, -⟩ := id h
  obtain ⟨nn, hnn⟩ : ∃ nn, nn = l.length := ⟨_, rfl⟩
  rw [← hnn] at e
  clear hnn
  subst e
  obtain ⟨W0, hW0, hB, hs, hp, hr⟩ := box_two w W (.slice A nn c)
  have HL := Lib.hid h
  have HI : Hid (Calls Try.prog 39 #[refV W (.slice A nn c), .int .i64 x] W0 fun e w' => e = .returned (.bool false) ∧ Below W0.heap.size W0 w') := Lib.hid (by
    have := ris_any W _ l x W0 (h.below hB) hl
    rwa [hok] at this)
  have HB := Lib.hid hB
  have HW := Lib.hid hW0
  obtain ⟨P, hP⟩ : ∃ P, P = w.heap.size := ⟨_, rfl⟩
  rw [← hP] at hp hr hs
  have HP := Lib.hid hP
  have HRs := Lib.hid hs
  have HQ : Hid (∀ V, Below W0.heap.size W0 V → V.heap[P]? = some (refO W (.slice A nn c)) ∧ V.heap[P + 1]? = some zeroR) := Lib.hid fun V hV => ⟨(hV.block P (by omega)).trans hp, (hV.block (P + 1) (by omega)).trans hr⟩
  clear h hok hB hW0 hP hp hr hl hs
  have b0 := cell_of (HQ.out W0 (Below.refl _ _)).1 0
  have b1 := cell_of (HQ.out W0 (Below.refl _ _)).1 1
  go_enter Try.func15, Try.ntmps15
  go_upto_region 1 with fail
  change Code.wp _ _ _ _ ((w.alloc (refO W (.slice A nn c))).alloc zeroR)
  rw [← HW.out, ← HP.out]
  clear HW
  go_wp2_with fail
  refine (show Calls _ _ _ _ _ from HI.out).mono ?_
  rintro e w1 ⟨rfl, j1⟩
  have J1 := Lib.hid j1
  clear b0 b1 j1
  have HF2 : Hid (Below w.heap.size w (setR w1 (P + 1) W (.slice A nn c))) := Lib.hid (setR_below (HB.out.trans (J1.out.mono HB.out.size)) (by have := HP.out; omega) W _)
  have b0 := cell_of (HQ.out w1 J1.out).1 0
  have b1 := cell_of (HQ.out w1 J1.out).1 1
  have r0 := cell_of (HQ.out w1 J1.out).2 0
  have r1 := cell_of (HQ.out w1 J1.out).2 1
  have fr := fun i => free_of (HQ.out w1 J1.out).2 i
  go_wp2
  change bodyPost _ _ _ _ _ (setR w1 (P + 1) W (.slice A nn c))
  exact bodyPost_ret (results_two Try.results15 _ _ (P + 1) W _ _ rfl rfl (setR_at (HQ.out w1 J1.out).2 W _)) rfl ⟨_, rfl, HL.out.below HF2.out, HF2.out, Or.inl rfl⟩

def clrP (x : Int) (k : Nat) : Bool := decide ((k : Int) ≠ x)
theorem take_step {l : List Nat} {k : Nat} (h : k < l.length) (p : Nat → Bool) : (l.take (k + 1)).filter p = (l.take k).filter p ++ if p (l.getD k 0) then [l.getD k 0] else [] := by
  rw [List.take_add_one, List.getElem?_eq_getElem h, List.getD_eq_getElem?_getD, List.getElem?_eq_getElem h, List.filter_append]
  congr 1
  simp only [Option.toList, Option.getD]
  cases hp : p l[k] <;> simp [hp]

set_option maxRecDepth 100000 in
set_option maxHeartbeats 4000000 in
theorem rclr_yes (W : Nat) (v : Value) (l : List Nat) (x : Int) (w : World) (h : LiesI w v l) (hl : l.length ≤ 100000) (hok : isL l x = true) : Calls Try.prog 15 #[refV W v, .int .i64 x] w (RefPost v w W (l.filter (clrP x)) true) := by
  obtain ⟨A, c, e, -, -, hcell⟩ := id h
  obtain ⟨nn, hnn⟩ : ∃ nn, nn = l.length := ⟨_, rfl⟩
  rw [← hnn] at e
  subst e
  obtain ⟨W0, hW0, hB, hs, hp, hr⟩ := box_two w W (.slice A nn c)
  have HI : Hid (Calls Try.prog 39 #[refV W (.slice A nn c), .int .i64 x] W0 fun e w' => e = .returned (.bool true) ∧ Below W0.heap.size W0 w') := Lib.hid (by
    have := ris_any W _ l x W0 (h.below hB) hl
    rwa [hok] at this)
  have HC : Hid (∀ V k, Below W0.heap.size W0 V → k < nn → ∃ b, A = some ⟨b, 0, none⟩ ∧ V.cell? ⟨b, k, none⟩ = some (.int .i64 (l.getD k 0 : Nat))) := Lib.hid fun V k hV hk => by
    obtain ⟨b, e, hb, hc⟩ := hcell (by omega)
    exact ⟨b, e, (hV.cell (Nat.lt_of_lt_of_le hb hB.size)).trans ((hB.cell hb).trans (hc k (by omega)))⟩
  have HB := Lib.hid hB
  have HW := Lib.hid hW0
  obtain ⟨P, hP⟩ : ∃ P, P = w.heap.size := ⟨_, rfl⟩
  rw [← hP] at hp hr hs
  have HP := Lib.hid hP
  have HRs := Lib.hid hs
  have HQ : Hid (∀ V, Below W0.heap.size W0 V → V.heap[P]? = some (refO W (.slice A nn c)) ∧ V.heap[P + 1]? = some zeroR) := Lib.hid fun V hV => ⟨(hV.block P (by omega)).trans hp, (hV.block (P + 1) (by omega)).trans hr⟩
  have HN := Lib.hid hnn
  have HNb : Hid (nn ≤ 100000) := Lib.hid (by omega)
  obtain ⟨p, hpp⟩ : ∃ p, p = clrP x := ⟨_, rfl⟩
  rw [← hpp]
  have HPp := Lib.hid hpp
  have HJ : Hid (∀ V, Below W0.heap.size W0 V → Below w.heap.size w V) := Lib.hid fun V hV => HB.out.trans (hV.mono HB.out.size)
  clear h hok hB hW0 hP hp hr hl hs hcell hnn hpp
  have b0 := cell_of (HQ.out W0 (Below.refl _ _)).1 0
  have b1 := cell_of (HQ.out W0 (Below.refl _ _)).1 1
  go_enter Try.func15, Try.ntmps15
  go_upto_region 1 with fail
  change Code.wp _ _ _ _ ((w.alloc (refO W (.slice A nn c))).alloc zeroR)
  rw [← HW.out, ← HP.out]
  clear HW
  go_wp2_with fail
  refine (show Calls _ _ _ _ _ from HI.out).mono ?_
  rintro e w1 ⟨rfl, j1⟩
  obtain ⟨V, o, hV, ho, hG⟩ := ref_new w1 W j1 (Nat.le_refl _)
  have J1 := Lib.hid j1
  have G1 := Lib.hid hG
  have HV := Lib.hid hV
  have Ho := Lib.hid ho
  clear b0 b1 HI hV ho hG j1
  have b0 := cell_of (HQ.out w1 J1.out).1 0
  have b1 := cell_of (HQ.out w1 J1.out).1 1
  go_upto_region 4 with fail
  change Code.wp _ _ _ _ (w1.alloc (refO W (.slice none 0 0)))
  rw [HV.out, Ho.out]
  clear b0 b1 HV Ho
  go_wp2
  go_loopw [7] (fun i wr => ∃ (k : Nat) (vv : Value), k ≤ nn ∧ i = .int .i64 k ∧ Hid (RefG W0.heap.size W0 o W vv ((l.take k).filter p) wr)) (fun i _ => nn - (RowKit.intOf i).toNat)
  case atStart => exact ⟨0, _, Nat.zero_le _, rfl, G1⟩
  case round =>
    obtain ⟨k, vv, hk, rfl, HG⟩ := hrel
    have q0 := HG.out.cell0
    have q1 := HG.out.cell1
    have qf := HG.out.free
    have b0 := cell_of (HQ.out wr HG.out.below).1 0
    have b1 := cell_of (HQ.out wr HG.out.below).1 1
    have z1 : IntKind.i64.wrap ((k : Int) + 1) = (k : Int) + 1 := IntWalk.i64_in _ (by have := HNb.out; omega)
    by_cases hlt : k < nn
    · have glt : decide ((k : Int) < (nn : Int)) = true := by simp; omega
      obtain ⟨bb, rfl, hc⟩ := HC.out wr k HG.out.below hlt
      have i1 := idx_int bb nn c k hlt
      have HS := Lib.hid (take_step (l := l) (k := k) (by rw [← HN.out]; exact hlt) p)
      have HLn : Hid (((l.take k).filter p).length + 1 ≤ 1000000) := Lib.hid (by have h1 := List.length_filter_le p (l.take k); rw [List.length_take] at h1; have := HNb.out; omega)
      have HCd : Hid (wr.drew.cell? ⟨bb, k, none⟩ = some (.int .i64 (l.getD k 0 : Nat))) := Lib.hid (by
        obtain ⟨b', e', h'⟩ := HC.out wr.drew k (HG.out.old (below_drew (Below.refl _ _) 1)).below hlt
        cases e'
        exact h')
      have HCa : Hid (∀ z : Nat, (wr.alloc (.cells #[.int .i64 (z : Int)] 3)).drew.cell? ⟨bb, k, none⟩ = some (.int .i64 (l.getD k 0 : Nat))) := Lib.hid fun z => by
        obtain ⟨b', e', h'⟩ := HC.out _ k ((HG.out.alloc (.cells #[.int .i64 (z : Int)] 3)).old (below_drew (Below.refl _ _) 1)).below hlt
        cases e'
        exact h'
      generalize l.getD k 0 = y at *
      by_cases hy : (y : Int) = x
      · have gx : ((y : Int) != x) = false := by simpa using hy
        have HE : Hid ((l.take (k + 1)).filter p = (l.take k).filter p) := Lib.hid (by rw [HS.out, HPp.out]; unfold clrP; rw [decide_eq_false (by simpa using hy)]; simp)
        clear hy HS
        go_wp2
        go_roundw
        case rel => exact ⟨k + 1, vv, by omega, by go_num, Lib.hid (by rw [HE.out]; exact HG.out)⟩
        case measure => simp [RowKit.intOf] <;> omega
      · have gx : ((y : Int) != x) = true := by simpa using hy
        have HE : Hid ((l.take (k + 1)).filter p = (l.take k).filter p ++ [y]) := Lib.hid (by rw [HS.out, HPp.out]; unfold clrP; rw [decide_eq_true (by simpa using hy)]; rfl)
        clear hy HS
        have HGd : Hid (RefG W0.heap.size W0 o W vv ((l.take k).filter p) wr.drew) := Lib.hid (HG.out.old (below_drew (Below.refl _ _) 1))
        have HGA : Hid (RefG W0.heap.size W0 o W vv ((l.take k).filter p) (wr.alloc (.cells #[.int .i64 (y : Int)] 3)).drew) := Lib.hid ((HG.out.alloc _).old (below_drew (Below.refl _ _) 1))
        have HO : Hid (LiesI (wr.alloc (.cells #[.int .i64 (y : Int)] 3)).drew (.slice (some ⟨wr.heap.size, 0, none⟩) 1 1) [y]) := Lib.hid ((one_int wr y).below (below_drew (Below.refl _ _) 1))
        have HQd := HQ.out wr.drew HGd.out.below
        have HQa := HQ.out _ HGA.out.below
        have d0 := HGd.out.cell0
        have d1 := HGd.out.cell1
        have a0 := HGA.out.cell0
        have a1 := HGA.out.cell1
        have e0 := cell_of HQd.1 0
        have e1 := cell_of HQd.1 1
        have ea0 := cell_of HQa.1 0
        have ea1 := cell_of HQa.1 1
        have dc := HCd.out
        have dca : (wr.alloc (.cells #[.int .i64 (y : Int)] 3)).drew.cell? ⟨bb, k, none⟩ = some (.int .i64 (y : Int)) := HCa.out y
        clear HQd HQa
        go_upto_region 8 with fail
        clear q0 q1 qf b0 b1 hc
        go_region_law (refine step_ints _ rfl (.tmp 31) (.tmp 37) rfl W0.heap.size _ _ ((l.take k).filter p) [y] (by simp [Act.eval]) HGA.out.own (by simp [Act.eval]) HO.out (by simp) (by simpa using HLn.out) HGA.out.below.size ?_; intro g cc w2 ho2 hg2; obtain ⟨hb2, hx2⟩ := HGA.out.grown hg2; have G2 := Lib.hid (RefG.stored hb2 hx2 ho2 HGA.out.ho HGA.out.hs); have q1 := cell_of hx2 1; have qf := free_of hx2; rw [List.length_append, List.length_singleton] at G2; clear ho2 hg2 hb2 hx2)
        all_goals
          go_wp2
          go_roundw
          case rel => exact ⟨k + 1, _, by omega, by go_num, Lib.hid (by rw [HE.out]; exact G2.out)⟩
          case measure => simp [RowKit.intOf] <;> omega
    · have hkw : k = nn := by omega
      have glt : decide ((k : Int) < (nn : Int)) = false := by simp; omega
      have e : (l.take k).filter p = l.filter p := by rw [hkw, HN.out, List.take_of_length_le (Nat.le_refl _)]
      have HF : Hid (RefG W0.heap.size W0 o W vv (l.filter p) wr) := Lib.hid (by rw [← e]; exact HG.out)
      clear e
      rcases ownI_form HF.out.own with ⟨e, _⟩ | ⟨g, cc, e⟩
      all_goals
        subst e
        have r0 := cell_of (HQ.out wr HG.out.below).2 0
        have r1 := cell_of (HQ.out wr HG.out.below).2 1
        have fr := fun i => free_of (HQ.out wr HG.out.below).2 i
        clear HG
        go_wp2
        change bodyPost _ _ _ _ _ (setR wr (P + 1) W _)
        exact bodyPost_ret (results_two Try.results15 _ _ (P + 1) W _ _ rfl rfl (setR_at (HQ.out wr HF.out.below).2 W _)) rfl ⟨_, rfl, HF.out.result (by have := HRs.out; omega) W _, setR_below (HJ.out wr HF.out.below) (by have := HP.out; omega) W _, Or.inr fun b hb => ⟨by have := (ownI_ge HF.out.own b hb).1; have := HRs.out; have := HP.out; omega, by rw [setR_size]; exact (ownI_ge HF.out.own b hb).2.1⟩⟩
end Go.Proofs.Ytfkiihddcinckaa.Tb
