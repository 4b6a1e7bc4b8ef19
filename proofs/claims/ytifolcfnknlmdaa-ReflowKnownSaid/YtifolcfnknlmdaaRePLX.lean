/- Layer 15: the program's Place. Layer 15: the program's Place, walked. Layer 15: the program's Place where there is none. -/
import Derived.Test.YtifolcfnknlmdaaRePi
/-! ## Layer 15: the program's Place. -/
set_option linter.unusedVariables false
namespace Go.Proofs.Ytifolcfnknlmdaa.Re
open Go.RowKit Go.Proofs.Ytifolcfnknlmdaa.Rw

/-! ### plain -/
/-- A place, paragraph by paragraph. -/
def placeG (W x : Nat) (down : Nat) : Nat → List (List LnC) → Nat × Nat
  | _, [] => (0, 0)
  | y, g :: gs => if g.length ≤ y then placeG W x (down + (layG W g).length) (y - g.length) gs else ((spot W (parG g) (behindV g x y)).1, down + (spot W (parG g) (behindV g x y)).2)
theorem ahead_all : ∀ (acc t : List LnC), aheadV (acc ++ t) acc.length = (allC acc).length
  | [], t => rfl
  | a :: acc, t => by
    have e : allC (a :: acc) = cnt a ++ allC acc := rfl
    rw [List.cons_append, List.length_cons, ahead_cons, ahead_all acc t, e, List.length_append]
theorem groups_hd : ∀ (l acc : List LnC) (a : LnC) (r : List LnC), l = a :: r → ∃ t rest, groupsA acc l = (acc ++ a :: t) :: rest ∧ parG (acc ++ a :: t) = paraHd (allC acc) l ∧ ((t = []) ↔ ¬ (a.joined = true ∧ r ≠ []))
  | [], _, _, _, h => by cases h
  | [b], acc, a, r, h => by
    cases h
    exact ⟨[], [], rfl, by unfold parG; rw [allC_snoc]; rfl, by simp⟩
  | b :: c :: l, acc, a, r, h => by
    obtain ⟨rfl, rfl⟩ := List.cons.inj h
    rw [groupsA, paraHd]
    by_cases hj : b.joined = true
    · rw [if_pos hj, if_pos hj]
      obtain ⟨t, rest, h1, h2, h3⟩ := groups_hd (c :: l) (acc ++ [b]) c l rfl
      refine ⟨c :: t, rest, ?_, ?_, ?_⟩
      · rw [h1, List.append_assoc]; rfl
      · rw [← allC_snoc, ← h2, List.append_assoc]; rfl
      · simp [hj]
    · rw [if_neg hj, if_neg hj]
      exact ⟨[], _, rfl, by unfold parG; rw [allC_snoc], by simp [hj]⟩
theorem place_groups (W x : Nat) : ∀ (l acc : List LnC) (down y : Nat), y < l.length → placeA W x (allC acc) down y l = placeG W x down (acc.length + y) (groupsA acc l)
  | [], _, _, _, h => by simp at h
  | a :: r, acc, down, 0, _ => by
    obtain ⟨t, rest, h1, h2, h3⟩ := groups_hd (a :: r) acc a r rfl
    have hlen : ¬ (acc ++ a :: t).length ≤ acc.length + 0 := by rw [List.length_append, List.length_cons]; omega
    rw [h1, placeG, if_neg hlen, placeA, h2, Nat.add_zero]
    have hb : behindV (acc ++ a :: t) x acc.length = (allC acc).length + (if a.joined = true ∧ r ≠ [] ∧ (cnt a).length < x then (cnt a).length else x) := by
      unfold behindV
      rw [ahead_all]
      have hg : (acc ++ a :: t).getD acc.length noLn = a := by rw [List.getD_eq_getElem?_getD, List.getElem?_append_right (Nat.le_refl _), Nat.sub_self]; rfl
      rw [hg]
      by_cases hc : a.joined = true ∧ r ≠ []
      · have ht : t ≠ [] := fun e => (h3.1 e) hc
        have htl : 0 < t.length := List.length_pos_iff.2 ht
        rw [if_pos (by rw [List.length_append, List.length_cons]; omega), cntN_len]
        by_cases hx : cntN a < x
        · rw [if_pos ⟨hc.1, hc.2, hx⟩, Nat.min_eq_right (by omega)]
        · rw [if_neg (fun h => hx h.2.2), Nat.min_eq_left (by omega)]
      · have ht : t = [] := h3.2 hc
        subst ht
        rw [if_neg (by rw [List.length_append, List.length_singleton]; omega), if_neg (fun h => hc ⟨h.1, h.2.1⟩)]
    rw [hb]
  | [a], acc, down, y + 1, h => by simp at h
  | a :: b :: r, acc, down, y + 1, h => by
    rw [placeA, groupsA]
    by_cases hj : a.joined = true
    · rw [if_pos hj, if_pos hj, ← allC_snoc, place_groups W x (b :: r) (acc ++ [a]) down y (by simpa using h), List.length_append, List.length_singleton, Nat.add_assoc, Nat.add_comm 1 y]
    · have := place_groups W x (b :: r) [] (down + (layG W (acc ++ [a])).length) y (by simpa using h)
      rw [if_neg hj, if_neg hj, placeG, if_pos (by rw [List.length_append, List.length_singleton]; omega), ← allC_snoc]
      rw [show acc.length + (y + 1) - (acc ++ [a]).length = ([] : List LnC).length + y by rw [List.length_append, List.length_singleton, List.length_nil]; omega, ← this]
      rfl
def lenG (gs : List (List LnC)) : Nat := (gs.map List.length).sum
theorem lenG_cons (g : List LnC) (gs : List (List LnC)) : lenG (g :: gs) = g.length + lenG gs := by simp [lenG]
theorem groups_len : ∀ (l acc : List LnC), l ≠ [] → lenG (groupsA acc l) = acc.length + l.length
  | [], _, h => absurd rfl h
  | [a], acc, _ => by simp [groupsA, lenG]
  | a :: b :: r, acc, _ => by
    rw [groupsA]
    split
    · rw [groups_len (b :: r) _ (by simp)]
      simp
      omega
    · rw [lenG_cons, groups_len (b :: r) [] (by simp)]
      simp
      omega
theorem place_of (W x : Nat) (l : List LnC) (y : Nat) (h : y < l.length) : placeV l W x y = placeG W x 0 y (groups l) := by
  have := place_groups W x l [] 0 y h
  rw [List.length_nil, Nat.zero_add] at this
  exact this
theorem spot_cap (W : Nat) (p : List Ce) (g : List LnC) (x y : Nat) : spot W p (behindV g (min x (p.length + W)) y) = spot W p (behindV g x y) := by
  by_cases h : x ≤ p.length + W
  · rw [Nat.min_eq_left h]
  · rw [Nat.min_eq_right (by omega)]
    unfold behindV
    split
    · by_cases hc : cntN (g.getD y noLn) ≤ p.length + W
      · rw [Nat.min_eq_right hc, Nat.min_eq_right (by omega)]
      · exact spot_far W p _ _ _ (by omega) (by omega)
    · exact spot_far W p _ _ _ (by omega) (by omega)
theorem drop_group (gs : List (List LnC)) (j : Nat) (h : j < gs.length) : gs.drop j = gs.getD j [] :: gs.drop (j + 1) := by
  rw [List.drop_eq_getElem_cons h, List.getD_eq_getElem?_getD, List.getElem?_eq_getElem h]
  rfl

/-! ### memory -/
theorem group_under : Try.prog.underlying 57 = some (.slice (Try.prog.elem 57)) := by kernel_rfl
theorem group_size (W : World) : (sizeOf (Try.prog.elem 57)).run Try.prog W = .ok 1 W := by kernel_rfl
theorem next_group (b o n c : Nat) (hn : 1 ≤ n) (hc : 1 < c) (W : World) : (Instr.slice 57 (.slice (some ⟨b, o, none⟩) n c) (some (.int .i64 1)) none none).run Try.prog W = .ok (.slice (some ⟨b, o + 1, none⟩) (n - 1) (c - 1)) W := by
  have h := run_slice_l (P := Try.prog) W 57 (some ⟨b, o, none⟩) n c group_under .i64 1 (by omega) (by omega)
  rw [h, group_size]
  simp only [Result.andThen, sliced, Option.map_some, add_oo, Nat.mul_one]
  rw [if_neg (by show ¬ c = 1; omega)]
  rfl
theorem first_group (b o n c : Nat) (hn : 0 < n) (W : World) : (Instr.indexAt 57 (.slice (some ⟨b, o, none⟩) n c) (.int .i64 0)).run Try.prog W = .ok (.pointer (some ⟨b, o, none⟩)) W := by
  have := idx_group b o n c 0 hn W
  rwa [Nat.add_zero] at this
theorem GTab.cap {F : Nat → Prop} {w w1 : World} {l : List LnC} {A : Option Addr} {n c : Nat} {us : List Value} (h : GTab F w w1 l A n c us) (h0 : 0 < n) : n ≤ c := by
  rcases h.out.1.2 with ⟨e, e2⟩ | ⟨g, cap, cur, e, h1, h2, h3, h4⟩
  · cases e; omega
  · injection e with e1 e2 e3
    omega
end Go.Proofs.Ytifolcfnknlmdaa.Re

/-! ## Layer 15: the program's Place, walked. -/
set_option linter.unusedVariables false
namespace Go.Proofs.Ytifolcfnknlmdaa.Re
open Go.RowKit Go.Proofs.Ytifolcfnknlmdaa.Rw

structure PlState (w1 : World) (l : List LnC) (W x y0 j y down : Nat) (wz : World) : Prop where
  eq : placeG W x 0 y0 (groups l) = placeG W x down y ((groups l).drop j)
  lt : y < lenG ((groups l).drop j)
  dn : down = (((groups l).take j).flatMap (layG W)).length
  bel : Below w1.heap.size w1 wz
theorem lenG_append (a b : List (List LnC)) : lenG (a ++ b) = lenG a + lenG b := by simp [lenG]
theorem behind_le (g : List LnC) (x y : Nat) : behindV g x y ≤ sumV g + x := by
  have := ahead_le g y
  unfold behindV
  split <;> omega
theorem down_le (W : Nat) (h2 : 2 ≤ W) (l : List LnC) (j : Nat) : (((groups l).take j).flatMap (layG W)).length ≤ sumV l + l.length := by
  have h1 := flat_take_le (layG W) (groups l) j
  rw [← lines_groups W l] at h1
  exact Nat.le_trans h1 (lines_count W h2 l)
set_option maxRecDepth 100000 in
set_option maxHeartbeats 16000000 in
theorem place_yes {F : Nat → Prop} {v : Value} {l : List LnC} {w : World} (h : LinesAt F w v l) (hl : l.length ≤ 100000) (hs : sumV l ≤ 100000) (W : Nat) (h2 : 2 ≤ W) (h4 : W ≤ 400) (X : Nat) (hX : X ≤ 9223372036854775807) (Y : Nat) (hY : Y < l.length) : Calls Try.prog 11 #[v, .int .i64 (W : Int), .int .i64 (X : Int), .int .i64 (Y : Int)] w fun e w' => e = .returned (.tuple #[.int .i64 ((placeV l W X Y).1 : Int), .int .i64 ((placeV l W X Y).2 : Int)]) ∧ Below w.heap.size w w' := by
  have KW := Lib.hid (pwidth_any (W : Int) w)
  rw [decide_eq_true (by omega : 2 ≤ (W : Int) ∧ (W : Int) ≤ 400)] at KW
  rw [place_of W X l Y hY]
  obtain ⟨A0, c0, rfl, -⟩ := id h
  obtain ⟨L, hL⟩ : ∃ L, L = l.length := ⟨_, rfl⟩
  rw [← hL] at h hl hY ⊢
  have HH := Lib.hid (And.intro hl hs)
  have HL := Lib.hid h
  have HLn := Lib.hid hL
  have HYL := Lib.hid hY
  have g1 : decide ((X : Int) < 0) = false := by simp
  have g1' : (0 : Int) ≤ (X : Int) := by omega
  have g2 : decide ((Y : Int) < 0) = false := by simp
  have g2' : (0 : Int) ≤ (Y : Int) := by omega
  have g3 : decide ((Y : Int) ≥ (L : Int)) = false := by simp; omega
  have g3' : decide (L ≤ Y) = false := by simp; omega
  clear h hl hs hL
  go_enter Try.func11, Try.ntmps11
  go_wp2_with fail
  refine (show Calls _ _ _ _ _ from KW.out).mono ?_
  rintro e w0 ⟨rfl, b0⟩
  have HB0 := Lib.hid b0
  have KG := Lib.hid (groups_any (HL.out.below b0) (by rw [← HLn.out]; exact HH.out.1))
  clear b0 KW
  go_wp2_with fail
  refine (show Calls _ _ _ _ _ from KG.out).mono ?_
  rintro e w1 hg0
  obtain ⟨A, n, c, us, rfl, hg⟩ := GPost.tab hg0
  have hn5 : n ≤ 100000 := by rw [hg.n]; exact Nat.le_trans (groups_count l) (by rw [← HLn.out]; exact HH.out.1)
  have hl0 : l ≠ [] := fun e => by have h1 := HLn.out; have h3 := HYL.out; rw [e, List.length_nil] at h1; omega
  have hlg : lenG (groups l) = l.length := by
    have := groups_len l [] hl0
    rw [List.length_nil, Nat.zero_add] at this
    exact this
  have hn0 : 0 < n := by
    rw [hg.n]
    refine List.length_pos_iff.2 fun e => ?_
    rw [e] at hlg
    have h1 := HLn.out
    have h3 := HYL.out
    have h0 : lenG [] = 0 := rfl
    omega
  obtain ⟨g, A2, n2, c2, rfl, hgl, -⟩ := hg.at_ hn0
  have hc := hg.cap hn0
  have HG := Lib.hid hg
  have HGl := Lib.hid hgl
  have HW1 : Hid (Below w.heap.size w w1) := Lib.hid (HB0.out.trans (hg.bel.mono HB0.out.size))
  have H0 : Hid (PlState w1 l W X Y 0 Y 0 w1) := Lib.hid ⟨rfl, by rw [List.drop_zero, hlg, ← HLn.out]; exact HYL.out, rfl, Below.refl _ _⟩
  clear hg hg0 KG hgl hlg hl0 g1 g1' g2 g2' g3 g3' hY
  go_wp2
  go_loopw [3, 10, 11] (fun yv va dv wr => ∃ (j m y down d : Nat) (wz : World), wz = wr ∧ Hid (j + m = n ∧ 0 < m ∧ m ≤ d) ∧ yv = .int .i64 (y : Int) ∧ va = .slice (some ⟨g, j, none⟩) m d ∧ dv = .int .i64 (down : Int) ∧ Hid (PlState w1 l W X Y j y down wz)) (fun _ va _ _ => sliceLen va)
  case atStart => exact ⟨0, n, Y, 0, c, _, rfl, Lib.hid ⟨Nat.zero_add n, hn0, hc⟩, rfl, rfl, rfl, H0⟩
  case round =>
    obtain ⟨j, m, y, down, d, wr, rfl, HJ, rfl, rfl, rfl, H⟩ := hrel
    have hj : j < n := by have := HJ.out; omega
    have hm0 : 0 < m := HJ.out.2.1
    obtain ⟨g', A2, n2, c2, e, -, q0, lg⟩ := HG.out.at_ hj
    cases e
    have i1 := first_group g j m d hm0
    have d0 := (H.out.bel.cell (p := ⟨g, j, none⟩) HGl.out).trans q0
    have hjn : j < (groups l).length := by rw [← HG.out.n]; exact hj
    have hsm := group_small l j hjn
    have hn2 := lg.len.1
    have hdg := drop_group (groups l) j hjn
    obtain ⟨P, hP⟩ : ∃ P, P = trim blC (allC ((groups l).getD j [])) := ⟨_, rfl⟩
    have hPl : P.length ≤ 100000 := by rw [hP]; have h1 := trim_len (allC ((groups l).getD j [])); have h3 := sumV_le ((groups l).getD j []); have := hsm.1; have := HH.out.2; omega
    have KC := Lib.hid (cells_any ((lg.below HG.out.bel).below H.out.bel) (by have := hsm.2.1; have := HH.out.1; have := HLn.out; omega) (by have := hsm.1; have := HH.out.2; omega))
    rw [← hP] at KC
    have hlt := H.out.lt
    rw [hdg, lenG_cons, ← hn2] at hlt
    have hyb : y ≤ 200000 := by
      have h1 : lenG (groups l) = l.length := by
        have := groups_len l [] (fun e => by rw [e] at hjn; simp [groups, groupsA] at hjn)
        rw [List.length_nil, Nat.zero_add] at this
        exact this
      have h3 : lenG (groups l) = lenG ((groups l).take j) + lenG ((groups l).drop j) := by rw [← lenG_append, List.take_append_drop]
      rw [hdg, lenG_cons, ← hn2] at h3
      have := HH.out.1
      have := HLn.out
      omega
    have hdw := H.out.dn
    have hdl : down ≤ 200000 := by rw [hdw]; have h1 := down_le W h2 l j; have := HH.out.1; have := HH.out.2; have := HLn.out; omega
    have HLg := Lib.hid lg
    by_cases hgo : n2 ≤ y
    · have g1 : decide ((y : Int) ≥ (n2 : Int)) = true := by simp; omega
      have g1' : decide (n2 ≤ y) = true := by simp; omega
      have hne : (groups l).drop (j + 1) ≠ [] := fun e => by
        rw [e] at hlt
        have h0 : lenG [] = 0 := rfl
        omega
      have hj1 : j + 1 < n := by
        rw [HG.out.n]
        exact Nat.lt_of_not_le fun e => hne (List.drop_eq_nil_of_le e)
      have i2 := next_group g j m d (by omega) (by have := HJ.out; omega)
      have zy : IntKind.i64.wrap ((y : Int) - (n2 : Int)) = ((y - n2 : Nat) : Int) := by rw [IntWalk.i64_in _ (by omega)]; omega
      obtain ⟨D, hD⟩ : ∃ D, D = down + (lay blC wdC W P).length := ⟨_, rfl⟩
      have hD2 : D = (((groups l).take (j + 1)).flatMap (layG W)).length := by rw [take_flat (layG W) (groups l) j hjn, List.length_append, ← hdw, hD, hP]; rfl
      have hDl : D ≤ 200000 := by rw [hD2]; have h1 := down_le W h2 l (j + 1); have := HH.out.1; have := HH.out.2; have := HLn.out; omega
      obtain ⟨Q, hQ⟩ : ∃ Q, Q = (lay blC wdC W P).length := ⟨_, rfl⟩
      have zD : IntKind.i64.wrap ((down : Int) + (Q : Int)) = (D : Int) := by rw [IntWalk.i64_in _ (by omega)]; omega
      have HQ := Lib.hid hQ
      have HF : Hid (∀ V, Below w1.heap.size w1 V → PlState w1 l W X Y (j + 1) (y - n2) D V) := Lib.hid fun V hV => ⟨by
        rw [H.out.eq, hdg, placeG, ← hn2, if_pos hgo, hD, hP]; rfl, by omega, hD2, hV⟩
      have HPl := Lib.hid hPl
      have HB := Lib.hid H.out.bel
      obtain ⟨m1, hm1⟩ : ∃ m1, m1 = m - 1 := ⟨_, rfl⟩
      obtain ⟨dd, hdd⟩ : ∃ dd, dd = d - 1 := ⟨_, rfl⟩
      rw [← hm1, ← hdd] at i2
      have HJ1 : Hid ((j + 1) + m1 = n ∧ 0 < m1 ∧ m1 ≤ dd) := Lib.hid (by have := HJ.out; omega)
      have HMM : Hid (m1 < m) := Lib.hid (by omega)
      clear lg q0 hgo hlt hne hj1 hdg hD hD2 hQ hP hsm hdw H hPl hm1 hdd hj hjn hn2 hyb
      go_wp2_with fail
      refine (show Calls _ _ _ _ _ from KC.out).mono ?_
      rintro e w2 ⟨u2, rfl, ho2, b2⟩
      have HB2 : Hid (Below w1.heap.size w1 w2) := Lib.hid (HB.out.trans (b2.mono HB.out.size))
      have KB := Lib.hid (broken_any W h2 h4 (own_lies ho2) HPl.out)
      clear ho2 b2 KC
      go_wp2_with fail
      refine (show Calls _ _ _ _ _ from KB.out).mono ?_
      rintro e w3 ⟨v3, qs, rfl, ls3, b3⟩
      obtain ⟨A3, c3, rfl⟩ : ∃ A c, v3 = .slice A Q c := by
        obtain ⟨A, c, e⟩ := ownL_slice ls3.out
        exact ⟨A, c, by rw [e, ls3.len, HQ.out]⟩
      have HF3 : Hid (PlState w1 l W X Y (j + 1) (y - n2) D w3) := Lib.hid (HF.out w3 (HB2.out.trans (b3.mono HB2.out.size)))
      clear ls3 b3 KB HB2 HB HF
      go_wp2
      go_roundw
      case rel => exact ⟨j + 1, m1, y - n2, D, dd, _, rfl, HJ1, rfl, rfl, rfl, HF3⟩
      case measure => have := HMM.out; simp [sliceLen]; omega
    · have g1 : decide ((y : Int) ≥ (n2 : Int)) = false := by simp; omega
      have g1' : decide (n2 ≤ y) = false := by simp; omega
      obtain ⟨NP, hNP⟩ : ∃ N, N = P.length := ⟨_, rfl⟩
      obtain ⟨C, hC⟩ : ∃ C, C = NP + W := ⟨_, rfl⟩
      have zC : IntKind.i64.wrap ((NP : Int) + (W : Int)) = (C : Int) := by rw [IntWalk.i64_in _ (by omega)]; omega
      obtain ⟨X2, hX2⟩ : ∃ X2, X2 = min X C := ⟨_, rfl⟩
      have HSm : Hid (((groups l).getD j []).length ≤ 100000 ∧ sumV ((groups l).getD j []) ≤ 100000) := Lib.hid ⟨by have := hsm.2.1; have := HH.out.1; have := HLn.out; omega, by have := hsm.1; have := HH.out.2; omega⟩
      have HYl : Hid (y < ((groups l).getD j []).length) := Lib.hid (by rw [← hn2]; omega)
      have HX2 : Hid (X2 ≤ 100000000 ∧ True) := Lib.hid ⟨by omega, trivial⟩
      have HNP := Lib.hid hNP
      have HPl := Lib.hid hPl
      have HBh : Hid (behindV ((groups l).getD j []) X2 y ≤ 1000000000) := Lib.hid (by have h1 := behind_le ((groups l).getD j []) X2 y; have := HSm.out.2; have := HX2.out.1; omega)
      obtain ⟨S, hS⟩ : ∃ S, S = spot W P (behindV ((groups l).getD j []) X2 y) := ⟨_, rfl⟩
      have hpl : placeG W X 0 Y (groups l) = (S.1, down + S.2) := by
        rw [H.out.eq, hdg, placeG, ← hn2, if_neg hgo]
        have e1 : parG ((groups l).getD j []) = P := hP.symm
        rw [e1, hS, hX2, hC, hNP, spot_cap]
      have hS2 : S.2 ≤ 200000 := by
        have h1 := (spot_in W h2 P (behindV ((groups l).getD j []) X2 y))
        obtain ⟨a, ha, _⟩ := h1
        rw [← hS] at ha
        have h3 := (List.getElem?_eq_some_iff.1 ha).1
        have h5 := lay_len W P.length P (Nat.le_refl _)
        omega
      obtain ⟨R, hR⟩ : ∃ R, R = down + S.2 := ⟨_, rfl⟩
      have zS : IntKind.i64.wrap ((down : Int) + (S.2 : Int)) = (R : Int) := by rw [IntWalk.i64_in _ (by omega)]; omega
      have HAns : Hid (placeG W X 0 Y (groups l) = (S.1, R)) := Lib.hid (by rw [hpl, hR])
      have HS := Lib.hid hS
      have m1 : min (X : Int) (C : Int) = (X2 : Int) := by omega
      have hX2b : X2 ≤ 200000 := by omega
      have HQ0 := Lib.hid q0
      clear lg q0 hgo hlt hdg hP hsm hdw hX2 hC hNP hPl hpl hS2 hR hS hj hjn hn2 hyb
      go_wp2_with fail
      refine (show Calls _ _ _ _ _ from KC.out).mono ?_
      rintro e w2 ⟨u2, rfl, ho2, b2⟩
      have HB2 : Hid (Below w1.heap.size w1 w2) := Lib.hid (H.out.bel.trans (b2.mono H.out.bel.size))
      have d2 := (HB2.out.cell (p := ⟨g, j, none⟩) HGl.out).trans HQ0.out
      have hli2 := own_lies ho2
      obtain ⟨A3, c3, rfl, -⟩ := id hli2
      rw [← HNP.out] at hli2 ⊢
      have HLi2 := Lib.hid hli2
      have KH := Lib.hid (behind_any ((HLg.out.below HG.out.bel).below HB2.out) HSm.out.1 HSm.out.2 X2 y HX2.out.1 HYl.out)
      clear ho2 b2 KC hli2
      go_wp2_with fail
      refine (show Calls _ _ _ _ _ from KH.out).mono ?_
      rintro e w3 ⟨rfl, b3⟩
      have HB3 : Hid (Below w1.heap.size w1 w3) := Lib.hid (HB2.out.trans (b3.mono HB2.out.size))
      have KF := Lib.hid (found_any W h2 h4 (behindV ((groups l).getD j []) X2 y) HBh.out (HLi2.out.below b3) HPl.out)
      rw [← HS.out] at KF
      clear b3 KH
      go_wp2_with fail
      refine (show Calls _ _ _ _ _ from KF.out).mono ?_
      rintro e w4 ⟨rfl, b4⟩
      have HB4 : Hid (Below w.heap.size w w4) := Lib.hid (by
        have h1 : Below w1.heap.size w1 w4 := HB3.out.trans (b4.mono HB3.out.size)
        have hw1 : Below w.heap.size w w1 := HW1.out
        exact hw1.trans (h1.mono hw1.size))
      clear b4 KF HB2 HB3
      go_wp2
      go_ret2
      exact ⟨by rw [HAns.out]; rfl, HB4.out⟩
end Go.Proofs.Ytifolcfnknlmdaa.Re

/-! ## Layer 15: the program's Place where there is none. -/
set_option linter.unusedVariables false
namespace Go.Proofs.Ytifolcfnknlmdaa.Re
open Go.RowKit Go.Proofs.Ytifolcfnknlmdaa.Rw

set_option maxRecDepth 100000 in
set_option maxHeartbeats 4000000 in
theorem place_no {F : Nat → Prop} {v : Value} {l : List LnC} {w : World} (h : LinesAt F w v l) (W x y : Int) (hx : IntIn x) (hy : IntIn y) (hno : okI l W x y = false) : Calls Try.prog 11 #[v, .int .i64 W, .int .i64 x, .int .i64 y] w fun e w' => e = .returned (.tuple #[.int .i64 0, .int .i64 0]) ∧ Below w.heap.size w w' := by
  obtain ⟨A0, c0, rfl, -⟩ := h
  obtain ⟨L, hL⟩ : ∃ L, L = l.length := ⟨_, rfl⟩
  rw [← hL]
  have KW := Lib.hid (pwidth_any W w)
  obtain ⟨d, hd⟩ : ∃ d, d = decide (2 ≤ W ∧ W ≤ 400) := ⟨_, rfl⟩
  rw [← hd] at KW
  have hways : d = false ∨ (d = true ∧ x < 0) ∨ (d = true ∧ 0 ≤ x ∧ y < 0) ∨ (d = true ∧ 0 ≤ x ∧ 0 ≤ y ∧ (L : Int) ≤ y) := by
    cases d with
    | false => exact Or.inl rfl
    | true =>
      have hw := of_decide_eq_true hd.symm
      refine Or.inr ?_
      unfold okI at hno
      rw [decide_eq_true hw.1, decide_eq_true hw.2, Bool.true_and, Bool.true_and, ← hL] at hno
      by_cases h1 : 0 ≤ x
      · by_cases h2 : 0 ≤ y
        · by_cases h3 : y < (L : Int)
          · rw [decide_eq_true h1, decide_eq_true h2, decide_eq_true h3] at hno
            cases hno
          · exact Or.inr (Or.inr ⟨rfl, h1, h2, by omega⟩)
        · exact Or.inr (Or.inl ⟨rfl, h1, by omega⟩)
      · exact Or.inl ⟨rfl, by omega⟩
  clear hd hno hL
  rcases hways with rfl | ⟨rfl, h1⟩ | ⟨rfl, h1, h2⟩ | ⟨rfl, h1, h2, h3⟩
  · go_enter Try.func11, Try.ntmps11
    go_wp2_with fail
    refine (show Calls _ _ _ _ _ from KW.out).mono ?_
    rintro e w0 ⟨rfl, b0⟩
    have HB0 := Lib.hid b0
    clear b0 KW
    go_wp2
    go_ret2
    exact ⟨rfl, HB0.out⟩
  · have g1 : decide (x < 0) = true := decide_eq_true h1
    go_enter Try.func11, Try.ntmps11
    go_wp2_with fail
    refine (show Calls _ _ _ _ _ from KW.out).mono ?_
    rintro e w0 ⟨rfl, b0⟩
    have HB0 := Lib.hid b0
    clear b0 KW
    go_wp2
    go_ret2
    exact ⟨rfl, HB0.out⟩
  · have g1 : decide (x < 0) = false := decide_eq_false (by omega)
    have g2 : decide (y < 0) = true := decide_eq_true h2
    go_enter Try.func11, Try.ntmps11
    go_wp2_with fail
    refine (show Calls _ _ _ _ _ from KW.out).mono ?_
    rintro e w0 ⟨rfl, b0⟩
    have HB0 := Lib.hid b0
    clear b0 KW
    go_wp2
    go_ret2
    exact ⟨rfl, HB0.out⟩
  · have g1 : decide (x < 0) = false := decide_eq_false (by omega)
    have g2 : decide (y < 0) = false := decide_eq_false (by omega)
    have g3 : decide (y ≥ (L : Int)) = true := decide_eq_true h3
    have g3' : decide ((L : Int) ≤ y) = true := decide_eq_true h3
    go_enter Try.func11, Try.ntmps11
    go_wp2_with fail
    refine (show Calls _ _ _ _ _ from KW.out).mono ?_
    rintro e w0 ⟨rfl, b0⟩
    have HB0 := Lib.hid b0
    clear b0 KW
    go_wp2
    go_ret2
    exact ⟨rfl, HB0.out⟩
end Go.Proofs.Ytifolcfnknlmdaa.Re
