/- Layer 15: the program's paragraphs: windows of the lines. -/
import Derived.Test.YtifolcfnknlmdaaRePf
set_option linter.unusedVariables false
namespace Go.Proofs.Ytifolcfnknlmdaa.Re
open Go.RowKit Go.Proofs.Ytifolcfnknlmdaa.Rw

/-- The lines of each paragraph, acc being the open one's. -/
def groupsA (acc : List LnC) : List LnC → List (List LnC)
  | [] => []
  | [a] => [acc ++ [a]]
  | a :: b :: r => if a.joined then groupsA (acc ++ [a]) (b :: r) else (acc ++ [a]) :: groupsA [] (b :: r)
theorem allC_snoc (acc : List LnC) (a : LnC) : allC (acc ++ [a]) = allC acc ++ cnt a := by
  unfold allC
  rw [List.flatMap_append]
  simp
theorem paras_groups : ∀ (l acc : List LnC), parasA blC (allC acc) l = (groupsA acc l).map fun g => trim blC (allC g)
  | [], _ => rfl
  | [a], acc => by rw [parasA, groupsA, List.map_singleton, allC_snoc]
  | a :: b :: r, acc => by
    rw [parasA, groupsA]
    split
    · rw [← allC_snoc, paras_groups (b :: r)]
    · have := paras_groups (b :: r) []
      rw [List.map_cons, allC_snoc, ← this]
      rfl
theorem groups_joined (acc : List LnC) (a : LnC) (r : List LnC) (hj : a.joined = true) (hr : r ≠ []) : groupsA acc (a :: r) = groupsA (acc ++ [a]) r := by
  cases r with
  | nil => exact absurd rfl hr
  | cons b r => rw [groupsA, if_pos hj]
theorem groups_open (acc : List LnC) (a : LnC) (r : List LnC) (h : a.joined = false ∨ r = []) : groupsA acc (a :: r) = (acc ++ [a]) :: groupsA [] r := by
  cases r with
  | nil => rfl
  | cons b r =>
    rcases h with h | h
    · rw [groupsA, if_neg (by simp [h])]
    · cases h
def groups (l : List LnC) : List (List LnC) := groupsA [] l
theorem paras_of (l : List LnC) : paras blC l = (groups l).map fun g => trim blC (allC g) := paras_groups l []
theorem groups_sum : ∀ (l acc : List LnC), ∀ g ∈ groupsA acc l, sumV g ≤ sumV acc + sumV l ∧ g.length ≤ acc.length + l.length ∧ g ≠ []
  | [], acc, g, h => by cases h
  | [a], acc, g, h => by
    rw [groupsA, List.mem_singleton] at h
    subst h
    rw [sum_append, List.length_append]
    exact ⟨Nat.le_refl _, Nat.le_refl _, by simp⟩
  | a :: b :: r, acc, g, h => by
    rw [groupsA] at h
    have e : sumV (acc ++ [a]) = sumV acc + a.cells.length := by rw [sum_append]; simp [sumV]
    split at h
    · have := groups_sum (b :: r) _ g h
      rw [e, List.length_append, List.length_singleton] at this
      rw [sum_cons, List.length_cons]
      exact ⟨by omega, by omega, this.2.2⟩
    · rcases List.mem_cons.1 h with rfl | h
      · rw [e, sum_cons, List.length_append, List.length_cons]
        exact ⟨by omega, by simp, by simp⟩
      · have := groups_sum (b :: r) [] g h
        rw [sum_cons, List.length_cons]
        have e0 : sumV [] = 0 := rfl
        rw [e0, List.length_nil] at this
        exact ⟨by omega, by omega, this.2.2⟩
theorem elLines : ElT 57 22 (.slice none 0 0) 1 24 := ⟨by kernel_rfl, Try.underlying57, rfl, by decide, by decide⟩
structure GState (F : Nat → Prop) (w : World) (l : List LnC) (k s : Nat) (us : List Value) (gs : List (List LnC)) (wz : World) (vo : Value) : Prop where
  out : OwnG 22 1 wz w.heap.size vo (rowsOf us)
  len : us.length = gs.length
  rows : ∀ j, j < gs.length → LinesAt F w (us.getD j nilS) (gs.getD j [])
  eq : groups l = gs ++ groupsA ((l.take k).drop s) (l.drop k)
  se : s ≤ k
  few : gs.length ≤ k
  bel : Below w.heap.size w wz
theorem gs_snoc {F : Nat → Prop} {w : World} {us : List Value} {gs : List (List LnC)} {u : Value} {g : List LnC} (hl : us.length = gs.length) (h : ∀ j, j < gs.length → LinesAt F w (us.getD j nilS) (gs.getD j [])) (hu : LinesAt F w u g) : ∀ j, j < (gs ++ [g]).length → LinesAt F w ((us ++ [u]).getD j nilS) ((gs ++ [g]).getD j []) := by
  intro j hj
  by_cases hlt : j < gs.length
  · have e1 : (us ++ [u]).getD j nilS = us.getD j nilS := by rw [List.getD_eq_getElem?_getD, List.getD_eq_getElem?_getD, List.getElem?_append_left (by rw [hl]; exact hlt)]
    have e2 : (gs ++ [g]).getD j [] = gs.getD j [] := by rw [List.getD_eq_getElem?_getD, List.getD_eq_getElem?_getD, List.getElem?_append_left hlt]
    rw [e1, e2]
    exact h j hlt
  · have hk2 : j = gs.length := by rw [List.length_append, List.length_singleton] at hj; omega
    subst hk2
    have e1 : (us ++ [u]).getD gs.length nilS = u := by rw [← hl, List.getD_eq_getElem?_getD, List.getElem?_append_right (Nat.le_refl _), Nat.sub_self]; rfl
    have e2 : (gs ++ [g]).getD gs.length [] = g := by rw [List.getD_eq_getElem?_getD, List.getElem?_append_right (Nat.le_refl _), Nat.sub_self]; rfl
    rw [e1, e2]
    exact hu
theorem take_snoc (l : List LnC) (k s : Nat) (hk : k < l.length) (hs : s ≤ k) : (l.take (k + 1)).drop s = (l.take k).drop s ++ [l.getD k noLn] := by
  rw [List.take_add_one, List.getD_eq_getElem?_getD, List.getElem?_eq_getElem hk, List.drop_append_of_le_length (by rw [List.length_take]; omega)]
  rfl
/-- What paragraphs answers: a table of the call's own, of windows. -/
def GPost (F : Nat → Prop) (w : World) (l : List LnC) (e : Ending) (w' : World) : Prop := ∃ v us, e = .returned v ∧ OwnG 22 1 w' w.heap.size v (rowsOf us) ∧ us.length = (groups l).length ∧ (∀ j, j < (groups l).length → LinesAt F w (us.getD j nilS) ((groups l).getD j [])) ∧ Below w.heap.size w w'
set_option maxRecDepth 100000 in
set_option maxHeartbeats 8000000 in
theorem groups_any {F : Nat → Prop} {v : Value} {l : List LnC} {w : World} (h : LinesAt F w v l) (hl : l.length ≤ 100000) : Calls Try.prog 22 #[v] w (GPost F w l) := by
  obtain ⟨A, c, rfl, -⟩ := id h
  obtain ⟨n, hn⟩ : ∃ n, n = l.length := ⟨_, rfl⟩
  rw [← hn] at h hl ⊢
  have HL := Lib.hid h
  have HN := Lib.hid hn
  have H0 : Hid (GState F w l 0 0 [] [] w (.slice none 0 0)) := Lib.hid ⟨ownG_none _ _, rfl, fun j hj => by simp at hj, rfl, Nat.le_refl _, Nat.le_refl _, Below.refl _ _⟩
  clear h hn
  go_enter Try.func22, Try.ntmps22
  go_wp2
  go_loopw [3, 4, 9] (fun vo bv iv wr => ∃ (k s : Nat) (us : List Value) (gs : List (List LnC)) (wz : World) (voz : Value), wz = wr ∧ voz = vo ∧ k ≤ n ∧ s ≤ k ∧ iv = .int .i64 (k : Int) ∧ bv = .int .i64 (s : Int) ∧ Hid (GState F w l k s us gs wz voz)) (fun _ _ iv _ => n - (RowKit.intOf iv).toNat)
  case atStart => exact ⟨0, 0, [], [], _, _, rfl, rfl, Nat.zero_le _, Nat.le_refl _, rfl, rfl, H0⟩
  case round =>
    obtain ⟨k, s, us, gs, wr, vo, rfl, rfl, hk, hsk, rfl, rfl, H⟩ := hrel
    by_cases hlt : k < n
    · have glt : decide ((k : Int) < (n : Int)) = true := by simp; omega
      have glt' : decide (k < n) = true := by simp; omega
      obtain ⟨b, o, u, rfl, -, hb, q0, q1, q2, r0⟩ := HL.out.at_ hlt
      obtain ⟨A', c', rfl, -⟩ := id r0.1
      obtain ⟨N, hN⟩ : ∃ N, N = (l.getD k noLn).cells.length := ⟨_, rfl⟩
      rw [← hN] at q0
      have i1 := idx_line b o n c k hlt
      obtain ⟨C, hC⟩ : ∃ C, C = k + 1 := ⟨_, rfl⟩
      obtain ⟨pw, dw, i2, lw⟩ := win_lines HL.out s C (by omega) (by omega) (by omega)
      rw [show ((C : Nat) : Int) = (k : Int) + 1 by omega] at i2
      have d0 := (H.out.bel.cell (p := ⟨b, o + k * 3, none⟩) hb).trans q0
      have d1 := (H.out.bel.cell (p := ⟨b, o + k * 3 + 1, none⟩) hb).trans q1
      have d2 := (H.out.bel.cell (p := ⟨b, o + k * 3 + 2, none⟩) hb).trans q2
      obtain ⟨J, hJ⟩ : ∃ J, J = (l.getD k noLn).joined := ⟨_, rfl⟩
      obtain ⟨Sh, hSh⟩ : ∃ J, J = (l.getD k noLn).short := ⟨_, rfl⟩
      rw [← hJ] at d1
      rw [← hSh] at d2
      have z1 : IntKind.i64.wrap ((n : Int) - 1) = ((n - 1 : Nat) : Int) := by rw [IntWalk.i64_in _ (by omega)]; omega
      obtain ⟨n1, hn1⟩ : ∃ n1, n1 = n - 1 := ⟨_, rfl⟩
      rw [← hn1] at z1
      have hdr : l.drop k = l.getD k noLn :: l.drop (k + 1) := drop_at (by rw [← HN.out]; exact hlt)
      have hwin := take_snoc l k s (by rw [← HN.out]; exact hlt) hsk
      have HC := Lib.hid hC
      rw [← hC] at hwin
      have HW := Lib.hid lw
      have HE : Hid (groups l = gs ++ groupsA ((l.take k).drop s) (l.getD k noLn :: l.drop C)) := Lib.hid (by rw [H.out.eq, hdr, hC])
      have HWn := Lib.hid hwin
      have HB2 : Hid (Below w.heap.size w (wr.alloc (.cells #[.slice A' N c', .bool J, .bool Sh] pLine))) := Lib.hid (H.out.bel.alloc H.out.bel.size _)
      have HO2 := Lib.hid (ownG_below H.out.out (show Below wr.heap.size wr (wr.alloc (.cells #[.slice A' N c', .bool J, .bool Sh] pLine)) from (Below.refl _ _).alloc (Nat.le_refl _) _))
      have hus : (rowsOf us).length ≤ 1000000 := by rw [rowsOf, List.length_map, H.out.len]; have := H.out.few; omega
      have hways : (J = false ∨ (J = true ∧ k = n1)) ∨ (J = true ∧ k + 1 < n) := by
        cases J
        · exact Or.inl (Or.inl rfl)
        · by_cases e : k = n1
          · exact Or.inl (Or.inr ⟨rfl, e⟩)
          · exact Or.inr ⟨rfl, by omega⟩
      have HJ : Hid ((J = false ∨ (J = true ∧ k = n1)) → (l.getD k noLn).joined = false ∨ l.drop C = []) := Lib.hid (by
        rintro (e | ⟨_, e⟩)
        · exact Or.inl (by rw [← hJ, e])
        · exact Or.inr (List.drop_eq_nil_of_le (by rw [← HN.out]; omega)))
      have HJ2 : Hid ((J = true ∧ k + 1 < n) → (l.getD k noLn).joined = true ∧ l.drop C ≠ []) := Lib.hid (by
        rintro ⟨e, h2⟩
        exact ⟨by rw [← hJ, e], fun e2 => by have := List.drop_eq_nil_iff.1 e2; rw [← HN.out] at this; omega⟩)
      have HG := Lib.hid (And.intro H.out.len (And.intro H.out.rows (And.intro H.out.few H.out.bel)))
      have HLen : Hid (k < l.length) := Lib.hid (by rw [← HN.out]; exact hlt)
      clear r0 hb q0 q1 q2 hJ hSh hdr hwin lw hN hC H
      rcases hways with hbr | ⟨rfl, hjl⟩
      · have hop := HJ.out hbr
        rcases hbr with rfl | ⟨rfl, hkn⟩
        · skip
          have HF : Hid (groups l = (gs ++ [(l.take C).drop s]) ++ groupsA ((l.take C).drop C) (l.drop C)) := Lib.hid (by
            have e0 : (l.take C).drop C = [] := List.drop_eq_nil_of_le (by rw [List.length_take]; omega)
            rw [HE.out, groups_open _ _ _ hop, HWn.out, e0, List.append_assoc]
            rfl)
          clear hop HE HWn HJ HJ2
          have H1 := Lib.hid (one_el (T := 22) (wr.alloc (.cells #[.slice A' N c', .bool false, .bool Sh] pLine)) [.slice pw (C - s) dw])
          rw [show (wr.alloc (.cells #[.slice A' N c', .bool false, .bool Sh] pLine)).heap.size = wr.heap.size + 1 by simp] at H1
          have hal : Below (wr.alloc (.cells #[.slice A' N c', .bool false, .bool Sh] pLine)).heap.size (wr.alloc (.cells #[.slice A' N c', .bool false, .bool Sh] pLine)) ((wr.alloc (.cells #[.slice A' N c', .bool false, .bool Sh] pLine)).alloc (.cells #[.slice pw (C - s) dw] 22)) := (Below.refl _ _).alloc (Nat.le_refl _) _
          have HO3 := Lib.hid (ownG_below HO2.out hal)
          have HB3 := Lib.hid (HB2.out.trans (hal.mono HB2.out.size))
          clear hal
          go_wp2_with (at_builtin; refine append_el elLines _ rfl (.tmp 24) (.tmp 30) rfl w.heap.size _ (rowsOf us) [.slice pw (C - s) dw] ⟨wr.heap.size + 1, 0, none⟩ rfl HO3.out rfl H1.out rfl (by intro u hu; rw [List.mem_singleton] at hu; subst hu; rfl) hus HB3.out.size ?_)
          intro g6 c6 w6 o6 gr6
          have HB6 := Lib.hid (grownG HB3.out gr6 HO3.out HB3.out.size (Nat.le_refl _))
          have HS6 : Hid (GState F w l C C (us ++ [.slice pw (C - s) dw]) (gs ++ [(l.take C).drop s]) w6 (.slice (some ⟨g6, 0, none⟩) ((rowsOf us).length + 1) c6)) := Lib.hid ⟨by rw [rows_snoc]; exact o6, by rw [List.length_append, List.length_append, HG.out.1]; rfl, gs_snoc HG.out.1 HG.out.2.1 HW.out, HF.out, Nat.le_refl _, by rw [List.length_append, List.length_singleton]; have := HG.out.2.2.1; have := HC.out; omega, HB6.out⟩
          generalize Value.slice (some ⟨g6, 0, none⟩) ((rowsOf us).length + 1) c6 = vo6 at *
          clear o6 gr6 HB6 HO3 H1 HB3 HF HO2 HB2 hus
          go_wp2
          go_roundw
          case rel => exact ⟨C, C, _, _, _, _, rfl, rfl, by have := HC.out; omega, Nat.le_refl _, by have := HC.out; congr 1; omega, by have := HC.out; congr 1; omega, HS6⟩
          case measure => have := HC.out; simp [RowKit.intOf]; omega
        · have gE : ((k : Int) == (n1 : Int)) = true := by simp; omega
          have gE' : (k == n1) = true := by simp; omega
          have HKN := Lib.hid hkn
          clear hkn
          have HF : Hid (groups l = (gs ++ [(l.take C).drop s]) ++ groupsA ((l.take C).drop C) (l.drop C)) := Lib.hid (by
            have e0 : (l.take C).drop C = [] := List.drop_eq_nil_of_le (by rw [List.length_take]; omega)
            rw [HE.out, groups_open _ _ _ hop, HWn.out, e0, List.append_assoc]
            rfl)
          clear hop HE HWn HJ HJ2
          have H1 := Lib.hid (one_el (T := 22) (wr.alloc (.cells #[.slice A' N c', .bool true, .bool Sh] pLine)) [.slice pw (C - s) dw])
          rw [show (wr.alloc (.cells #[.slice A' N c', .bool true, .bool Sh] pLine)).heap.size = wr.heap.size + 1 by simp] at H1
          have hal : Below (wr.alloc (.cells #[.slice A' N c', .bool true, .bool Sh] pLine)).heap.size (wr.alloc (.cells #[.slice A' N c', .bool true, .bool Sh] pLine)) ((wr.alloc (.cells #[.slice A' N c', .bool true, .bool Sh] pLine)).alloc (.cells #[.slice pw (C - s) dw] 22)) := (Below.refl _ _).alloc (Nat.le_refl _) _
          have HO3 := Lib.hid (ownG_below HO2.out hal)
          have HB3 := Lib.hid (HB2.out.trans (hal.mono HB2.out.size))
          clear hal
          go_wp2_with (at_builtin; refine append_el elLines _ rfl (.tmp 24) (.tmp 30) rfl w.heap.size _ (rowsOf us) [.slice pw (C - s) dw] ⟨wr.heap.size + 1, 0, none⟩ rfl HO3.out rfl H1.out rfl (by intro u hu; rw [List.mem_singleton] at hu; subst hu; rfl) hus HB3.out.size ?_)
          intro g6 c6 w6 o6 gr6
          have HB6 := Lib.hid (grownG HB3.out gr6 HO3.out HB3.out.size (Nat.le_refl _))
          have HS6 : Hid (GState F w l C C (us ++ [.slice pw (C - s) dw]) (gs ++ [(l.take C).drop s]) w6 (.slice (some ⟨g6, 0, none⟩) ((rowsOf us).length + 1) c6)) := Lib.hid ⟨by rw [rows_snoc]; exact o6, by rw [List.length_append, List.length_append, HG.out.1]; rfl, gs_snoc HG.out.1 HG.out.2.1 HW.out, HF.out, Nat.le_refl _, by rw [List.length_append, List.length_singleton]; have := HG.out.2.2.1; have := HC.out; omega, HB6.out⟩
          generalize Value.slice (some ⟨g6, 0, none⟩) ((rowsOf us).length + 1) c6 = vo6 at *
          clear o6 gr6 HB6 HO3 H1 HB3 HF HO2 HB2 hus
          go_wp2
          go_roundw
          case rel => exact ⟨C, C, _, _, _, _, rfl, rfl, by have := HC.out; omega, Nat.le_refl _, by have := HC.out; congr 1; omega, by have := HC.out; congr 1; omega, HS6⟩
          case measure => have := HC.out; simp [RowKit.intOf]; omega
      · have gE : ((k : Int) == (n1 : Int)) = false := by simp; omega
        have gE' : (k == n1) = false := by simp; omega
        have hop := HJ2.out ⟨rfl, hjl⟩
        have HS6 : Hid (GState F w l C s us gs (wr.alloc (.cells #[.slice A' N c', .bool true, .bool Sh] pLine)) vo) := Lib.hid ⟨HO2.out, HG.out.1, HG.out.2.1, by rw [HE.out, groups_joined _ _ _ hop.1 hop.2, HWn.out], by have := HC.out; omega, by have := HG.out.2.2.1; have := HC.out; omega, HB2.out⟩
        clear hop HE HWn HJ HJ2 HO2 HB2 HG HW
        go_wp2
        go_roundw
        case rel => exact ⟨C, s, _, _, _, _, rfl, rfl, by have := HC.out; omega, by have := HC.out; omega, by have := HC.out; congr 1; omega, rfl, HS6⟩
        case measure => have := HC.out; simp [RowKit.intOf]; omega
    · have hkn : k = n := by omega
      have glt : decide ((k : Int) < (n : Int)) = false := by simp; omega
      have glt' : decide (k < n) = false := by simp; omega
      have HF : Hid (groups l = gs) := Lib.hid (by
        have hd : l.drop k = [] := List.drop_eq_nil_of_le (by rw [← HN.out]; omega)
        rw [H.out.eq, hd]
        simp [groupsA])
      clear hkn
      go_wp2
      go_ret
      exact ⟨_, us, rfl, H.out.out, by rw [HF.out]; exact H.out.len, by rw [HF.out]; exact H.out.rows, H.out.bel⟩
end Go.Proofs.Ytifolcfnknlmdaa.Re
