/- Layer 15: the document's Same of lines. -/
import Derived.Test.YtifolcfnknlmdaaRwE
import Derived.Test.YtifolcfnknlmdaaReA
set_option linter.unusedVariables false
namespace Go.Proofs.Ytifolcfnknlmdaa.Re
open Go.RowKit Go.Proofs.Ytifolcfnknlmdaa.Rw

theorem ln_ext {a b : List LnC} (hl : a.length = b.length) (h : ∀ k, k < a.length → a.getD k noLn = b.getD k noLn) : a = b := by
  refine List.ext_getElem hl fun i h1 h2 => ?_
  have := h i h1
  rwa [List.getD_eq_getElem?_getD, List.getD_eq_getElem?_getD, List.getElem?_eq_getElem h1, List.getElem?_eq_getElem h2] at this
set_option maxRecDepth 100000 in
set_option maxHeartbeats 4000000 in
theorem same_lines {F G : Nat → Prop} {u v : Value} {l m : List LnC} {w : World} (h1 : LinesAt F w u l) (h2 : LinesAt G w v m) (hl : l.length ≤ 100000) (hc : ∀ k, (l.getD k noLn).cells.length ≤ 100000) : Calls Try.prog 27 #[u, v] w fun e w' => e = .returned (.bool (decide (l = m))) ∧ Below w.heap.size w w' := by
  obtain ⟨A1, c1, rfl, -⟩ := id h1
  obtain ⟨A2, c2, rfl, -⟩ := id h2
  obtain ⟨n, hn⟩ : ∃ n, n = l.length := ⟨_, rfl⟩
  obtain ⟨q, hq⟩ : ∃ q, q = m.length := ⟨_, rfl⟩
  rw [← hn] at h1 hl ⊢
  rw [← hq] at h2 ⊢
  by_cases hnq : n = q
  · subst hnq
    have g1 : ((n : Int) != (n : Int)) = false := by simp
    have HL := Lib.hid (And.intro hn hq)
    have H1 := Lib.hid h1
    have H2 := Lib.hid h2
    have HC := Lib.hid hc
    clear hn hq h1 h2 hc
    go_enter Try.func27, Try.ntmps27
    go_wp2
    go_loopw [5] (fun i wr => ∃ k : Nat, k ≤ n ∧ i = .int .i64 k ∧ Hid (∀ j, j < k → l.getD j noLn = m.getD j noLn) ∧ Hid (Below w.heap.size w wr)) (fun i _ => n - (RowKit.intOf i).toNat)
    case atStart => exact ⟨0, Nat.zero_le _, rfl, Lib.hid fun j hj => absurd hj (Nat.not_lt_zero _), Lib.hid (Below.refl _ _)⟩
    case round =>
      obtain ⟨k, hk, rfl, HE, HB⟩ := hrel
      rename_i wr
      by_cases hlt : k < n
      · have glt : decide ((k : Int) < (n : Int)) = true := by simp; omega
        obtain ⟨b1, o1, u1, rfl, -, hb1, p0, p1, p2, r1⟩ := H1.out.at_ hlt
        obtain ⟨b2, o2, u2, rfl, -, hb2, q0, q1, q2, r2⟩ := H2.out.at_ hlt
        have i1 := idx_given b1 o1 n c1 k hlt
        have i2 := idx_given b2 o2 n c2 k hlt
        have P0 := fun (V : World) (hV : Below w.heap.size w V) => (hV.cell hb1).trans p0
        have P1 := fun (V : World) (hV : Below w.heap.size w V) => (hV.cell hb1).trans p1
        have P2 := fun (V : World) (hV : Below w.heap.size w V) => (hV.cell hb1).trans p2
        have Q0 := fun (V : World) (hV : Below w.heap.size w V) => (hV.cell hb2).trans q0
        have Q1 := fun (V : World) (hV : Below w.heap.size w V) => (hV.cell hb2).trans q1
        have Q2 := fun (V : World) (hV : Below w.heap.size w V) => (hV.cell hb2).trans q2
        have K : Hid (∀ V, Below w.heap.size w V → Calls Try.prog 19 #[u1, u2] V fun e w' => e = .returned (.bool (decide ((l.getD k noLn).cells = (m.getD k noLn).cells))) ∧ Below w.heap.size w w') := Lib.hid (by
          obtain ⟨B1, d1, rfl, -⟩ := id r1.1
          obtain ⟨B2, d2, rfl, -⟩ := id r2.1
          exact fun V hV => (same_any _ _ B1 B2 _ _ d1 d2 V (r1.1.below hV) (r2.1.below hV) (HC.out k)).mono fun e w' ⟨he, hb⟩ => ⟨he, hV.trans (hb.mono hV.size)⟩)
        have HS : Hid ((l.getD k noLn).joined = (m.getD k noLn).joined → (l.getD k noLn).short = (m.getD k noLn).short → (l.getD k noLn).cells = (m.getD k noLn).cells → ∀ j, j < k + 1 → l.getD j noLn = m.getD j noLn) := Lib.hid fun e1 e2 e3 j hj => by
          by_cases hjk : j = k
          · rw [hjk]
            generalize l.getD k noLn = a at *
            generalize m.getD k noLn = b at *
            cases a; cases b
            simp only at e1 e2 e3
            rw [e1, e2, e3]
          · exact HE.out j (by omega)
        have HN : Hid ((l.getD k noLn).joined ≠ (m.getD k noLn).joined ∨ (l.getD k noLn).short ≠ (m.getD k noLn).short ∨ (l.getD k noLn).cells ≠ (m.getD k noLn).cells → l ≠ m) := Lib.hid fun h e => by rw [e] at h; simp at h
        have hd := below_drew HB.out 1
        generalize (l.getD k noLn).joined = X1 at *
        generalize (m.getD k noLn).joined = Y1 at *
        generalize (l.getD k noLn).short = X2 at *
        generalize (m.getD k noLn).short = Y2 at *
        generalize (l.getD k noLn).cells = X3 at *
        generalize (m.getD k noLn).cells = Y3 at *
        clear p0 p1 p2 q0 q1 q2 r1 r2 hb1 hb2 HE HC
        by_cases e1 : X1 = Y1
        · subst e1
          by_cases e2 : X2 = Y2
          · subst e2
            by_cases e3 : X3 = Y3
            · have HK : Hid (∀ V, Below w.heap.size w V → Calls Try.prog 19 #[u1, u2] V fun e w' => e = .returned (.bool true) ∧ Below w.heap.size w w') := Lib.hid (by
                have := K.out
                rwa [decide_eq_true e3] at this)
              have HE2 := Lib.hid (HS.out rfl rfl e3)
              clear K HS HN e3
              cases X1 <;> cases X2
              all_goals
                go_wp2_with fail
                go_region_held3 (fun V => Below w.heap.size w V) (assumption) (first | (go_at_call 19; (with_reducible refine (HK.out _ (by assumption)).mono ?_); rintro e v1 ⟨rfl, j1⟩))
                go_wp2
                go_roundw
                case rel => exact ⟨k + 1, by omega, by go_num, HE2, Lib.hid (by assumption)⟩
                case measure => simp [RowKit.intOf]; omega
            · have HK : Hid (∀ V, Below w.heap.size w V → Calls Try.prog 19 #[u1, u2] V fun e w' => e = .returned (.bool false) ∧ Below w.heap.size w w') := Lib.hid (by
                have := K.out
                rwa [decide_eq_false e3] at this)
              have HF : Hid (l ≠ m) := Lib.hid (HN.out (.inr (.inr e3)))
              clear K HS HN e3
              cases X1 <;> cases X2
              all_goals
                go_wp2_with fail
                go_region_held3 (fun V => Below w.heap.size w V) (assumption) (first | (go_at_call 19; (with_reducible refine (HK.out _ (by assumption)).mono ?_); rintro e v1 ⟨rfl, j1⟩))
                go_wp2
                go_ret
                exact ⟨by rw [decide_eq_false HF.out]; rfl, by assumption⟩
          · have HF : Hid (l ≠ m) := Lib.hid (HN.out (.inr (.inl e2)))
            have HK := K
            clear K HS HN
            have p1 := P1 _ HB.out
            have p2 := P2 _ HB.out
            have q1 := Q1 _ HB.out
            have q2 := Q2 _ HB.out
            clear P0 P1 P2 Q0 Q1 Q2 hd HK
            cases X1 <;> cases X2 <;> cases Y2
            all_goals first | exact absurd rfl e2 | skip
            all_goals
              clear e2
              go_wp2_with fail
              go_quiet (fail)
              have HB2 := Lib.hid (below_drew HB.out nq)
              go_wp2
              go_ret
              exact ⟨by rw [decide_eq_false HF.out]; rfl, HB2.out⟩
        · have HF : Hid (l ≠ m) := Lib.hid (HN.out (.inl e1))
          have HK := K
          clear K HS HN
          have p1 := P1 _ HB.out
          have p2 := P2 _ HB.out
          have q1 := Q1 _ HB.out
          have q2 := Q2 _ HB.out
          clear P0 P1 P2 Q0 Q1 Q2 hd HK
          cases X1 <;> cases Y1
          all_goals first | exact absurd rfl e1 | skip
          all_goals
            clear e1
            go_wp2_with fail
            go_quiet (fail)
            have HB2 := Lib.hid (below_drew HB.out nq)
            go_wp2
            go_ret
            exact ⟨by rw [decide_eq_false HF.out]; rfl, HB2.out⟩
      · have hkn : k = n := by omega
        have glt : decide ((k : Int) < (n : Int)) = false := by simp; omega
        have HF : Hid (l = m) := Lib.hid (ln_ext (by rw [← HL.out.1]; exact HL.out.2) fun j hj => HE.out j (by have := HL.out.1; omega))
        clear HE hkn
        go_wp2
        go_ret
        exact ⟨by rw [decide_eq_true HF.out]; rfl, HB.out⟩
  · have g1 : ((n : Int) != (q : Int)) = true := by simp; omega
    have HF : Hid (l ≠ m) := Lib.hid fun e => hnq (by rw [hn, hq, e])
    clear h1 h2 hn hq hnq
    go_enter Try.func27, Try.ntmps27
    go_wp2
    go_ret
    exact ⟨by rw [decide_eq_false HF.out]; rfl, Below.refl _ _⟩
end Go.Proofs.Ytifolcfnknlmdaa.Re
