/- Layer 14: BackPlays' walk. -/
import Derived.Test.YtpanhkhiomgclaaBaPd
set_option linter.unusedVariables false
namespace Go.Proofs.Ytpanhkhiomgclaa.Ba
open Go.RowKit

set_option maxRecDepth 100000 in
set_option maxHeartbeats 4000000 in
theorem plays_big {w : World} {A : Option Addr} {n c : Nat} (m x : Int) (h : n > 300) : Calls Try.prog 3 #[.int .i64 m, .slice A n c, .int .i64 x] w fun e w' => e = .returned (.bool true) ∧ Below w.heap.size w w' := by
  have HW := Lib.hid (wakes_any w)
  have g1 : decide ((n : Int) > 300) = true := by simp; omega
  go_enter Try.func3, Try.ntmps3
  go_wp2_with fail
  refine (show Calls _ _ _ _ _ from HW.out).mono ?_
  rintro e w1 ⟨rfl, hb⟩
  go_wp2
  go_ret
  exact ⟨rfl, hb⟩
set_option maxRecDepth 100000 in
set_option maxHeartbeats 4000000 in
theorem plays_out {w : World} {A : Option Addr} {n c : Nat} (m x : Int) (hmi : IntIn m) (hn : n ≤ 300) (h : m < 0 ∨ m > 500) : Calls Try.prog 3 #[.int .i64 m, .slice A n c, .int .i64 x] w fun e w' => e = .returned (.bool true) ∧ Below w.heap.size w w' := by
  have HW : Hid (∀ V, Calls Try.prog 8 #[] V fun e w' => e = .returned (.bool true) ∧ Below V.heap.size V w') := Lib.hid fun V => wakes_any V
  have g1 : decide ((n : Int) > 300) = false := by simp; omega
  have hnb : newB m = false := by unfold newB; simp; omega
  have K0 : Hid (Calls Try.prog 9 #[.int .i64 m] w fun e w' => e = .returned (.tuple #[.pointer none, .int .i64 1]) ∧ Below w.heap.size w w') := Lib.hid ((new_any m w hmi).mono fun e w' ⟨hb, hh⟩ => by
    rw [hnb, if_neg (by decide)] at hh
    exact ⟨hh, hb⟩)
  have hh : decide (m < 0) = true ∨ decide (m < 0) = false ∧ decide (m > 500) = true := by
    by_cases a1 : m < 0
    · exact Or.inl (by simpa using a1)
    · exact Or.inr ⟨by simpa using a1, by simp; omega⟩
  clear h hnb
  rcases hh with g2 | ⟨g2, g3⟩
  all_goals
    go_enter Try.func3, Try.ntmps3
    go_wp2_with fail
    refine (show Calls _ _ _ _ _ from K0.out).mono ?_
    rintro e w1 ⟨rfl, hb⟩
    have HB := Lib.hid hb
    have K1 := Lib.hid (HW.out w1)
    clear hb
    go_wp2_with fail
    refine (show Calls _ _ _ _ _ from K1.out).mono ?_
    rintro e w2 ⟨rfl, hb⟩
    go_wp2
    go_ret
    exact ⟨rfl, HB.out.trans (hb.mono HB.out.size)⟩

/-- What the law asks of both, in whatever world behind. -/
theorem duo_asks {w y : World} {s : Value} {g M G : Nat} {L : List Int} (h : DuoB w y s g M G L G L) (n : Int) (hn : IntIn n) :
    (∀ V, Below y.heap.size y V → Calls Try.prog 15 #[s] V fun e w' => e = .returned (.int .i64 (L.length : Int)) ∧ Below y.heap.size y w') ∧
    (∀ V, Below y.heap.size y V → Calls Try.prog 16 #[s] V fun e w' => e = .returned (.int .i64 (G : Int)) ∧ Below y.heap.size y w') ∧
    (∀ V, Below y.heap.size y V → Calls Try.prog 18 #[s, .int .i64 n] V fun e w' => ∃ A c, e = .returned (.slice A (lastV L n).length c) ∧ LiesI w' (.slice A (lastV L n).length c) (lastV L n) ∧ Below y.heap.size y w') ∧
    (∀ V A c, Below y.heap.size y V → LiesI V (.slice A (lastV L n).length c) (lastV L n) → Calls Try.prog 19 #[.pointer (some ⟨g, 0, none⟩), .int .i64 n] V fun e w' => ∃ A' c', e = .returned (.slice A' (lastV L n).length c') ∧ LiesI w' (.slice A (lastV L n).length c) (lastV L n) ∧ LiesI w' (.slice A' (lastV L n).length c') (lastV L n) ∧ Below y.heap.size y w') ∧
    (∀ V A c A' c', Below y.heap.size y V → LiesI V (.slice A (lastV L n).length c) (lastV L n) → LiesI V (.slice A' (lastV L n).length c') (lastV L n) → Calls Try.prog 17 #[.slice A (lastV L n).length c, .slice A' (lastV L n).length c'] V fun e w' => e = .returned (.bool true) ∧ Below y.heap.size y w') ∧
    (∀ V, Below y.heap.size y V → Calls Try.prog 20 #[s, .int .i64 1000] V fun e w' => ∃ A c, e = .returned (.slice A L.length c) ∧ LiesI w' (.slice A L.length c) L ∧ Below y.heap.size y w') := by
  have hL : L.length ≤ 500 := by have := h.cap; omega
  have hl := last_len L n
  refine ⟨fun V hV => ?_, fun V hV => ?_, fun V hV => ?_, fun V A c hV hz => ?_, fun V A c A' c' hV h1 h2 => ?_, fun V hV => ?_⟩
  · exact (mine_len (h.1.old hV)).mono fun e w' ⟨he, _, hb⟩ => ⟨he, hV.trans (hb.mono hV.size)⟩
  · exact (mine_gone (h.1.old hV)).mono fun e w' ⟨he, _, hb⟩ => ⟨he, hV.trans (hb.mono hV.size)⟩
  · exact (mine_last (h.1.old hV) n hn).mono fun e w' ⟨A, c, he, ho, _, hb⟩ => ⟨A, c, he, ownI_lies ho, hV.trans (hb.mono hV.size)⟩
  · exact (ref_last (h.2.1.below hV) n (by omega) hn).mono fun e w' ⟨A', c', he, ho, hb⟩ => ⟨A', c', he, hz.below hb, ho, hV.trans (hb.mono hV.size)⟩
  · exact (same_any h1 h2 (by omega)).mono fun e w' ⟨he, hb⟩ => ⟨by rw [he, decide_eq_true rfl], hV.trans (hb.mono hV.size)⟩
  · exact (mine_all (h.1.old hV) 1000 (by decide) (by decide)).mono fun e w' ⟨A, c, he, ho, _, hb⟩ => by
      rw [List.take_of_length_le (by omega)] at he ho
      exact ⟨A, c, he, ownI_lies ho, hV.trans (hb.mono hV.size)⟩

set_option maxRecDepth 100000 in
set_option maxHeartbeats 16000000 in
theorem plays_yes {w : World} {A1 : Option Addr} {n1 c1 : Nat} {L1 : List Int} (H1 : LiesI w (.slice A1 n1 c1) L1) (M : Nat) (x : Int) (hx : IntIn x) (hL1 : ∀ k, k < n1 → IntIn (L1.getD k 0)) (hM : M ≤ 500) (h1 : n1 ≤ 300) : Calls Try.prog 3 #[.int .i64 (M : Int), .slice A1 n1 c1, .int .i64 x] w fun e w' => e = .returned (.bool true) ∧ Below w.heap.size w w' := by
  have g1 : decide ((n1 : Int) > 300) = false := by simp; omega
  have g2 : decide ((M : Int) < 0) = false := by simp
  have g3 : decide ((M : Int) > 500) = false := by simp; omega
  have hl1 := H1.len.1
  have HL := Lib.hid (And.intro hl1 (And.intro hM h1))
  have HI := Lib.hid hL1
  have HX := Lib.hid hx
  have HA := Lib.hid H1
  have K0 := Lib.hid (new_any (M : Int) w (in_small (by omega) (by omega)))
  have HM : Hid (newB (M : Int) = true) := Lib.hid (by unfold newB; simp; omega)
  clear H1 hl1 hL1 hx
  go_enter Try.func3, Try.ntmps3
  go_wp2_with fail
  refine (show Calls _ _ _ _ _ from K0.out).mono ?_
  intro e w1 hp
  obtain ⟨s, rfl, hm⟩ := mine_new (w := w) HM.out (Below.refl _ _) hp
  obtain ⟨p, rfl⟩ := hm.ptr
  rw [Int.toNat_natCast] at hm
  have hd := duo_new hm
  obtain ⟨g, hg⟩ : ∃ g, g = w1.heap.size := ⟨_, rfl⟩
  rw [← hg] at hd
  obtain ⟨W2, hW2⟩ : ∃ W2, w1.alloc (.cells #[.int .i64 (M : Int), .slice none 0 0, .int .i64 0] 30 (0, 0)) = W2 := ⟨_, rfl⟩
  rw [hW2] at hd
  have H := Lib.hid hd
  have HW2 := Lib.hid hW2
  have HG := Lib.hid hg
  clear hm hp K0 HM hd hW2 hg
  go_wp2
  rw [HW2.out, ← HG.out]
  clear g1 g2 g3 HW2 HG
  go_loopw [10] (fun i wr => ∃ (k G : Nat) (L : List Int), k ≤ n1 ∧ i = .int .i64 k ∧ Hid (DuoB w wr (.pointer (some ⟨p, 0, none⟩)) g M G L G L ∧ G ≤ k)) (fun i _ => n1 - (RowKit.intOf i).toNat)
  case atStart => exact ⟨0, 0, [], Nat.zero_le _, rfl, Lib.hid ⟨H.out, Nat.le_refl _⟩⟩
  case round =>
    obtain ⟨k, G, L, hk, rfl, HP⟩ := hrel
    by_cases hlt : k < n1
    · have glt : decide ((k : Int) < (n1 : Int)) = true := by simp; omega
      obtain ⟨b1, o1, rfl, hb1, q1⟩ := HA.out.at_ hlt
      have q1V : ∀ V, Below w.heap.size w V → V.cell? ⟨b1, o1 + k, none⟩ = some (.int .i64 (L1.getD k 0)) := fun V hV => (hV.cell (p := ⟨b1, o1 + k, none⟩) hb1).trans q1
      have HQ := Lib.hid q1V
      have i1 := idx_int b1 o1 n1 c1 k hlt
      have hXi := HI.out k hlt
      generalize L1.getD k 0 = X at *
      clear q1 hb1 q1V
      have q1 := HQ.out _ HP.out.1.below
      go_upto_if 62 with fail
      go_cut [10] (fun i wc => ∃ (G : Nat) (L : List Int), i = .int .i64 k ∧ Hid (DuoB w wc (.pointer (some ⟨p, 0, none⟩)) g M G L G L ∧ G ≤ k + 1))
      case first => as_aux_lemma =>
        have hG3 : G ≤ 1000000 := by have := HP.out.2; have := HL.out; omega
        have hLl : L.length ≤ 100000 := by have := HP.out.1.cap; omega
        by_cases h0 : 0 ≤ X
        · have gX : decide (X ≥ 0) = true := by simpa using h0
          have gX' : decide (0 ≤ X) = true := by simpa using h0
          have gX2 : decide (X < 0) = false := by simpa using h0
          have hXn : 0 ≤ X := h0
          have HP1 := HP.out.1.old (below_drew (Below.refl _ _) 1)
          have K1 := Lib.hid (duo_put HP1 X hG3)
          have hgo : goneV M L G ≤ k + 1 := by unfold goneV; have := HP.out.2; split <;> omega
          have hS : Hid (∀ y, DuoB w y (.pointer (some ⟨p, 0, none⟩)) g M (goneV M L G) (putV M L X) G L → Calls Try.prog 11 #[.pointer (some ⟨g, 0, none⟩), .int .i64 X] y fun e w' => e = .returned (.bool (putB M L)) ∧ DuoB w w' (.pointer (some ⟨p, 0, none⟩)) g M (goneV M L G) (putV M L X) (goneV M L G) (putV M L X)) := Lib.hid fun y hy => duo_putR hy X hLl hG3
          have kd : Below w.heap.size w wr.drew := HP1.below
          have qV := HQ.out
          generalize putB M L = T at *
          generalize putV M L X = L2 at *
          generalize goneV M L G = G2 at *
          have gT : (T != T) = false := by simp
          clear HP1 q1 h0 hG3 hLl
          go_wp2_with fail
          go_region_held3 (fun V => Below w.heap.size w V) (assumption)
            (first
              | (go_at_call 10; (refine (show Calls _ _ _ _ _ from K1.out).mono ?_); rintro e y1 ⟨rfl, d1⟩; have e1 := d1.below)
              | (go_at_call 11; (refine (hS.out _ d1).mono ?_); rintro e y2 ⟨rfl, d2⟩; have e2 := d2.below))
          go_wp2
          go_meet
          exact ⟨G2, L2, rfl, Lib.hid ⟨d2, hgo⟩⟩
        · have gX : decide (X ≥ 0) = false := by simpa using h0
          have gX' : decide (0 ≤ X) = false := by simpa using h0
          have gX2 : decide (X < 0) = true := by simp; omega
          unfold IntIn at hXi
          have z6 : IntKind.i64.wrap (X + 6) = X + 6 := IntWalk.i64_in _ (by omega)
          have hX0 : X < 0 := by omega
          have HDu : Hid (DuoB w wr (.pointer (some ⟨p, 0, none⟩)) g M G L G L) := Lib.hid HP.out.1
          have HGk : Hid (G ≤ k + 1) := Lib.hid (by have := HP.out.2; omega)
          clear hG3 hLl h0 HP
          go_wp2
          go_loopw [11] (fun i wu => ∃ (q : Int) (L : List Int), X ≤ q ∧ q ≤ 0 ∧ q ≤ X + 6 ∧ i = .int .i64 q ∧ Hid (DuoB w wu (.pointer (some ⟨p, 0, none⟩)) g M G L G L)) (fun i _ => (0 - RowKit.intOf i).toNat)
          case atStart => exact ⟨X, L, Int.le_refl _, by omega, by omega, rfl, HDu⟩
          case round =>
            obtain ⟨q, L3, hq1, hq2, hq3, rfl, HD⟩ := hrel
            clear gX gX' gX2 hX0
            have q1 := HQ.out _ HD.out.below
            by_cases hq0 : q < 0
            · have g4 : decide (q < 0) = true := by simpa using hq0
              by_cases hq6 : q < X + 6
              · have g5 : decide (q < X + 6) = true := by simpa using hq6
                have K1 := Lib.hid (duo_pop HD.out)
                have hLl : L3.length ≤ 100000 := by have := HD.out.cap; omega
                have hS : Hid (∀ y, DuoB w y (.pointer (some ⟨p, 0, none⟩)) g M G L3.dropLast G L3 → Calls Try.prog 13 #[.pointer (some ⟨g, 0, none⟩)] y fun e w' => e = .returned (.tuple #[.int .i64 (popX L3), .bool (someB L3)]) ∧ DuoB w w' (.pointer (some ⟨p, 0, none⟩)) g M G L3.dropLast G L3.dropLast) := Lib.hid fun y hy => duo_popR hy hLl
                generalize popX L3 = Y at *
                generalize someB L3 = T at *
                have gY : (Y != Y) = false := by simp
                have gT : (T != T) = false := by simp
                have zq : IntKind.i64.wrap (q + 1) = q + 1 := IntWalk.i64_in _ (by omega)
                clear hLl HD
                go_wp2_with fail
                refine (show Calls _ _ _ _ _ from K1.out).mono ?_
                rintro e y1 ⟨rfl, d1⟩
                have K2 := Lib.hid (hS.out _ d1)
                clear d1 K1 hS q1
                go_wp2_with fail
                refine (show Calls _ _ _ _ _ from K2.out).mono ?_
                rintro e y2 ⟨rfl, d2⟩
                have HD := Lib.hid d2
                clear d2 K2
                go_wp2
                go_roundw
                case rel => exact ⟨q + 1, _, by omega, by omega, by omega, rfl, HD⟩
                case measure => simp [RowKit.intOf]; omega
              · have g5 : decide (q < X + 6) = false := by simpa using hq6
                go_wp2
                go_meet
                exact ⟨G, L3, rfl, Lib.hid ⟨HD.out, HGk.out⟩⟩
            · have g4 : decide (q < 0) = false := by simpa using hq0
              go_wp2
              go_meet
              exact ⟨G, L3, rfl, Lib.hid ⟨HD.out, HGk.out⟩⟩
      case rest =>
        obtain ⟨G2, L2, rfl, HD⟩ := hcut
        have HGk : Hid (G2 ≤ k + 1) := Lib.hid HD.out.2
        have K1 := Lib.hid (duo_at HD.out.1 x HX.out)
        clear HD HP HQ q1 i1 hXi
        go_wp2_with fail
        refine (show Calls _ _ _ _ _ from K1.out).mono ?_
        rintro e y ⟨rfl, d1⟩
        have HD := Lib.hid d1
        obtain ⟨A, c, hg, hl, -⟩ := d1.2.1
        have hcap := d1.cap
        have hk0 : ∀ V, Below y.heap.size y V → V.heap[g]? = some (.cells #[.int .i64 (M : Int), .slice A L2.length c, .int .i64 (G2 : Int)] 30 (0, 0)) := fun V hV => (hV.block g (blk_lt hg)).trans hg
        have HK0 := Lib.hid hk0
        have HLi := Lib.hid hl.1
        obtain ⟨S1, S2, S3, S4, S5, S6⟩ := duo_asks d1 x HX.out
        have HSd : Hid (∀ V, Below y.heap.size y V → DuoB w V (.pointer (some ⟨p, 0, none⟩)) g M G2 L2 G2 L2) := Lib.hid fun V hV => d1.old hV
        have S7 : ∀ V A' c', Below y.heap.size y V → LiesI V (.slice A' L2.length c') L2 → Calls Try.prog 17 #[.slice A' L2.length c', .slice A L2.length c] V fun e w' => e = .returned (.bool true) ∧ Below y.heap.size y w' := fun V A' c' hV hz => (same_any hz (hl.1.below hV) (by omega)).mono fun e w' ⟨he, hb⟩ => ⟨by rw [he, decide_eq_true rfl], hV.trans (hb.mono hV.size)⟩
        have hxi := HX.out
        unfold IntIn at hxi
        have S1 := Lib.hid S1
        have S2 := Lib.hid S2
        have S3 := Lib.hid S3
        have S4 := Lib.hid S4
        have S5 := Lib.hid S5
        have S6 := Lib.hid S6
        have S7 := Lib.hid S7
        have kd : Below y.heap.size y y.drew := below_drew (Below.refl _ _) 1
        have a1 := cell_of hg 1
        have b0 := fun V hV => cell_of (HK0.out V hV) 0
        have b1' := fun V hV => cell_of (HK0.out V hV) 1
        have b2' := fun V hV => cell_of (HK0.out V hV) 2
        have hk3 := HL.out.2.2
        by_cases hin : 0 ≤ x ∧ x < (L2.length : Int)
        · obtain ⟨N, rfl⟩ : ∃ N : Nat, x = (N : Int) := ⟨x.toNat, by omega⟩
          have hat : atB L2 (N : Int) = true := by unfold atB; simp; omega
          have hax : atX L2 (N : Int) = L2.getD N 0 := by unfold atX; rw [if_pos hin, Int.toNat_natCast]
          obtain ⟨b, o, rfl, hb, qz⟩ := HLi.out.at_ (k := N) (by omega)
          have qz' := fun V (hV : Below y.heap.size y V) => (hV.cell (p := ⟨b, o + N, none⟩) hb).trans qz
          have iz := idx_int b o L2.length c N (by omega)
          have g1 : decide ((N : Int) ≥ 0) = true := by simp
          have g1' : decide (0 ≤ (N : Int)) = true := by simp
          have g2 : decide ((N : Int) < (L2.length : Int)) = true := by simp; omega
          have g2n : decide (N < L2.length) = true := by simp; omega
          rw [hat, hax]
          generalize (lastV L2 (N : Int)).length = r at *
          generalize lastV L2 (N : Int) = Lx at *
          generalize L2.getD N 0 = Z at *
          generalize hLL : L2.length = q at *
          clear hat hax hg hl hcap hk0 hxi hin d1 qz hb K1 HK0 HLi hLL
          have e1 : ((q : Int) != (q : Int)) = false := by simp
          have e2 : ((G2 : Int) != (G2 : Int)) = false := by simp
          have e3 : (Z != Z) = false := by simp
          as_aux_lemma =>
          go_upto_region 24 with fail
          refine wp_region_held_drew (S := fun V => Below y.heap.size y V) (by kernel_rfl) ?_ (fun hHeld => ?_)
          · exact kd
          refine wpAnyH_take (i := 0) (oi := { dst := some 128, op := Op.move (Operand.tmp 17), type := 4, pos := "law.go:86", after := #[], guard := none }) (v := ?_) rfl (by kernel_rfl) (by kernel_rfl) (by kernel_rfl) (fun _ _ _ h => h) (Or.inl ⟨by rfl, ?_⟩) (by assumption) ?_
          rotate_left
          · intro w hSw
            try dsimp only at hSw
            go_simp <;> with_reducible rfl
          try simp only [Act.put, List.setIfInBounds_toArray, List.set_cons_zero, List.set_cons_succ]
          refine wpAnyH_take (i := 1) (oi := { dst := some 129, op := Op.move (Operand.tmp 18), type := 4, pos := "law.go:86", after := #[], guard := none }) (v := ?_) rfl (by kernel_rfl) (by kernel_rfl) (by kernel_rfl) (fun _ _ _ h => h) (Or.inl ⟨by rfl, ?_⟩) (by assumption) ?_
          rotate_left
          · intro w hSw
            try dsimp only at hSw
            go_simp <;> with_reducible rfl
          try simp only [Act.put, List.setIfInBounds_toArray, List.set_cons_zero, List.set_cons_succ]
          refine wpAnyH_take (i := 2) (oi := { dst := some 130, op := Op.binOp BinOp.neq 4 (Operand.tmp 128) (Operand.tmp 129) 4, type := 4, pos := "law.go:86", after := #[{ on := 0, ground := Ground.data }, { on := 1, ground := Ground.data }], guard := none }) (v := ?_) rfl (by kernel_rfl) (by kernel_rfl) (by kernel_rfl) (fun _ _ _ h => h) (Or.inl ⟨by rfl, ?_⟩) (by assumption) ?_
          rotate_left
          · intro w hSw
            try dsimp only at hSw
            go_simp <;> with_reducible rfl
          try simp only [Act.put, List.setIfInBounds_toArray, List.set_cons_zero, List.set_cons_succ]
          refine wpAnyH_take (i := 3) (oi := { dst := some 131, op := Op.move (Operand.tmp 130), type := 4, pos := "law.go:86", after := #[{ on := 2, ground := Ground.data }], guard := none }) (v := ?_) rfl (by kernel_rfl) (by kernel_rfl) (by kernel_rfl) (fun _ _ _ h => h) (Or.inl ⟨by rfl, ?_⟩) (by assumption) ?_
          rotate_left
          · intro w hSw
            try dsimp only at hSw
            go_simp <;> with_reducible rfl
          try simp only [Act.put, List.setIfInBounds_toArray, List.set_cons_zero, List.set_cons_succ]
          refine wpAnyH_take (i := 4) (oi := { dst := some 132, op := Op.move (Operand.tmp 17), type := 4, pos := "law.go:86", after := #[{ on := 3, ground := Ground.guard }], guard := some (3, false) }) (v := ?_) rfl (by kernel_rfl) (by kernel_rfl) (by kernel_rfl) (fun _ _ _ h => h) (Or.inl ⟨by rfl, ?_⟩) (by assumption) ?_
          rotate_left
          · intro w hSw
            try dsimp only at hSw
            go_simp <;> with_reducible rfl
          try simp only [Act.put, List.setIfInBounds_toArray, List.set_cons_zero, List.set_cons_succ]
          refine wpAnyH_take (i := 5) (oi := { dst := some 133, op := Op.move (Operand.tmp 132), type := 4, pos := "law.go:86", after := #[{ on := 4, ground := Ground.data }, { on := 3, ground := Ground.chain }, { on := 3, ground := Ground.guard }], guard := some (3, false) }) (v := ?_) rfl (by kernel_rfl) (by kernel_rfl) (by kernel_rfl) (fun _ _ _ h => h) (Or.inl ⟨by rfl, ?_⟩) (by assumption) ?_
          rotate_left
          · intro w hSw
            try dsimp only at hSw
            go_simp <;> with_reducible rfl
          try simp only [Act.put, List.setIfInBounds_toArray, List.set_cons_zero, List.set_cons_succ]
          refine wpAnyH_take (i := 6) (oi := { dst := some 134, op := Op.move (Operand.tmp 16), type := 3, pos := "law.go:86", after := #[{ on := 5, ground := Ground.guard }], guard := some (5, true) }) (v := ?_) rfl (by kernel_rfl) (by kernel_rfl) (by kernel_rfl) (fun _ _ _ h => h) (Or.inl ⟨by rfl, ?_⟩) (by assumption) ?_
          rotate_left
          · intro w hSw
            try dsimp only at hSw
            go_simp <;> with_reducible rfl
          try simp only [Act.put, List.setIfInBounds_toArray, List.set_cons_zero, List.set_cons_succ]
          refine wpAnyH_take (i := 7) (oi := { dst := some 135, op := Op.move (Operand.tmp 9), type := 28, pos := "law.go:86", after := #[{ on := 5, ground := Ground.guard }], guard := some (5, true) }) (v := ?_) rfl (by kernel_rfl) (by kernel_rfl) (by kernel_rfl) (fun _ _ _ h => h) (Or.inl ⟨by rfl, ?_⟩) (by assumption) ?_
          rotate_left
          · intro w hSw
            try dsimp only at hSw
            go_simp <;> with_reducible rfl
          try simp only [Act.put, List.setIfInBounds_toArray, List.set_cons_zero, List.set_cons_succ]
          refine wpAnyH_take (i := 8) (oi := { dst := some 136, op := Op.nilCheck (Operand.tmp 135), type := 0, pos := "law.go:86", after := #[{ on := 7, ground := Ground.data }, { on := 5, ground := Ground.guard }], guard := some (5, true) }) (v := ?_) rfl (by kernel_rfl) (by kernel_rfl) (by kernel_rfl) (fun _ _ _ h => h) (Or.inl ⟨by rfl, ?_⟩) (by assumption) ?_
          rotate_left
          · intro w hSw
            try dsimp only at hSw
            go_simp <;> with_reducible rfl
          try simp only [Act.put, List.setIfInBounds_toArray, List.set_cons_zero, List.set_cons_succ]
          refine wpAnyH_take (i := 9) (oi := { dst := some 137, op := Op.fieldAddr 30 (Operand.tmp 136) 1, type := 0, pos := "law.go:86", after := #[{ on := 8, ground := Ground.data }, { on := 5, ground := Ground.guard }], guard := some (5, true) }) (v := ?_) rfl (by kernel_rfl) (by kernel_rfl) (by kernel_rfl) (fun _ _ _ h => h) (Or.inl ⟨by rfl, ?_⟩) (by assumption) ?_
          rotate_left
          · intro w hSw
            try dsimp only at hSw
            go_simp <;> with_reducible rfl
          try simp only [Act.put, List.setIfInBounds_toArray, List.set_cons_zero, List.set_cons_succ]
          refine wpAnyH_take (i := 10) (oi := { dst := some 138, op := Op.load 22 (Operand.tmp 137), type := 22, pos := "law.go:86", after := #[{ on := 9, ground := Ground.data }, { on := 5, ground := Ground.guard }], guard := some (5, true) }) (v := ?_) rfl (by kernel_rfl) (by kernel_rfl) (by kernel_rfl) (fun _ _ _ h => h) (Or.inl ⟨by rfl, ?_⟩) (by assumption) ?_
          rotate_left
          · intro w hSw
            try dsimp only at hSw
            go_simp <;> with_reducible rfl
          try simp only [Act.put, List.setIfInBounds_toArray, List.set_cons_zero, List.set_cons_succ]
          refine wpAnyH_take (i := 11) (oi := { dst := some 139, op := Op.move (Operand.tmp 2), type := 3, pos := "law.go:86", after := #[{ on := 5, ground := Ground.guard }], guard := some (5, true) }) (v := ?_) rfl (by kernel_rfl) (by kernel_rfl) (by kernel_rfl) (fun _ _ _ h => h) (Or.inl ⟨by rfl, ?_⟩) (by assumption) ?_
          rotate_left
          · intro w hSw
            try dsimp only at hSw
            go_simp <;> with_reducible rfl
          try simp only [Act.put, List.setIfInBounds_toArray, List.set_cons_zero, List.set_cons_succ]
          refine wpAnyH_take (i := 12) (oi := { dst := some 140, op := Op.indexAddr 22 (Operand.tmp 138) (Operand.tmp 139), type := 0, pos := "law.go:86", after := #[{ on := 10, ground := Ground.data }, { on := 11, ground := Ground.data }, { on := 5, ground := Ground.guard }], guard := some (5, true) }) (v := ?_) rfl (by kernel_rfl) (by kernel_rfl) (by kernel_rfl) (fun _ _ _ h => h) (Or.inl ⟨by rfl, ?_⟩) (by assumption) ?_
          rotate_left
          · intro w hSw
            try dsimp only at hSw
            go_simp <;> with_reducible rfl
          try simp only [Act.put, List.setIfInBounds_toArray, List.set_cons_zero, List.set_cons_succ]
          refine wpAnyH_take (i := 13) (oi := { dst := some 141, op := Op.load 3 (Operand.tmp 140), type := 3, pos := "law.go:86", after := #[{ on := 12, ground := Ground.data }, { on := 5, ground := Ground.guard }], guard := some (5, true) }) (v := ?_) rfl (by kernel_rfl) (by kernel_rfl) (by kernel_rfl) (fun _ _ _ h => h) (Or.inl ⟨by rfl, ?_⟩) (by assumption) ?_
          rotate_left
          · intro w hSw
            try dsimp only at hSw
            go_simp <;> with_reducible rfl
          try simp only [Act.put, List.setIfInBounds_toArray, List.set_cons_zero, List.set_cons_succ]
          refine wpAnyH_take (i := 14) (oi := { dst := some 142, op := Op.binOp BinOp.neq 3 (Operand.tmp 134) (Operand.tmp 141) 3, type := 4, pos := "law.go:86", after := #[{ on := 6, ground := Ground.data }, { on := 13, ground := Ground.data }, { on := 5, ground := Ground.guard }], guard := some (5, true) }) (v := ?_) rfl (by kernel_rfl) (by kernel_rfl) (by kernel_rfl) (fun _ _ _ h => h) (Or.inl ⟨by rfl, ?_⟩) (by assumption) ?_
          rotate_left
          · intro w hSw
            try dsimp only at hSw
            go_simp <;> with_reducible rfl
          try simp only [Act.put, List.setIfInBounds_toArray, List.set_cons_zero, List.set_cons_succ]
          refine wpAnyH_take (i := 15) (oi := { dst := some 143, op := Op.pick (Operand.tmp 133) (Operand.tmp 142) (Operand.const (Value.bool false)), type := 4, pos := "law.go:86", after := #[{ on := 5, ground := Ground.data }, { on := 14, ground := Ground.data }, { on := 3, ground := Ground.guard }], guard := some (3, false) }) (v := ?_) rfl (by kernel_rfl) (by kernel_rfl) (by kernel_rfl) (fun _ _ _ h => h) (Or.inl ⟨by rfl, ?_⟩) (by assumption) ?_
          rotate_left
          · intro w hSw
            try dsimp only at hSw
            go_simp <;> with_reducible rfl
          try simp only [Act.put, List.setIfInBounds_toArray, List.set_cons_zero, List.set_cons_succ]
          refine wpAnyH_take (i := 16) (oi := { dst := some 144, op := Op.pick (Operand.tmp 131) (Operand.const (Value.bool true)) (Operand.tmp 143), type := 4, pos := "law.go:86", after := #[{ on := 3, ground := Ground.data }, { on := 15, ground := Ground.data }], guard := none }) (v := ?_) rfl (by kernel_rfl) (by kernel_rfl) (by kernel_rfl) (fun _ _ _ h => h) (Or.inl ⟨by rfl, ?_⟩) (by assumption) ?_
          rotate_left
          · intro w hSw
            try dsimp only at hSw
            go_simp <;> with_reducible rfl
          try simp only [Act.put, List.setIfInBounds_toArray, List.set_cons_zero, List.set_cons_succ]
          refine wpAnyH_take (i := 17) (oi := { dst := some 145, op := Op.move (Operand.tmp 144), type := 4, pos := "law.go:86", after := #[{ on := 16, ground := Ground.data }, { on := 5, ground := Ground.chain }], guard := none }) (v := ?_) rfl (by kernel_rfl) (by kernel_rfl) (by kernel_rfl) (fun _ _ _ h => h) (Or.inl ⟨by rfl, ?_⟩) (by assumption) ?_
          rotate_left
          · intro w hSw
            try dsimp only at hSw
            go_simp <;> with_reducible rfl
          try simp only [Act.put, List.setIfInBounds_toArray, List.set_cons_zero, List.set_cons_succ]
          refine wpAnyH_take (i := 18) (oi := { dst := some 146, op := Op.move (Operand.tmp 17), type := 4, pos := "law.go:86", after := #[{ on := 17, ground := Ground.guard }], guard := some (17, false) }) (v := ?_) rfl (by kernel_rfl) (by kernel_rfl) (by kernel_rfl) (fun _ _ _ h => h) (Or.inl ⟨by rfl, ?_⟩) (by assumption) ?_
          rotate_left
          · intro w hSw
            try dsimp only at hSw
            go_simp <;> with_reducible rfl
          try simp only [Act.put, List.setIfInBounds_toArray, List.set_cons_zero, List.set_cons_succ]
          refine wpAnyH_take (i := 19) (oi := { dst := some 147, op := Op.unOp UnOp.not 4 (Operand.tmp 146), type := 4, pos := "law.go:86", after := #[{ on := 18, ground := Ground.data }, { on := 17, ground := Ground.guard }], guard := some (17, false) }) (v := ?_) rfl (by kernel_rfl) (by kernel_rfl) (by kernel_rfl) (fun _ _ _ h => h) (Or.inl ⟨by rfl, ?_⟩) (by assumption) ?_
          rotate_left
          · intro w hSw
            try dsimp only at hSw
            go_simp <;> with_reducible rfl
          try simp only [Act.put, List.setIfInBounds_toArray, List.set_cons_zero, List.set_cons_succ]
          refine wpAnyH_take (i := 20) (oi := { dst := some 148, op := Op.move (Operand.tmp 147), type := 4, pos := "law.go:86", after := #[{ on := 19, ground := Ground.data }, { on := 17, ground := Ground.chain }, { on := 17, ground := Ground.guard }], guard := some (17, false) }) (v := ?_) rfl (by kernel_rfl) (by kernel_rfl) (by kernel_rfl) (fun _ _ _ h => h) (Or.inl ⟨by rfl, ?_⟩) (by assumption) ?_
          rotate_left
          · intro w hSw
            try dsimp only at hSw
            go_simp <;> with_reducible rfl
          try simp only [Act.put, List.setIfInBounds_toArray, List.set_cons_zero, List.set_cons_succ]
          refine wpAnyH_take (i := 21) (oi := { dst := some 149, op := Op.move (Operand.tmp 16), type := 3, pos := "law.go:86", after := #[{ on := 20, ground := Ground.guard }], guard := some (20, true) }) (v := undef) rfl (by kernel_rfl) (by kernel_rfl) (by kernel_rfl) (fun _ _ _ h => h) (Or.inr ⟨by rfl, rfl⟩) (by assumption) ?_
          try simp only [Act.put, List.setIfInBounds_toArray, List.set_cons_zero, List.set_cons_succ]
          refine wpAnyH_take (i := 22) (oi := { dst := some 150, op := Op.binOp BinOp.neq 3 (Operand.tmp 149) (Operand.const (Value.int IntKind.i64 0)) 3, type := 4, pos := "law.go:86", after := #[{ on := 21, ground := Ground.data }, { on := 20, ground := Ground.guard }], guard := some (20, true) }) (v := undef) rfl (by kernel_rfl) (by kernel_rfl) (by kernel_rfl) (fun _ _ _ h => h) (Or.inr ⟨by rfl, rfl⟩) (by assumption) ?_
          try simp only [Act.put, List.setIfInBounds_toArray, List.set_cons_zero, List.set_cons_succ]
          refine wpAnyH_take (i := 23) (oi := { dst := some 151, op := Op.pick (Operand.tmp 148) (Operand.tmp 150) (Operand.const (Value.bool false)), type := 4, pos := "law.go:86", after := #[{ on := 20, ground := Ground.data }, { on := 22, ground := Ground.data }, { on := 17, ground := Ground.guard }], guard := some (17, false) }) (v := ?_) rfl (by kernel_rfl) (by kernel_rfl) (by kernel_rfl) (fun _ _ _ h => h) (Or.inl ⟨by rfl, ?_⟩) (by assumption) ?_
          rotate_left
          · intro w hSw
            try dsimp only at hSw
            go_simp <;> with_reducible rfl
          try simp only [Act.put, List.setIfInBounds_toArray, List.set_cons_zero, List.set_cons_succ]
          refine wpAnyH_take (i := 24) (oi := { dst := some 152, op := Op.pick (Operand.tmp 145) (Operand.const (Value.bool true)) (Operand.tmp 151), type := 4, pos := "law.go:86", after := #[{ on := 17, ground := Ground.data }, { on := 23, ground := Ground.data }], guard := none }) (v := ?_) rfl (by kernel_rfl) (by kernel_rfl) (by kernel_rfl) (fun _ _ _ h => h) (Or.inl ⟨by rfl, ?_⟩) (by assumption) ?_
          rotate_left
          · intro w hSw
            try dsimp only at hSw
            go_simp <;> with_reducible rfl
          try simp only [Act.put, List.setIfInBounds_toArray, List.set_cons_zero, List.set_cons_succ]
          refine wpAnyH_take (i := 25) (oi := { dst := some 153, op := Op.move (Operand.tmp 152), type := 4, pos := "law.go:86", after := #[{ on := 24, ground := Ground.data }, { on := 20, ground := Ground.chain }], guard := none }) (v := ?_) rfl (by kernel_rfl) (by kernel_rfl) (by kernel_rfl) (fun _ _ _ h => h) (Or.inl ⟨by rfl, ?_⟩) (by assumption) ?_
          rotate_left
          · intro w hSw
            try dsimp only at hSw
            go_simp <;> with_reducible rfl
          try simp only [Act.put, List.setIfInBounds_toArray, List.set_cons_zero, List.set_cons_succ]
          refine wpAnyH_take (i := 26) (oi := { dst := some 154, op := Op.move (Operand.tmp 7), type := 24, pos := "law.go:86", after := #[{ on := 25, ground := Ground.guard }], guard := some (25, false) }) (v := ?_) rfl (by kernel_rfl) (by kernel_rfl) (by kernel_rfl) (fun _ _ _ h => h) (Or.inl ⟨by rfl, ?_⟩) (by assumption) ?_
          rotate_left
          · intro w hSw
            try dsimp only at hSw
            go_simp <;> with_reducible rfl
          try simp only [Act.put, List.setIfInBounds_toArray, List.set_cons_zero, List.set_cons_succ]
          refine wpAnyH_take (i := 28) (oi := { dst := some 156, op := Op.move (Operand.tmp 9), type := 28, pos := "law.go:86", after := #[{ on := 25, ground := Ground.guard }], guard := some (25, false) }) (v := ?_) rfl (by kernel_rfl) (by kernel_rfl) (by kernel_rfl) (fun _ _ _ h => h) (Or.inl ⟨by rfl, ?_⟩) (by assumption) ?_
          rotate_left
          · intro w hSw
            try dsimp only at hSw
            go_simp <;> with_reducible rfl
          try simp only [Act.put, List.setIfInBounds_toArray, List.set_cons_zero, List.set_cons_succ]
          refine wpAnyH_take (i := 29) (oi := { dst := some 157, op := Op.nilCheck (Operand.tmp 156), type := 0, pos := "law.go:86", after := #[{ on := 28, ground := Ground.data }, { on := 25, ground := Ground.guard }], guard := some (25, false) }) (v := ?_) rfl (by kernel_rfl) (by kernel_rfl) (by kernel_rfl) (fun _ _ _ h => h) (Or.inl ⟨by rfl, ?_⟩) (by assumption) ?_
          rotate_left
          · intro w hSw
            try dsimp only at hSw
            go_simp <;> with_reducible rfl
          try simp only [Act.put, List.setIfInBounds_toArray, List.set_cons_zero, List.set_cons_succ]
          refine wpAnyH_take (i := 30) (oi := { dst := some 158, op := Op.fieldAddr 30 (Operand.tmp 157) 1, type := 0, pos := "law.go:86", after := #[{ on := 29, ground := Ground.data }, { on := 25, ground := Ground.guard }], guard := some (25, false) }) (v := ?_) rfl (by kernel_rfl) (by kernel_rfl) (by kernel_rfl) (fun _ _ _ h => h) (Or.inl ⟨by rfl, ?_⟩) (by assumption) ?_
          rotate_left
          · intro w hSw
            try dsimp only at hSw
            go_simp <;> with_reducible rfl
          try simp only [Act.put, List.setIfInBounds_toArray, List.set_cons_zero, List.set_cons_succ]
          refine wpAnyH_take (i := 31) (oi := { dst := some 159, op := Op.load 22 (Operand.tmp 158), type := 22, pos := "law.go:86", after := #[{ on := 30, ground := Ground.data }, { on := 25, ground := Ground.guard }], guard := some (25, false) }) (v := ?_) rfl (by kernel_rfl) (by kernel_rfl) (by kernel_rfl) (fun _ _ _ h => h) (Or.inl ⟨by rfl, ?_⟩) (by assumption) ?_
          rotate_left
          · intro w hSw
            try dsimp only at hSw
            go_simp <;> with_reducible rfl
          try simp only [Act.put, List.setIfInBounds_toArray, List.set_cons_zero, List.set_cons_succ]
          refine wpAnyH_take (i := 32) (oi := { dst := some 160, op := Op.call { callee := Callee.builtin Builtin.len, args := #[Operand.tmp 159], argTypes := #[22] }, type := 3, pos := "law.go:86", after := #[{ on := 31, ground := Ground.data }, { on := 25, ground := Ground.guard }], guard := some (25, false) }) (v := ?_) rfl (by kernel_rfl) (by kernel_rfl) (by kernel_rfl) (fun _ _ _ h => h) (Or.inl ⟨by rfl, ?_⟩) (by assumption) ?_
          rotate_left
          · intro w hSw
            try dsimp only at hSw
            go_simp <;> with_reducible rfl
          try simp only [Act.put, List.setIfInBounds_toArray, List.set_cons_zero, List.set_cons_succ]
          refine wpAnyH_ready (rs := [27]) (by kernel_rfl) (by simp) ?_
          refine AllReadyH.cons (o := { dst := some 155, op := Op.call { callee := Callee.value (Operand.func 15), args := #[Operand.tmp 154], argTypes := #[24] }, type := 3, pos := "law.go:86", after := #[{ on := 26, ground := Ground.data }, { on := 25, ground := Ground.chain }, { on := 25, ground := Ground.guard }], guard := some (25, false) }) rfl (fun K hK => ?_) AllReadyH.nil
          go_simp
          refine (S1.out _ (by assumption)).mono ?_
          rintro e v1 ⟨rfl, j1⟩
          try (go_wp2_with fail)
          refine hK.out _ _ ?_ (fun hHeld => ?_)
          · exact j1
          clear hK K
          try simp only [Act.put, List.setIfInBounds_toArray, List.set_cons_zero, List.set_cons_succ]
          refine wpAnyH_take (i := 33) (oi := { dst := some 161, op := Op.binOp BinOp.neq 3 (Operand.tmp 155) (Operand.tmp 160) 3, type := 4, pos := "law.go:86", after := #[{ on := 27, ground := Ground.data }, { on := 32, ground := Ground.data }, { on := 25, ground := Ground.guard }], guard := some (25, false) }) (v := ?_) rfl (by kernel_rfl) (by kernel_rfl) (by kernel_rfl) (fun _ _ _ h => h) (Or.inl ⟨by rfl, ?_⟩) (by assumption) ?_
          rotate_left
          · intro w hSw
            try dsimp only at hSw
            go_simp <;> with_reducible rfl
          try simp only [Act.put, List.setIfInBounds_toArray, List.set_cons_zero, List.set_cons_succ]
          refine wpAnyH_take (i := 34) (oi := { dst := some 162, op := Op.pick (Operand.tmp 153) (Operand.const (Value.bool true)) (Operand.tmp 161), type := 4, pos := "law.go:86", after := #[{ on := 25, ground := Ground.data }, { on := 33, ground := Ground.data }], guard := none }) (v := ?_) rfl (by kernel_rfl) (by kernel_rfl) (by kernel_rfl) (fun _ _ _ h => h) (Or.inl ⟨by rfl, ?_⟩) (by assumption) ?_
          rotate_left
          · intro w hSw
            try dsimp only at hSw
            go_simp <;> with_reducible rfl
          try simp only [Act.put, List.setIfInBounds_toArray, List.set_cons_zero, List.set_cons_succ]
          refine wpAnyH_take (i := 35) (oi := { dst := some 163, op := Op.move (Operand.tmp 162), type := 4, pos := "law.go:86", after := #[{ on := 34, ground := Ground.data }, { on := 27, ground := Ground.chain }], guard := none }) (v := ?_) rfl (by kernel_rfl) (by kernel_rfl) (by kernel_rfl) (fun _ _ _ h => h) (Or.inl ⟨by rfl, ?_⟩) (by assumption) ?_
          rotate_left
          · intro w hSw
            try dsimp only at hSw
            go_simp <;> with_reducible rfl
          try simp only [Act.put, List.setIfInBounds_toArray, List.set_cons_zero, List.set_cons_succ]
          refine wpAnyH_take (i := 36) (oi := { dst := some 164, op := Op.move (Operand.tmp 7), type := 24, pos := "law.go:86", after := #[{ on := 35, ground := Ground.guard }], guard := some (35, false) }) (v := ?_) rfl (by kernel_rfl) (by kernel_rfl) (by kernel_rfl) (fun _ _ _ h => h) (Or.inl ⟨by rfl, ?_⟩) (by assumption) ?_
          rotate_left
          · intro w hSw
            try dsimp only at hSw
            go_simp <;> with_reducible rfl
          try simp only [Act.put, List.setIfInBounds_toArray, List.set_cons_zero, List.set_cons_succ]
          refine wpAnyH_take (i := 38) (oi := { dst := some 166, op := Op.move (Operand.tmp 9), type := 28, pos := "law.go:86", after := #[{ on := 35, ground := Ground.guard }], guard := some (35, false) }) (v := ?_) rfl (by kernel_rfl) (by kernel_rfl) (by kernel_rfl) (fun _ _ _ h => h) (Or.inl ⟨by rfl, ?_⟩) (by assumption) ?_
          rotate_left
          · intro w hSw
            try dsimp only at hSw
            go_simp <;> with_reducible rfl
          try simp only [Act.put, List.setIfInBounds_toArray, List.set_cons_zero, List.set_cons_succ]
          refine wpAnyH_take (i := 39) (oi := { dst := some 167, op := Op.nilCheck (Operand.tmp 166), type := 0, pos := "law.go:86", after := #[{ on := 38, ground := Ground.data }, { on := 35, ground := Ground.guard }], guard := some (35, false) }) (v := ?_) rfl (by kernel_rfl) (by kernel_rfl) (by kernel_rfl) (fun _ _ _ h => h) (Or.inl ⟨by rfl, ?_⟩) (by assumption) ?_
          rotate_left
          · intro w hSw
            try dsimp only at hSw
            go_simp <;> with_reducible rfl
          try simp only [Act.put, List.setIfInBounds_toArray, List.set_cons_zero, List.set_cons_succ]
          refine wpAnyH_take (i := 40) (oi := { dst := some 168, op := Op.fieldAddr 30 (Operand.tmp 167) 2, type := 0, pos := "law.go:86", after := #[{ on := 39, ground := Ground.data }, { on := 35, ground := Ground.guard }], guard := some (35, false) }) (v := ?_) rfl (by kernel_rfl) (by kernel_rfl) (by kernel_rfl) (fun _ _ _ h => h) (Or.inl ⟨by rfl, ?_⟩) (by assumption) ?_
          rotate_left
          · intro w hSw
            try dsimp only at hSw
            go_simp <;> with_reducible rfl
          try simp only [Act.put, List.setIfInBounds_toArray, List.set_cons_zero, List.set_cons_succ]
          refine wpAnyH_take (i := 41) (oi := { dst := some 169, op := Op.load 3 (Operand.tmp 168), type := 3, pos := "law.go:86", after := #[{ on := 40, ground := Ground.data }, { on := 35, ground := Ground.guard }], guard := some (35, false) }) (v := ?_) rfl (by kernel_rfl) (by kernel_rfl) (by kernel_rfl) (fun _ _ _ h => h) (Or.inl ⟨by rfl, ?_⟩) (by assumption) ?_
          rotate_left
          · intro w hSw
            try dsimp only at hSw
            go_simp <;> with_reducible rfl
          try simp only [Act.put, List.setIfInBounds_toArray, List.set_cons_zero, List.set_cons_succ]
          refine wpAnyH_ready (rs := [37]) (by kernel_rfl) (by simp) ?_
          refine AllReadyH.cons (o := { dst := some 165, op := Op.call { callee := Callee.value (Operand.func 16), args := #[Operand.tmp 164], argTypes := #[24] }, type := 3, pos := "law.go:86", after := #[{ on := 36, ground := Ground.data }, { on := 35, ground := Ground.chain }, { on := 35, ground := Ground.guard }], guard := some (35, false) }) rfl (fun K hK => ?_) AllReadyH.nil
          go_simp
          refine (S2.out _ (by assumption)).mono ?_
          rintro e v2 ⟨rfl, j2⟩
          try (go_wp2_with fail)
          refine hK.out _ _ ?_ (fun hHeld => ?_)
          · exact j2
          clear hK K
          try simp only [Act.put, List.setIfInBounds_toArray, List.set_cons_zero, List.set_cons_succ]
          refine wpAnyH_take (i := 42) (oi := { dst := some 170, op := Op.binOp BinOp.neq 3 (Operand.tmp 165) (Operand.tmp 169) 3, type := 4, pos := "law.go:86", after := #[{ on := 37, ground := Ground.data }, { on := 41, ground := Ground.data }, { on := 35, ground := Ground.guard }], guard := some (35, false) }) (v := ?_) rfl (by kernel_rfl) (by kernel_rfl) (by kernel_rfl) (fun _ _ _ h => h) (Or.inl ⟨by rfl, ?_⟩) (by assumption) ?_
          rotate_left
          · intro w hSw
            try dsimp only at hSw
            go_simp <;> with_reducible rfl
          try simp only [Act.put, List.setIfInBounds_toArray, List.set_cons_zero, List.set_cons_succ]
          refine wpAnyH_take (i := 43) (oi := { dst := some 171, op := Op.pick (Operand.tmp 163) (Operand.const (Value.bool true)) (Operand.tmp 170), type := 4, pos := "law.go:86", after := #[{ on := 35, ground := Ground.data }, { on := 42, ground := Ground.data }], guard := none }) (v := ?_) rfl (by kernel_rfl) (by kernel_rfl) (by kernel_rfl) (fun _ _ _ h => h) (Or.inl ⟨by rfl, ?_⟩) (by assumption) ?_
          rotate_left
          · intro w hSw
            try dsimp only at hSw
            go_simp <;> with_reducible rfl
          try simp only [Act.put, List.setIfInBounds_toArray, List.set_cons_zero, List.set_cons_succ]
          refine wpAnyH_take (i := 44) (oi := { dst := some 172, op := Op.move (Operand.tmp 171), type := 4, pos := "law.go:86", after := #[{ on := 43, ground := Ground.data }, { on := 37, ground := Ground.chain }], guard := none }) (v := ?_) rfl (by kernel_rfl) (by kernel_rfl) (by kernel_rfl) (fun _ _ _ h => h) (Or.inl ⟨by rfl, ?_⟩) (by assumption) ?_
          rotate_left
          · intro w hSw
            try dsimp only at hSw
            go_simp <;> with_reducible rfl
          try simp only [Act.put, List.setIfInBounds_toArray, List.set_cons_zero, List.set_cons_succ]
          refine wpAnyH_take (i := 45) (oi := { dst := some 173, op := Op.move (Operand.tmp 7), type := 24, pos := "law.go:86", after := #[{ on := 44, ground := Ground.guard }], guard := some (44, false) }) (v := ?_) rfl (by kernel_rfl) (by kernel_rfl) (by kernel_rfl) (fun _ _ _ h => h) (Or.inl ⟨by rfl, ?_⟩) (by assumption) ?_
          rotate_left
          · intro w hSw
            try dsimp only at hSw
            go_simp <;> with_reducible rfl
          try simp only [Act.put, List.setIfInBounds_toArray, List.set_cons_zero, List.set_cons_succ]
          refine wpAnyH_take (i := 46) (oi := { dst := some 174, op := Op.move (Operand.tmp 2), type := 3, pos := "law.go:86", after := #[{ on := 44, ground := Ground.guard }], guard := some (44, false) }) (v := ?_) rfl (by kernel_rfl) (by kernel_rfl) (by kernel_rfl) (fun _ _ _ h => h) (Or.inl ⟨by rfl, ?_⟩) (by assumption) ?_
          rotate_left
          · intro w hSw
            try dsimp only at hSw
            go_simp <;> with_reducible rfl
          try simp only [Act.put, List.setIfInBounds_toArray, List.set_cons_zero, List.set_cons_succ]
          refine wpAnyH_take (i := 48) (oi := { dst := some 176, op := Op.move (Operand.tmp 9), type := 28, pos := "law.go:86", after := #[{ on := 44, ground := Ground.guard }], guard := some (44, false) }) (v := ?_) rfl (by kernel_rfl) (by kernel_rfl) (by kernel_rfl) (fun _ _ _ h => h) (Or.inl ⟨by rfl, ?_⟩) (by assumption) ?_
          rotate_left
          · intro w hSw
            try dsimp only at hSw
            go_simp <;> with_reducible rfl
          try simp only [Act.put, List.setIfInBounds_toArray, List.set_cons_zero, List.set_cons_succ]
          refine wpAnyH_take (i := 49) (oi := { dst := some 177, op := Op.move (Operand.tmp 2), type := 3, pos := "law.go:86", after := #[{ on := 44, ground := Ground.guard }], guard := some (44, false) }) (v := ?_) rfl (by kernel_rfl) (by kernel_rfl) (by kernel_rfl) (fun _ _ _ h => h) (Or.inl ⟨by rfl, ?_⟩) (by assumption) ?_
          rotate_left
          · intro w hSw
            try dsimp only at hSw
            go_simp <;> with_reducible rfl
          try simp only [Act.put, List.setIfInBounds_toArray, List.set_cons_zero, List.set_cons_succ]
          refine wpAnyH_ready (rs := [47]) (by kernel_rfl) (by simp) ?_
          refine AllReadyH.cons (o := { dst := some 175, op := Op.call { callee := Callee.value (Operand.func 18), args := #[Operand.tmp 173, Operand.tmp 174], argTypes := #[24, 3] }, type := 22, pos := "law.go:86", after := #[{ on := 45, ground := Ground.data }, { on := 46, ground := Ground.data }, { on := 44, ground := Ground.chain }, { on := 44, ground := Ground.guard }], guard := some (44, false) }) rfl (fun K hK => ?_) AllReadyH.nil
          go_simp
          refine (S3.out _ (by assumption)).mono ?_
          rintro e v3 ⟨A5, c5, rfl, l5, j3⟩
          try (go_wp2_with fail)
          refine hK.out _ _ ?_ (fun hHeld => ?_)
          · exact j3
          clear hK K
          try simp only [Act.put, List.setIfInBounds_toArray, List.set_cons_zero, List.set_cons_succ]
          refine wpAnyH_ready (rs := [50]) (by kernel_rfl) (by simp) ?_
          refine AllReadyH.cons (o := { dst := some 178, op := Op.call { callee := Callee.value (Operand.func 19), args := #[Operand.tmp 176, Operand.tmp 177], argTypes := #[28, 3] }, type := 22, pos := "law.go:86", after := #[{ on := 48, ground := Ground.data }, { on := 49, ground := Ground.data }, { on := 47, ground := Ground.chain }, { on := 44, ground := Ground.guard }], guard := some (44, false) }) rfl (fun K hK => ?_) AllReadyH.nil
          go_simp
          refine (S4.out _ A5 c5 (by assumption) l5).mono ?_
          rintro e v4 ⟨A6, c6, rfl, l6, l7, j4⟩
          try (go_wp2_with fail)
          refine hK.out _ _ ?_ (fun hHeld => ?_)
          · exact j4
          clear hK K
          try simp only [Act.put, List.setIfInBounds_toArray, List.set_cons_zero, List.set_cons_succ]
          refine wpAnyH_ready (rs := [51]) (by kernel_rfl) (by simp) ?_
          refine AllReadyH.cons (o := { dst := some 179, op := Op.call { callee := Callee.value (Operand.func 17), args := #[Operand.tmp 175, Operand.tmp 178], argTypes := #[22, 22] }, type := 4, pos := "law.go:86", after := #[{ on := 47, ground := Ground.data }, { on := 50, ground := Ground.data }, { on := 50, ground := Ground.chain }, { on := 44, ground := Ground.guard }], guard := some (44, false) }) rfl (fun K hK => ?_) AllReadyH.nil
          go_simp
          refine (S5.out _ A5 c5 A6 c6 (by assumption) l6 l7).mono ?_
          rintro e v5 ⟨rfl, j5⟩
          try (go_wp2_with fail)
          refine hK.out _ _ ?_ (fun hHeld => ?_)
          · exact j5
          clear hK K
          try simp only [Act.put, List.setIfInBounds_toArray, List.set_cons_zero, List.set_cons_succ]
          refine wpAnyH_take (i := 52) (oi := { dst := some 180, op := Op.unOp UnOp.not 4 (Operand.tmp 179), type := 4, pos := "law.go:86", after := #[{ on := 51, ground := Ground.data }, { on := 44, ground := Ground.guard }], guard := some (44, false) }) (v := ?_) rfl (by kernel_rfl) (by kernel_rfl) (by kernel_rfl) (fun _ _ _ h => h) (Or.inl ⟨by rfl, ?_⟩) (by assumption) ?_
          rotate_left
          · intro w hSw
            try dsimp only at hSw
            go_simp <;> with_reducible rfl
          try simp only [Act.put, List.setIfInBounds_toArray, List.set_cons_zero, List.set_cons_succ]
          refine wpAnyH_take (i := 53) (oi := { dst := some 181, op := Op.pick (Operand.tmp 172) (Operand.const (Value.bool true)) (Operand.tmp 180), type := 4, pos := "law.go:86", after := #[{ on := 44, ground := Ground.data }, { on := 52, ground := Ground.data }], guard := none }) (v := ?_) rfl (by kernel_rfl) (by kernel_rfl) (by kernel_rfl) (fun _ _ _ h => h) (Or.inl ⟨by rfl, ?_⟩) (by assumption) ?_
          rotate_left
          · intro w hSw
            try dsimp only at hSw
            go_simp <;> with_reducible rfl
          try simp only [Act.put, List.setIfInBounds_toArray, List.set_cons_zero, List.set_cons_succ]
          refine wpAnyH_take (i := 54) (oi := { dst := some 182, op := Op.move (Operand.tmp 181), type := 4, pos := "law.go:86", after := #[{ on := 53, ground := Ground.data }, { on := 51, ground := Ground.chain }], guard := none }) (v := ?_) rfl (by kernel_rfl) (by kernel_rfl) (by kernel_rfl) (fun _ _ _ h => h) (Or.inl ⟨by rfl, ?_⟩) (by assumption) ?_
          rotate_left
          · intro w hSw
            try dsimp only at hSw
            go_simp <;> with_reducible rfl
          try simp only [Act.put, List.setIfInBounds_toArray, List.set_cons_zero, List.set_cons_succ]
          refine wpAnyH_take (i := 55) (oi := { dst := some 183, op := Op.move (Operand.tmp 7), type := 24, pos := "law.go:86", after := #[{ on := 54, ground := Ground.guard }], guard := some (54, false) }) (v := ?_) rfl (by kernel_rfl) (by kernel_rfl) (by kernel_rfl) (fun _ _ _ h => h) (Or.inl ⟨by rfl, ?_⟩) (by assumption) ?_
          rotate_left
          · intro w hSw
            try dsimp only at hSw
            go_simp <;> with_reducible rfl
          try simp only [Act.put, List.setIfInBounds_toArray, List.set_cons_zero, List.set_cons_succ]
          refine wpAnyH_take (i := 57) (oi := { dst := some 185, op := Op.move (Operand.tmp 9), type := 28, pos := "law.go:86", after := #[{ on := 54, ground := Ground.guard }], guard := some (54, false) }) (v := ?_) rfl (by kernel_rfl) (by kernel_rfl) (by kernel_rfl) (fun _ _ _ h => h) (Or.inl ⟨by rfl, ?_⟩) (by assumption) ?_
          rotate_left
          · intro w hSw
            try dsimp only at hSw
            go_simp <;> with_reducible rfl
          try simp only [Act.put, List.setIfInBounds_toArray, List.set_cons_zero, List.set_cons_succ]
          refine wpAnyH_take (i := 58) (oi := { dst := some 186, op := Op.nilCheck (Operand.tmp 185), type := 0, pos := "law.go:86", after := #[{ on := 57, ground := Ground.data }, { on := 54, ground := Ground.guard }], guard := some (54, false) }) (v := ?_) rfl (by kernel_rfl) (by kernel_rfl) (by kernel_rfl) (fun _ _ _ h => h) (Or.inl ⟨by rfl, ?_⟩) (by assumption) ?_
          rotate_left
          · intro w hSw
            try dsimp only at hSw
            go_simp <;> with_reducible rfl
          try simp only [Act.put, List.setIfInBounds_toArray, List.set_cons_zero, List.set_cons_succ]
          refine wpAnyH_take (i := 59) (oi := { dst := some 187, op := Op.fieldAddr 30 (Operand.tmp 186) 1, type := 0, pos := "law.go:86", after := #[{ on := 58, ground := Ground.data }, { on := 54, ground := Ground.guard }], guard := some (54, false) }) (v := ?_) rfl (by kernel_rfl) (by kernel_rfl) (by kernel_rfl) (fun _ _ _ h => h) (Or.inl ⟨by rfl, ?_⟩) (by assumption) ?_
          rotate_left
          · intro w hSw
            try dsimp only at hSw
            go_simp <;> with_reducible rfl
          try simp only [Act.put, List.setIfInBounds_toArray, List.set_cons_zero, List.set_cons_succ]
          refine wpAnyH_take (i := 60) (oi := { dst := some 188, op := Op.load 22 (Operand.tmp 187), type := 22, pos := "law.go:86", after := #[{ on := 59, ground := Ground.data }, { on := 54, ground := Ground.guard }], guard := some (54, false) }) (v := ?_) rfl (by kernel_rfl) (by kernel_rfl) (by kernel_rfl) (fun _ _ _ h => h) (Or.inl ⟨by rfl, ?_⟩) (by assumption) ?_
          rotate_left
          · intro w hSw
            try dsimp only at hSw
            go_simp <;> with_reducible rfl
          try simp only [Act.put, List.setIfInBounds_toArray, List.set_cons_zero, List.set_cons_succ]
          refine wpAnyH_ready (rs := [56]) (by kernel_rfl) (by simp) ?_
          refine AllReadyH.cons (o := { dst := some 184, op := Op.call { callee := Callee.value (Operand.func 20), args := #[Operand.tmp 183, Operand.const (Value.int IntKind.i64 1000)], argTypes := #[24, 3] }, type := 22, pos := "law.go:86", after := #[{ on := 55, ground := Ground.data }, { on := 54, ground := Ground.chain }, { on := 54, ground := Ground.guard }], guard := some (54, false) }) rfl (fun K hK => ?_) AllReadyH.nil
          go_simp
          refine (S6.out _ (by assumption)).mono ?_
          rintro e v6 ⟨A8, c8, rfl, l8, j6⟩
          try (go_wp2_with fail)
          refine hK.out _ _ ?_ (fun hHeld => ?_)
          · exact j6
          clear hK K
          try simp only [Act.put, List.setIfInBounds_toArray, List.set_cons_zero, List.set_cons_succ]
          refine wpAnyH_ready (rs := [61]) (by kernel_rfl) (by simp) ?_
          refine AllReadyH.cons (o := { dst := some 189, op := Op.call { callee := Callee.value (Operand.func 17), args := #[Operand.tmp 184, Operand.tmp 188], argTypes := #[22, 22] }, type := 4, pos := "law.go:86", after := #[{ on := 56, ground := Ground.data }, { on := 60, ground := Ground.data }, { on := 56, ground := Ground.chain }, { on := 54, ground := Ground.guard }], guard := some (54, false) }) rfl (fun K hK => ?_) AllReadyH.nil
          go_simp
          refine (S7.out _ A8 c8 (by assumption) l8).mono ?_
          rintro e v7 ⟨rfl, j7⟩
          try (go_wp2_with fail)
          refine hK.out _ _ ?_ (fun hHeld => ?_)
          · exact j7
          clear hK K
          try simp only [Act.put, List.setIfInBounds_toArray, List.set_cons_zero, List.set_cons_succ]
          refine wpAnyH_take (i := 62) (oi := { dst := some 190, op := Op.unOp UnOp.not 4 (Operand.tmp 189), type := 4, pos := "law.go:86", after := #[{ on := 61, ground := Ground.data }, { on := 54, ground := Ground.guard }], guard := some (54, false) }) (v := ?_) rfl (by kernel_rfl) (by kernel_rfl) (by kernel_rfl) (fun _ _ _ h => h) (Or.inl ⟨by rfl, ?_⟩) (by assumption) ?_
          rotate_left
          · intro w hSw
            try dsimp only at hSw
            go_simp <;> with_reducible rfl
          try simp only [Act.put, List.setIfInBounds_toArray, List.set_cons_zero, List.set_cons_succ]
          refine wpAnyH_take (i := 63) (oi := { dst := some 191, op := Op.pick (Operand.tmp 182) (Operand.const (Value.bool true)) (Operand.tmp 190), type := 4, pos := "law.go:86", after := #[{ on := 54, ground := Ground.data }, { on := 62, ground := Ground.data }], guard := none }) (v := ?_) rfl (by kernel_rfl) (by kernel_rfl) (by kernel_rfl) (fun _ _ _ h => h) (Or.inl ⟨by rfl, ?_⟩) (by assumption) ?_
          rotate_left
          · intro w hSw
            try dsimp only at hSw
            go_simp <;> with_reducible rfl
          try simp only [Act.put, List.setIfInBounds_toArray, List.set_cons_zero, List.set_cons_succ]
          refine wpAnyH_done (by kernel_rfl) ?_ _
          have HDn := Lib.hid (HSd.out v7 j7)
          have hk3' : k < n1 := hlt
          clear S1 S2 S3 S4 S5 S6 S7 HSd b0 b1' b2' kd
          go_wp2
          go_roundw
          case rel => exact ⟨k + 1, G2, L2, by omega, by go_num, Lib.hid ⟨HDn.out, HGk.out⟩⟩
          case measure => simp [RowKit.intOf]; omega
        · have hat : atB L2 x = false := by unfold atB; simp; omega
          have hax : atX L2 x = 0 := by unfold atX; rw [if_neg hin]
          have hg12 : (decide (0 ≤ x) = false ∧ decide (x ≥ 0) = false) ∨ (decide (0 ≤ x) = true ∧ decide (x ≥ 0) = true) ∧ decide (x < (L2.length : Int)) = false := by
            by_cases h0 : 0 ≤ x
            · exact Or.inr ⟨⟨by simpa using h0, by simpa using h0⟩, by simp; omega⟩
            · exact Or.inl ⟨by simpa using h0, by simpa using h0⟩
          rw [hat, hax]
          generalize (lastV L2 x).length = r at *
          generalize lastV L2 x = Lx at *
          generalize hLL : L2.length = q at *
          have e1 : ((q : Int) != (q : Int)) = false := by simp
          have e2 : ((G2 : Int) != (G2 : Int)) = false := by simp
          clear hat hax hg hl hcap hk0 hxi hin d1 K1 HK0 HLi hLL
          rcases hg12 with ⟨g1, g1'⟩ | ⟨⟨g1, g1'⟩, g2⟩
          all_goals
            as_aux_lemma =>
            go_upto_region 24 with fail
            refine wp_region_held_drew (S := fun V => Below y.heap.size y V) (by kernel_rfl) ?_ (fun hHeld => ?_)
            · exact kd
            refine wpAnyH_take (i := 0) (oi := { dst := some 128, op := Op.move (Operand.tmp 17), type := 4, pos := "law.go:86", after := #[], guard := none }) (v := ?_) rfl (by kernel_rfl) (by kernel_rfl) (by kernel_rfl) (fun _ _ _ h => h) (Or.inl ⟨by rfl, ?_⟩) (by assumption) ?_
            rotate_left
            · intro w hSw
              try dsimp only at hSw
              go_simp <;> with_reducible rfl
            try simp only [Act.put, List.setIfInBounds_toArray, List.set_cons_zero, List.set_cons_succ]
            refine wpAnyH_take (i := 1) (oi := { dst := some 129, op := Op.move (Operand.tmp 18), type := 4, pos := "law.go:86", after := #[], guard := none }) (v := ?_) rfl (by kernel_rfl) (by kernel_rfl) (by kernel_rfl) (fun _ _ _ h => h) (Or.inl ⟨by rfl, ?_⟩) (by assumption) ?_
            rotate_left
            · intro w hSw
              try dsimp only at hSw
              go_simp <;> with_reducible rfl
            try simp only [Act.put, List.setIfInBounds_toArray, List.set_cons_zero, List.set_cons_succ]
            refine wpAnyH_take (i := 2) (oi := { dst := some 130, op := Op.binOp BinOp.neq 4 (Operand.tmp 128) (Operand.tmp 129) 4, type := 4, pos := "law.go:86", after := #[{ on := 0, ground := Ground.data }, { on := 1, ground := Ground.data }], guard := none }) (v := ?_) rfl (by kernel_rfl) (by kernel_rfl) (by kernel_rfl) (fun _ _ _ h => h) (Or.inl ⟨by rfl, ?_⟩) (by assumption) ?_
            rotate_left
            · intro w hSw
              try dsimp only at hSw
              go_simp <;> with_reducible rfl
            try simp only [Act.put, List.setIfInBounds_toArray, List.set_cons_zero, List.set_cons_succ]
            refine wpAnyH_take (i := 3) (oi := { dst := some 131, op := Op.move (Operand.tmp 130), type := 4, pos := "law.go:86", after := #[{ on := 2, ground := Ground.data }], guard := none }) (v := ?_) rfl (by kernel_rfl) (by kernel_rfl) (by kernel_rfl) (fun _ _ _ h => h) (Or.inl ⟨by rfl, ?_⟩) (by assumption) ?_
            rotate_left
            · intro w hSw
              try dsimp only at hSw
              go_simp <;> with_reducible rfl
            try simp only [Act.put, List.setIfInBounds_toArray, List.set_cons_zero, List.set_cons_succ]
            refine wpAnyH_take (i := 4) (oi := { dst := some 132, op := Op.move (Operand.tmp 17), type := 4, pos := "law.go:86", after := #[{ on := 3, ground := Ground.guard }], guard := some (3, false) }) (v := ?_) rfl (by kernel_rfl) (by kernel_rfl) (by kernel_rfl) (fun _ _ _ h => h) (Or.inl ⟨by rfl, ?_⟩) (by assumption) ?_
            rotate_left
            · intro w hSw
              try dsimp only at hSw
              go_simp <;> with_reducible rfl
            try simp only [Act.put, List.setIfInBounds_toArray, List.set_cons_zero, List.set_cons_succ]
            refine wpAnyH_take (i := 5) (oi := { dst := some 133, op := Op.move (Operand.tmp 132), type := 4, pos := "law.go:86", after := #[{ on := 4, ground := Ground.data }, { on := 3, ground := Ground.chain }, { on := 3, ground := Ground.guard }], guard := some (3, false) }) (v := ?_) rfl (by kernel_rfl) (by kernel_rfl) (by kernel_rfl) (fun _ _ _ h => h) (Or.inl ⟨by rfl, ?_⟩) (by assumption) ?_
            rotate_left
            · intro w hSw
              try dsimp only at hSw
              go_simp <;> with_reducible rfl
            try simp only [Act.put, List.setIfInBounds_toArray, List.set_cons_zero, List.set_cons_succ]
            refine wpAnyH_take (i := 6) (oi := { dst := some 134, op := Op.move (Operand.tmp 16), type := 3, pos := "law.go:86", after := #[{ on := 5, ground := Ground.guard }], guard := some (5, true) }) (v := undef) rfl (by kernel_rfl) (by kernel_rfl) (by kernel_rfl) (fun _ _ _ h => h) (Or.inr ⟨by rfl, rfl⟩) (by assumption) ?_
            try simp only [Act.put, List.setIfInBounds_toArray, List.set_cons_zero, List.set_cons_succ]
            refine wpAnyH_take (i := 7) (oi := { dst := some 135, op := Op.move (Operand.tmp 9), type := 28, pos := "law.go:86", after := #[{ on := 5, ground := Ground.guard }], guard := some (5, true) }) (v := undef) rfl (by kernel_rfl) (by kernel_rfl) (by kernel_rfl) (fun _ _ _ h => h) (Or.inr ⟨by rfl, rfl⟩) (by assumption) ?_
            try simp only [Act.put, List.setIfInBounds_toArray, List.set_cons_zero, List.set_cons_succ]
            refine wpAnyH_take (i := 8) (oi := { dst := some 136, op := Op.nilCheck (Operand.tmp 135), type := 0, pos := "law.go:86", after := #[{ on := 7, ground := Ground.data }, { on := 5, ground := Ground.guard }], guard := some (5, true) }) (v := undef) rfl (by kernel_rfl) (by kernel_rfl) (by kernel_rfl) (fun _ _ _ h => h) (Or.inr ⟨by rfl, rfl⟩) (by assumption) ?_
            try simp only [Act.put, List.setIfInBounds_toArray, List.set_cons_zero, List.set_cons_succ]
            refine wpAnyH_take (i := 9) (oi := { dst := some 137, op := Op.fieldAddr 30 (Operand.tmp 136) 1, type := 0, pos := "law.go:86", after := #[{ on := 8, ground := Ground.data }, { on := 5, ground := Ground.guard }], guard := some (5, true) }) (v := undef) rfl (by kernel_rfl) (by kernel_rfl) (by kernel_rfl) (fun _ _ _ h => h) (Or.inr ⟨by rfl, rfl⟩) (by assumption) ?_
            try simp only [Act.put, List.setIfInBounds_toArray, List.set_cons_zero, List.set_cons_succ]
            refine wpAnyH_take (i := 10) (oi := { dst := some 138, op := Op.load 22 (Operand.tmp 137), type := 22, pos := "law.go:86", after := #[{ on := 9, ground := Ground.data }, { on := 5, ground := Ground.guard }], guard := some (5, true) }) (v := undef) rfl (by kernel_rfl) (by kernel_rfl) (by kernel_rfl) (fun _ _ _ h => h) (Or.inr ⟨by rfl, rfl⟩) (by assumption) ?_
            try simp only [Act.put, List.setIfInBounds_toArray, List.set_cons_zero, List.set_cons_succ]
            refine wpAnyH_take (i := 11) (oi := { dst := some 139, op := Op.move (Operand.tmp 2), type := 3, pos := "law.go:86", after := #[{ on := 5, ground := Ground.guard }], guard := some (5, true) }) (v := undef) rfl (by kernel_rfl) (by kernel_rfl) (by kernel_rfl) (fun _ _ _ h => h) (Or.inr ⟨by rfl, rfl⟩) (by assumption) ?_
            try simp only [Act.put, List.setIfInBounds_toArray, List.set_cons_zero, List.set_cons_succ]
            refine wpAnyH_take (i := 12) (oi := { dst := some 140, op := Op.indexAddr 22 (Operand.tmp 138) (Operand.tmp 139), type := 0, pos := "law.go:86", after := #[{ on := 10, ground := Ground.data }, { on := 11, ground := Ground.data }, { on := 5, ground := Ground.guard }], guard := some (5, true) }) (v := undef) rfl (by kernel_rfl) (by kernel_rfl) (by kernel_rfl) (fun _ _ _ h => h) (Or.inr ⟨by rfl, rfl⟩) (by assumption) ?_
            try simp only [Act.put, List.setIfInBounds_toArray, List.set_cons_zero, List.set_cons_succ]
            refine wpAnyH_take (i := 13) (oi := { dst := some 141, op := Op.load 3 (Operand.tmp 140), type := 3, pos := "law.go:86", after := #[{ on := 12, ground := Ground.data }, { on := 5, ground := Ground.guard }], guard := some (5, true) }) (v := undef) rfl (by kernel_rfl) (by kernel_rfl) (by kernel_rfl) (fun _ _ _ h => h) (Or.inr ⟨by rfl, rfl⟩) (by assumption) ?_
            try simp only [Act.put, List.setIfInBounds_toArray, List.set_cons_zero, List.set_cons_succ]
            refine wpAnyH_take (i := 14) (oi := { dst := some 142, op := Op.binOp BinOp.neq 3 (Operand.tmp 134) (Operand.tmp 141) 3, type := 4, pos := "law.go:86", after := #[{ on := 6, ground := Ground.data }, { on := 13, ground := Ground.data }, { on := 5, ground := Ground.guard }], guard := some (5, true) }) (v := undef) rfl (by kernel_rfl) (by kernel_rfl) (by kernel_rfl) (fun _ _ _ h => h) (Or.inr ⟨by rfl, rfl⟩) (by assumption) ?_
            try simp only [Act.put, List.setIfInBounds_toArray, List.set_cons_zero, List.set_cons_succ]
            refine wpAnyH_take (i := 15) (oi := { dst := some 143, op := Op.pick (Operand.tmp 133) (Operand.tmp 142) (Operand.const (Value.bool false)), type := 4, pos := "law.go:86", after := #[{ on := 5, ground := Ground.data }, { on := 14, ground := Ground.data }, { on := 3, ground := Ground.guard }], guard := some (3, false) }) (v := ?_) rfl (by kernel_rfl) (by kernel_rfl) (by kernel_rfl) (fun _ _ _ h => h) (Or.inl ⟨by rfl, ?_⟩) (by assumption) ?_
            rotate_left
            · intro w hSw
              try dsimp only at hSw
              go_simp <;> with_reducible rfl
            try simp only [Act.put, List.setIfInBounds_toArray, List.set_cons_zero, List.set_cons_succ]
            refine wpAnyH_take (i := 16) (oi := { dst := some 144, op := Op.pick (Operand.tmp 131) (Operand.const (Value.bool true)) (Operand.tmp 143), type := 4, pos := "law.go:86", after := #[{ on := 3, ground := Ground.data }, { on := 15, ground := Ground.data }], guard := none }) (v := ?_) rfl (by kernel_rfl) (by kernel_rfl) (by kernel_rfl) (fun _ _ _ h => h) (Or.inl ⟨by rfl, ?_⟩) (by assumption) ?_
            rotate_left
            · intro w hSw
              try dsimp only at hSw
              go_simp <;> with_reducible rfl
            try simp only [Act.put, List.setIfInBounds_toArray, List.set_cons_zero, List.set_cons_succ]
            refine wpAnyH_take (i := 17) (oi := { dst := some 145, op := Op.move (Operand.tmp 144), type := 4, pos := "law.go:86", after := #[{ on := 16, ground := Ground.data }, { on := 5, ground := Ground.chain }], guard := none }) (v := ?_) rfl (by kernel_rfl) (by kernel_rfl) (by kernel_rfl) (fun _ _ _ h => h) (Or.inl ⟨by rfl, ?_⟩) (by assumption) ?_
            rotate_left
            · intro w hSw
              try dsimp only at hSw
              go_simp <;> with_reducible rfl
            try simp only [Act.put, List.setIfInBounds_toArray, List.set_cons_zero, List.set_cons_succ]
            refine wpAnyH_take (i := 18) (oi := { dst := some 146, op := Op.move (Operand.tmp 17), type := 4, pos := "law.go:86", after := #[{ on := 17, ground := Ground.guard }], guard := some (17, false) }) (v := ?_) rfl (by kernel_rfl) (by kernel_rfl) (by kernel_rfl) (fun _ _ _ h => h) (Or.inl ⟨by rfl, ?_⟩) (by assumption) ?_
            rotate_left
            · intro w hSw
              try dsimp only at hSw
              go_simp <;> with_reducible rfl
            try simp only [Act.put, List.setIfInBounds_toArray, List.set_cons_zero, List.set_cons_succ]
            refine wpAnyH_take (i := 19) (oi := { dst := some 147, op := Op.unOp UnOp.not 4 (Operand.tmp 146), type := 4, pos := "law.go:86", after := #[{ on := 18, ground := Ground.data }, { on := 17, ground := Ground.guard }], guard := some (17, false) }) (v := ?_) rfl (by kernel_rfl) (by kernel_rfl) (by kernel_rfl) (fun _ _ _ h => h) (Or.inl ⟨by rfl, ?_⟩) (by assumption) ?_
            rotate_left
            · intro w hSw
              try dsimp only at hSw
              go_simp <;> with_reducible rfl
            try simp only [Act.put, List.setIfInBounds_toArray, List.set_cons_zero, List.set_cons_succ]
            refine wpAnyH_take (i := 20) (oi := { dst := some 148, op := Op.move (Operand.tmp 147), type := 4, pos := "law.go:86", after := #[{ on := 19, ground := Ground.data }, { on := 17, ground := Ground.chain }, { on := 17, ground := Ground.guard }], guard := some (17, false) }) (v := ?_) rfl (by kernel_rfl) (by kernel_rfl) (by kernel_rfl) (fun _ _ _ h => h) (Or.inl ⟨by rfl, ?_⟩) (by assumption) ?_
            rotate_left
            · intro w hSw
              try dsimp only at hSw
              go_simp <;> with_reducible rfl
            try simp only [Act.put, List.setIfInBounds_toArray, List.set_cons_zero, List.set_cons_succ]
            refine wpAnyH_take (i := 21) (oi := { dst := some 149, op := Op.move (Operand.tmp 16), type := 3, pos := "law.go:86", after := #[{ on := 20, ground := Ground.guard }], guard := some (20, true) }) (v := ?_) rfl (by kernel_rfl) (by kernel_rfl) (by kernel_rfl) (fun _ _ _ h => h) (Or.inl ⟨by rfl, ?_⟩) (by assumption) ?_
            rotate_left
            · intro w hSw
              try dsimp only at hSw
              go_simp <;> with_reducible rfl
            try simp only [Act.put, List.setIfInBounds_toArray, List.set_cons_zero, List.set_cons_succ]
            refine wpAnyH_take (i := 22) (oi := { dst := some 150, op := Op.binOp BinOp.neq 3 (Operand.tmp 149) (Operand.const (Value.int IntKind.i64 0)) 3, type := 4, pos := "law.go:86", after := #[{ on := 21, ground := Ground.data }, { on := 20, ground := Ground.guard }], guard := some (20, true) }) (v := ?_) rfl (by kernel_rfl) (by kernel_rfl) (by kernel_rfl) (fun _ _ _ h => h) (Or.inl ⟨by rfl, ?_⟩) (by assumption) ?_
            rotate_left
            · intro w hSw
              try dsimp only at hSw
              go_simp <;> with_reducible rfl
            try simp only [Act.put, List.setIfInBounds_toArray, List.set_cons_zero, List.set_cons_succ]
            refine wpAnyH_take (i := 23) (oi := { dst := some 151, op := Op.pick (Operand.tmp 148) (Operand.tmp 150) (Operand.const (Value.bool false)), type := 4, pos := "law.go:86", after := #[{ on := 20, ground := Ground.data }, { on := 22, ground := Ground.data }, { on := 17, ground := Ground.guard }], guard := some (17, false) }) (v := ?_) rfl (by kernel_rfl) (by kernel_rfl) (by kernel_rfl) (fun _ _ _ h => h) (Or.inl ⟨by rfl, ?_⟩) (by assumption) ?_
            rotate_left
            · intro w hSw
              try dsimp only at hSw
              go_simp <;> with_reducible rfl
            try simp only [Act.put, List.setIfInBounds_toArray, List.set_cons_zero, List.set_cons_succ]
            refine wpAnyH_take (i := 24) (oi := { dst := some 152, op := Op.pick (Operand.tmp 145) (Operand.const (Value.bool true)) (Operand.tmp 151), type := 4, pos := "law.go:86", after := #[{ on := 17, ground := Ground.data }, { on := 23, ground := Ground.data }], guard := none }) (v := ?_) rfl (by kernel_rfl) (by kernel_rfl) (by kernel_rfl) (fun _ _ _ h => h) (Or.inl ⟨by rfl, ?_⟩) (by assumption) ?_
            rotate_left
            · intro w hSw
              try dsimp only at hSw
              go_simp <;> with_reducible rfl
            try simp only [Act.put, List.setIfInBounds_toArray, List.set_cons_zero, List.set_cons_succ]
            refine wpAnyH_take (i := 25) (oi := { dst := some 153, op := Op.move (Operand.tmp 152), type := 4, pos := "law.go:86", after := #[{ on := 24, ground := Ground.data }, { on := 20, ground := Ground.chain }], guard := none }) (v := ?_) rfl (by kernel_rfl) (by kernel_rfl) (by kernel_rfl) (fun _ _ _ h => h) (Or.inl ⟨by rfl, ?_⟩) (by assumption) ?_
            rotate_left
            · intro w hSw
              try dsimp only at hSw
              go_simp <;> with_reducible rfl
            try simp only [Act.put, List.setIfInBounds_toArray, List.set_cons_zero, List.set_cons_succ]
            refine wpAnyH_take (i := 26) (oi := { dst := some 154, op := Op.move (Operand.tmp 7), type := 24, pos := "law.go:86", after := #[{ on := 25, ground := Ground.guard }], guard := some (25, false) }) (v := ?_) rfl (by kernel_rfl) (by kernel_rfl) (by kernel_rfl) (fun _ _ _ h => h) (Or.inl ⟨by rfl, ?_⟩) (by assumption) ?_
            rotate_left
            · intro w hSw
              try dsimp only at hSw
              go_simp <;> with_reducible rfl
            try simp only [Act.put, List.setIfInBounds_toArray, List.set_cons_zero, List.set_cons_succ]
            refine wpAnyH_take (i := 28) (oi := { dst := some 156, op := Op.move (Operand.tmp 9), type := 28, pos := "law.go:86", after := #[{ on := 25, ground := Ground.guard }], guard := some (25, false) }) (v := ?_) rfl (by kernel_rfl) (by kernel_rfl) (by kernel_rfl) (fun _ _ _ h => h) (Or.inl ⟨by rfl, ?_⟩) (by assumption) ?_
            rotate_left
            · intro w hSw
              try dsimp only at hSw
              go_simp <;> with_reducible rfl
            try simp only [Act.put, List.setIfInBounds_toArray, List.set_cons_zero, List.set_cons_succ]
            refine wpAnyH_take (i := 29) (oi := { dst := some 157, op := Op.nilCheck (Operand.tmp 156), type := 0, pos := "law.go:86", after := #[{ on := 28, ground := Ground.data }, { on := 25, ground := Ground.guard }], guard := some (25, false) }) (v := ?_) rfl (by kernel_rfl) (by kernel_rfl) (by kernel_rfl) (fun _ _ _ h => h) (Or.inl ⟨by rfl, ?_⟩) (by assumption) ?_
            rotate_left
            · intro w hSw
              try dsimp only at hSw
              go_simp <;> with_reducible rfl
            try simp only [Act.put, List.setIfInBounds_toArray, List.set_cons_zero, List.set_cons_succ]
            refine wpAnyH_take (i := 30) (oi := { dst := some 158, op := Op.fieldAddr 30 (Operand.tmp 157) 1, type := 0, pos := "law.go:86", after := #[{ on := 29, ground := Ground.data }, { on := 25, ground := Ground.guard }], guard := some (25, false) }) (v := ?_) rfl (by kernel_rfl) (by kernel_rfl) (by kernel_rfl) (fun _ _ _ h => h) (Or.inl ⟨by rfl, ?_⟩) (by assumption) ?_
            rotate_left
            · intro w hSw
              try dsimp only at hSw
              go_simp <;> with_reducible rfl
            try simp only [Act.put, List.setIfInBounds_toArray, List.set_cons_zero, List.set_cons_succ]
            refine wpAnyH_take (i := 31) (oi := { dst := some 159, op := Op.load 22 (Operand.tmp 158), type := 22, pos := "law.go:86", after := #[{ on := 30, ground := Ground.data }, { on := 25, ground := Ground.guard }], guard := some (25, false) }) (v := ?_) rfl (by kernel_rfl) (by kernel_rfl) (by kernel_rfl) (fun _ _ _ h => h) (Or.inl ⟨by rfl, ?_⟩) (by assumption) ?_
            rotate_left
            · intro w hSw
              try dsimp only at hSw
              go_simp <;> with_reducible rfl
            try simp only [Act.put, List.setIfInBounds_toArray, List.set_cons_zero, List.set_cons_succ]
            refine wpAnyH_take (i := 32) (oi := { dst := some 160, op := Op.call { callee := Callee.builtin Builtin.len, args := #[Operand.tmp 159], argTypes := #[22] }, type := 3, pos := "law.go:86", after := #[{ on := 31, ground := Ground.data }, { on := 25, ground := Ground.guard }], guard := some (25, false) }) (v := ?_) rfl (by kernel_rfl) (by kernel_rfl) (by kernel_rfl) (fun _ _ _ h => h) (Or.inl ⟨by rfl, ?_⟩) (by assumption) ?_
            rotate_left
            · intro w hSw
              try dsimp only at hSw
              go_simp <;> with_reducible rfl
            try simp only [Act.put, List.setIfInBounds_toArray, List.set_cons_zero, List.set_cons_succ]
            refine wpAnyH_ready (rs := [27]) (by kernel_rfl) (by simp) ?_
            refine AllReadyH.cons (o := { dst := some 155, op := Op.call { callee := Callee.value (Operand.func 15), args := #[Operand.tmp 154], argTypes := #[24] }, type := 3, pos := "law.go:86", after := #[{ on := 26, ground := Ground.data }, { on := 25, ground := Ground.chain }, { on := 25, ground := Ground.guard }], guard := some (25, false) }) rfl (fun K hK => ?_) AllReadyH.nil
            go_simp
            refine (S1.out _ (by assumption)).mono ?_
            rintro e v1 ⟨rfl, j1⟩
            try (go_wp2_with fail)
            refine hK.out _ _ ?_ (fun hHeld => ?_)
            · exact j1
            clear hK K
            try simp only [Act.put, List.setIfInBounds_toArray, List.set_cons_zero, List.set_cons_succ]
            refine wpAnyH_take (i := 33) (oi := { dst := some 161, op := Op.binOp BinOp.neq 3 (Operand.tmp 155) (Operand.tmp 160) 3, type := 4, pos := "law.go:86", after := #[{ on := 27, ground := Ground.data }, { on := 32, ground := Ground.data }, { on := 25, ground := Ground.guard }], guard := some (25, false) }) (v := ?_) rfl (by kernel_rfl) (by kernel_rfl) (by kernel_rfl) (fun _ _ _ h => h) (Or.inl ⟨by rfl, ?_⟩) (by assumption) ?_
            rotate_left
            · intro w hSw
              try dsimp only at hSw
              go_simp <;> with_reducible rfl
            try simp only [Act.put, List.setIfInBounds_toArray, List.set_cons_zero, List.set_cons_succ]
            refine wpAnyH_take (i := 34) (oi := { dst := some 162, op := Op.pick (Operand.tmp 153) (Operand.const (Value.bool true)) (Operand.tmp 161), type := 4, pos := "law.go:86", after := #[{ on := 25, ground := Ground.data }, { on := 33, ground := Ground.data }], guard := none }) (v := ?_) rfl (by kernel_rfl) (by kernel_rfl) (by kernel_rfl) (fun _ _ _ h => h) (Or.inl ⟨by rfl, ?_⟩) (by assumption) ?_
            rotate_left
            · intro w hSw
              try dsimp only at hSw
              go_simp <;> with_reducible rfl
            try simp only [Act.put, List.setIfInBounds_toArray, List.set_cons_zero, List.set_cons_succ]
            refine wpAnyH_take (i := 35) (oi := { dst := some 163, op := Op.move (Operand.tmp 162), type := 4, pos := "law.go:86", after := #[{ on := 34, ground := Ground.data }, { on := 27, ground := Ground.chain }], guard := none }) (v := ?_) rfl (by kernel_rfl) (by kernel_rfl) (by kernel_rfl) (fun _ _ _ h => h) (Or.inl ⟨by rfl, ?_⟩) (by assumption) ?_
            rotate_left
            · intro w hSw
              try dsimp only at hSw
              go_simp <;> with_reducible rfl
            try simp only [Act.put, List.setIfInBounds_toArray, List.set_cons_zero, List.set_cons_succ]
            refine wpAnyH_take (i := 36) (oi := { dst := some 164, op := Op.move (Operand.tmp 7), type := 24, pos := "law.go:86", after := #[{ on := 35, ground := Ground.guard }], guard := some (35, false) }) (v := ?_) rfl (by kernel_rfl) (by kernel_rfl) (by kernel_rfl) (fun _ _ _ h => h) (Or.inl ⟨by rfl, ?_⟩) (by assumption) ?_
            rotate_left
            · intro w hSw
              try dsimp only at hSw
              go_simp <;> with_reducible rfl
            try simp only [Act.put, List.setIfInBounds_toArray, List.set_cons_zero, List.set_cons_succ]
            refine wpAnyH_take (i := 38) (oi := { dst := some 166, op := Op.move (Operand.tmp 9), type := 28, pos := "law.go:86", after := #[{ on := 35, ground := Ground.guard }], guard := some (35, false) }) (v := ?_) rfl (by kernel_rfl) (by kernel_rfl) (by kernel_rfl) (fun _ _ _ h => h) (Or.inl ⟨by rfl, ?_⟩) (by assumption) ?_
            rotate_left
            · intro w hSw
              try dsimp only at hSw
              go_simp <;> with_reducible rfl
            try simp only [Act.put, List.setIfInBounds_toArray, List.set_cons_zero, List.set_cons_succ]
            refine wpAnyH_take (i := 39) (oi := { dst := some 167, op := Op.nilCheck (Operand.tmp 166), type := 0, pos := "law.go:86", after := #[{ on := 38, ground := Ground.data }, { on := 35, ground := Ground.guard }], guard := some (35, false) }) (v := ?_) rfl (by kernel_rfl) (by kernel_rfl) (by kernel_rfl) (fun _ _ _ h => h) (Or.inl ⟨by rfl, ?_⟩) (by assumption) ?_
            rotate_left
            · intro w hSw
              try dsimp only at hSw
              go_simp <;> with_reducible rfl
            try simp only [Act.put, List.setIfInBounds_toArray, List.set_cons_zero, List.set_cons_succ]
            refine wpAnyH_take (i := 40) (oi := { dst := some 168, op := Op.fieldAddr 30 (Operand.tmp 167) 2, type := 0, pos := "law.go:86", after := #[{ on := 39, ground := Ground.data }, { on := 35, ground := Ground.guard }], guard := some (35, false) }) (v := ?_) rfl (by kernel_rfl) (by kernel_rfl) (by kernel_rfl) (fun _ _ _ h => h) (Or.inl ⟨by rfl, ?_⟩) (by assumption) ?_
            rotate_left
            · intro w hSw
              try dsimp only at hSw
              go_simp <;> with_reducible rfl
            try simp only [Act.put, List.setIfInBounds_toArray, List.set_cons_zero, List.set_cons_succ]
            refine wpAnyH_take (i := 41) (oi := { dst := some 169, op := Op.load 3 (Operand.tmp 168), type := 3, pos := "law.go:86", after := #[{ on := 40, ground := Ground.data }, { on := 35, ground := Ground.guard }], guard := some (35, false) }) (v := ?_) rfl (by kernel_rfl) (by kernel_rfl) (by kernel_rfl) (fun _ _ _ h => h) (Or.inl ⟨by rfl, ?_⟩) (by assumption) ?_
            rotate_left
            · intro w hSw
              try dsimp only at hSw
              go_simp <;> with_reducible rfl
            try simp only [Act.put, List.setIfInBounds_toArray, List.set_cons_zero, List.set_cons_succ]
            refine wpAnyH_ready (rs := [37]) (by kernel_rfl) (by simp) ?_
            refine AllReadyH.cons (o := { dst := some 165, op := Op.call { callee := Callee.value (Operand.func 16), args := #[Operand.tmp 164], argTypes := #[24] }, type := 3, pos := "law.go:86", after := #[{ on := 36, ground := Ground.data }, { on := 35, ground := Ground.chain }, { on := 35, ground := Ground.guard }], guard := some (35, false) }) rfl (fun K hK => ?_) AllReadyH.nil
            go_simp
            refine (S2.out _ (by assumption)).mono ?_
            rintro e v2 ⟨rfl, j2⟩
            try (go_wp2_with fail)
            refine hK.out _ _ ?_ (fun hHeld => ?_)
            · exact j2
            clear hK K
            try simp only [Act.put, List.setIfInBounds_toArray, List.set_cons_zero, List.set_cons_succ]
            refine wpAnyH_take (i := 42) (oi := { dst := some 170, op := Op.binOp BinOp.neq 3 (Operand.tmp 165) (Operand.tmp 169) 3, type := 4, pos := "law.go:86", after := #[{ on := 37, ground := Ground.data }, { on := 41, ground := Ground.data }, { on := 35, ground := Ground.guard }], guard := some (35, false) }) (v := ?_) rfl (by kernel_rfl) (by kernel_rfl) (by kernel_rfl) (fun _ _ _ h => h) (Or.inl ⟨by rfl, ?_⟩) (by assumption) ?_
            rotate_left
            · intro w hSw
              try dsimp only at hSw
              go_simp <;> with_reducible rfl
            try simp only [Act.put, List.setIfInBounds_toArray, List.set_cons_zero, List.set_cons_succ]
            refine wpAnyH_take (i := 43) (oi := { dst := some 171, op := Op.pick (Operand.tmp 163) (Operand.const (Value.bool true)) (Operand.tmp 170), type := 4, pos := "law.go:86", after := #[{ on := 35, ground := Ground.data }, { on := 42, ground := Ground.data }], guard := none }) (v := ?_) rfl (by kernel_rfl) (by kernel_rfl) (by kernel_rfl) (fun _ _ _ h => h) (Or.inl ⟨by rfl, ?_⟩) (by assumption) ?_
            rotate_left
            · intro w hSw
              try dsimp only at hSw
              go_simp <;> with_reducible rfl
            try simp only [Act.put, List.setIfInBounds_toArray, List.set_cons_zero, List.set_cons_succ]
            refine wpAnyH_take (i := 44) (oi := { dst := some 172, op := Op.move (Operand.tmp 171), type := 4, pos := "law.go:86", after := #[{ on := 43, ground := Ground.data }, { on := 37, ground := Ground.chain }], guard := none }) (v := ?_) rfl (by kernel_rfl) (by kernel_rfl) (by kernel_rfl) (fun _ _ _ h => h) (Or.inl ⟨by rfl, ?_⟩) (by assumption) ?_
            rotate_left
            · intro w hSw
              try dsimp only at hSw
              go_simp <;> with_reducible rfl
            try simp only [Act.put, List.setIfInBounds_toArray, List.set_cons_zero, List.set_cons_succ]
            refine wpAnyH_take (i := 45) (oi := { dst := some 173, op := Op.move (Operand.tmp 7), type := 24, pos := "law.go:86", after := #[{ on := 44, ground := Ground.guard }], guard := some (44, false) }) (v := ?_) rfl (by kernel_rfl) (by kernel_rfl) (by kernel_rfl) (fun _ _ _ h => h) (Or.inl ⟨by rfl, ?_⟩) (by assumption) ?_
            rotate_left
            · intro w hSw
              try dsimp only at hSw
              go_simp <;> with_reducible rfl
            try simp only [Act.put, List.setIfInBounds_toArray, List.set_cons_zero, List.set_cons_succ]
            refine wpAnyH_take (i := 46) (oi := { dst := some 174, op := Op.move (Operand.tmp 2), type := 3, pos := "law.go:86", after := #[{ on := 44, ground := Ground.guard }], guard := some (44, false) }) (v := ?_) rfl (by kernel_rfl) (by kernel_rfl) (by kernel_rfl) (fun _ _ _ h => h) (Or.inl ⟨by rfl, ?_⟩) (by assumption) ?_
            rotate_left
            · intro w hSw
              try dsimp only at hSw
              go_simp <;> with_reducible rfl
            try simp only [Act.put, List.setIfInBounds_toArray, List.set_cons_zero, List.set_cons_succ]
            refine wpAnyH_take (i := 48) (oi := { dst := some 176, op := Op.move (Operand.tmp 9), type := 28, pos := "law.go:86", after := #[{ on := 44, ground := Ground.guard }], guard := some (44, false) }) (v := ?_) rfl (by kernel_rfl) (by kernel_rfl) (by kernel_rfl) (fun _ _ _ h => h) (Or.inl ⟨by rfl, ?_⟩) (by assumption) ?_
            rotate_left
            · intro w hSw
              try dsimp only at hSw
              go_simp <;> with_reducible rfl
            try simp only [Act.put, List.setIfInBounds_toArray, List.set_cons_zero, List.set_cons_succ]
            refine wpAnyH_take (i := 49) (oi := { dst := some 177, op := Op.move (Operand.tmp 2), type := 3, pos := "law.go:86", after := #[{ on := 44, ground := Ground.guard }], guard := some (44, false) }) (v := ?_) rfl (by kernel_rfl) (by kernel_rfl) (by kernel_rfl) (fun _ _ _ h => h) (Or.inl ⟨by rfl, ?_⟩) (by assumption) ?_
            rotate_left
            · intro w hSw
              try dsimp only at hSw
              go_simp <;> with_reducible rfl
            try simp only [Act.put, List.setIfInBounds_toArray, List.set_cons_zero, List.set_cons_succ]
            refine wpAnyH_ready (rs := [47]) (by kernel_rfl) (by simp) ?_
            refine AllReadyH.cons (o := { dst := some 175, op := Op.call { callee := Callee.value (Operand.func 18), args := #[Operand.tmp 173, Operand.tmp 174], argTypes := #[24, 3] }, type := 22, pos := "law.go:86", after := #[{ on := 45, ground := Ground.data }, { on := 46, ground := Ground.data }, { on := 44, ground := Ground.chain }, { on := 44, ground := Ground.guard }], guard := some (44, false) }) rfl (fun K hK => ?_) AllReadyH.nil
            go_simp
            refine (S3.out _ (by assumption)).mono ?_
            rintro e v3 ⟨A5, c5, rfl, l5, j3⟩
            try (go_wp2_with fail)
            refine hK.out _ _ ?_ (fun hHeld => ?_)
            · exact j3
            clear hK K
            try simp only [Act.put, List.setIfInBounds_toArray, List.set_cons_zero, List.set_cons_succ]
            refine wpAnyH_ready (rs := [50]) (by kernel_rfl) (by simp) ?_
            refine AllReadyH.cons (o := { dst := some 178, op := Op.call { callee := Callee.value (Operand.func 19), args := #[Operand.tmp 176, Operand.tmp 177], argTypes := #[28, 3] }, type := 22, pos := "law.go:86", after := #[{ on := 48, ground := Ground.data }, { on := 49, ground := Ground.data }, { on := 47, ground := Ground.chain }, { on := 44, ground := Ground.guard }], guard := some (44, false) }) rfl (fun K hK => ?_) AllReadyH.nil
            go_simp
            refine (S4.out _ A5 c5 (by assumption) l5).mono ?_
            rintro e v4 ⟨A6, c6, rfl, l6, l7, j4⟩
            try (go_wp2_with fail)
            refine hK.out _ _ ?_ (fun hHeld => ?_)
            · exact j4
            clear hK K
            try simp only [Act.put, List.setIfInBounds_toArray, List.set_cons_zero, List.set_cons_succ]
            refine wpAnyH_ready (rs := [51]) (by kernel_rfl) (by simp) ?_
            refine AllReadyH.cons (o := { dst := some 179, op := Op.call { callee := Callee.value (Operand.func 17), args := #[Operand.tmp 175, Operand.tmp 178], argTypes := #[22, 22] }, type := 4, pos := "law.go:86", after := #[{ on := 47, ground := Ground.data }, { on := 50, ground := Ground.data }, { on := 50, ground := Ground.chain }, { on := 44, ground := Ground.guard }], guard := some (44, false) }) rfl (fun K hK => ?_) AllReadyH.nil
            go_simp
            refine (S5.out _ A5 c5 A6 c6 (by assumption) l6 l7).mono ?_
            rintro e v5 ⟨rfl, j5⟩
            try (go_wp2_with fail)
            refine hK.out _ _ ?_ (fun hHeld => ?_)
            · exact j5
            clear hK K
            try simp only [Act.put, List.setIfInBounds_toArray, List.set_cons_zero, List.set_cons_succ]
            refine wpAnyH_take (i := 52) (oi := { dst := some 180, op := Op.unOp UnOp.not 4 (Operand.tmp 179), type := 4, pos := "law.go:86", after := #[{ on := 51, ground := Ground.data }, { on := 44, ground := Ground.guard }], guard := some (44, false) }) (v := ?_) rfl (by kernel_rfl) (by kernel_rfl) (by kernel_rfl) (fun _ _ _ h => h) (Or.inl ⟨by rfl, ?_⟩) (by assumption) ?_
            rotate_left
            · intro w hSw
              try dsimp only at hSw
              go_simp <;> with_reducible rfl
            try simp only [Act.put, List.setIfInBounds_toArray, List.set_cons_zero, List.set_cons_succ]
            refine wpAnyH_take (i := 53) (oi := { dst := some 181, op := Op.pick (Operand.tmp 172) (Operand.const (Value.bool true)) (Operand.tmp 180), type := 4, pos := "law.go:86", after := #[{ on := 44, ground := Ground.data }, { on := 52, ground := Ground.data }], guard := none }) (v := ?_) rfl (by kernel_rfl) (by kernel_rfl) (by kernel_rfl) (fun _ _ _ h => h) (Or.inl ⟨by rfl, ?_⟩) (by assumption) ?_
            rotate_left
            · intro w hSw
              try dsimp only at hSw
              go_simp <;> with_reducible rfl
            try simp only [Act.put, List.setIfInBounds_toArray, List.set_cons_zero, List.set_cons_succ]
            refine wpAnyH_take (i := 54) (oi := { dst := some 182, op := Op.move (Operand.tmp 181), type := 4, pos := "law.go:86", after := #[{ on := 53, ground := Ground.data }, { on := 51, ground := Ground.chain }], guard := none }) (v := ?_) rfl (by kernel_rfl) (by kernel_rfl) (by kernel_rfl) (fun _ _ _ h => h) (Or.inl ⟨by rfl, ?_⟩) (by assumption) ?_
            rotate_left
            · intro w hSw
              try dsimp only at hSw
              go_simp <;> with_reducible rfl
            try simp only [Act.put, List.setIfInBounds_toArray, List.set_cons_zero, List.set_cons_succ]
            refine wpAnyH_take (i := 55) (oi := { dst := some 183, op := Op.move (Operand.tmp 7), type := 24, pos := "law.go:86", after := #[{ on := 54, ground := Ground.guard }], guard := some (54, false) }) (v := ?_) rfl (by kernel_rfl) (by kernel_rfl) (by kernel_rfl) (fun _ _ _ h => h) (Or.inl ⟨by rfl, ?_⟩) (by assumption) ?_
            rotate_left
            · intro w hSw
              try dsimp only at hSw
              go_simp <;> with_reducible rfl
            try simp only [Act.put, List.setIfInBounds_toArray, List.set_cons_zero, List.set_cons_succ]
            refine wpAnyH_take (i := 57) (oi := { dst := some 185, op := Op.move (Operand.tmp 9), type := 28, pos := "law.go:86", after := #[{ on := 54, ground := Ground.guard }], guard := some (54, false) }) (v := ?_) rfl (by kernel_rfl) (by kernel_rfl) (by kernel_rfl) (fun _ _ _ h => h) (Or.inl ⟨by rfl, ?_⟩) (by assumption) ?_
            rotate_left
            · intro w hSw
              try dsimp only at hSw
              go_simp <;> with_reducible rfl
            try simp only [Act.put, List.setIfInBounds_toArray, List.set_cons_zero, List.set_cons_succ]
            refine wpAnyH_take (i := 58) (oi := { dst := some 186, op := Op.nilCheck (Operand.tmp 185), type := 0, pos := "law.go:86", after := #[{ on := 57, ground := Ground.data }, { on := 54, ground := Ground.guard }], guard := some (54, false) }) (v := ?_) rfl (by kernel_rfl) (by kernel_rfl) (by kernel_rfl) (fun _ _ _ h => h) (Or.inl ⟨by rfl, ?_⟩) (by assumption) ?_
            rotate_left
            · intro w hSw
              try dsimp only at hSw
              go_simp <;> with_reducible rfl
            try simp only [Act.put, List.setIfInBounds_toArray, List.set_cons_zero, List.set_cons_succ]
            refine wpAnyH_take (i := 59) (oi := { dst := some 187, op := Op.fieldAddr 30 (Operand.tmp 186) 1, type := 0, pos := "law.go:86", after := #[{ on := 58, ground := Ground.data }, { on := 54, ground := Ground.guard }], guard := some (54, false) }) (v := ?_) rfl (by kernel_rfl) (by kernel_rfl) (by kernel_rfl) (fun _ _ _ h => h) (Or.inl ⟨by rfl, ?_⟩) (by assumption) ?_
            rotate_left
            · intro w hSw
              try dsimp only at hSw
              go_simp <;> with_reducible rfl
            try simp only [Act.put, List.setIfInBounds_toArray, List.set_cons_zero, List.set_cons_succ]
            refine wpAnyH_take (i := 60) (oi := { dst := some 188, op := Op.load 22 (Operand.tmp 187), type := 22, pos := "law.go:86", after := #[{ on := 59, ground := Ground.data }, { on := 54, ground := Ground.guard }], guard := some (54, false) }) (v := ?_) rfl (by kernel_rfl) (by kernel_rfl) (by kernel_rfl) (fun _ _ _ h => h) (Or.inl ⟨by rfl, ?_⟩) (by assumption) ?_
            rotate_left
            · intro w hSw
              try dsimp only at hSw
              go_simp <;> with_reducible rfl
            try simp only [Act.put, List.setIfInBounds_toArray, List.set_cons_zero, List.set_cons_succ]
            refine wpAnyH_ready (rs := [56]) (by kernel_rfl) (by simp) ?_
            refine AllReadyH.cons (o := { dst := some 184, op := Op.call { callee := Callee.value (Operand.func 20), args := #[Operand.tmp 183, Operand.const (Value.int IntKind.i64 1000)], argTypes := #[24, 3] }, type := 22, pos := "law.go:86", after := #[{ on := 55, ground := Ground.data }, { on := 54, ground := Ground.chain }, { on := 54, ground := Ground.guard }], guard := some (54, false) }) rfl (fun K hK => ?_) AllReadyH.nil
            go_simp
            refine (S6.out _ (by assumption)).mono ?_
            rintro e v6 ⟨A8, c8, rfl, l8, j6⟩
            try (go_wp2_with fail)
            refine hK.out _ _ ?_ (fun hHeld => ?_)
            · exact j6
            clear hK K
            try simp only [Act.put, List.setIfInBounds_toArray, List.set_cons_zero, List.set_cons_succ]
            refine wpAnyH_ready (rs := [61]) (by kernel_rfl) (by simp) ?_
            refine AllReadyH.cons (o := { dst := some 189, op := Op.call { callee := Callee.value (Operand.func 17), args := #[Operand.tmp 184, Operand.tmp 188], argTypes := #[22, 22] }, type := 4, pos := "law.go:86", after := #[{ on := 56, ground := Ground.data }, { on := 60, ground := Ground.data }, { on := 56, ground := Ground.chain }, { on := 54, ground := Ground.guard }], guard := some (54, false) }) rfl (fun K hK => ?_) AllReadyH.nil
            go_simp
            refine (S7.out _ A8 c8 (by assumption) l8).mono ?_
            rintro e v7 ⟨rfl, j7⟩
            try (go_wp2_with fail)
            refine hK.out _ _ ?_ (fun hHeld => ?_)
            · exact j7
            clear hK K
            try simp only [Act.put, List.setIfInBounds_toArray, List.set_cons_zero, List.set_cons_succ]
            refine wpAnyH_take (i := 62) (oi := { dst := some 190, op := Op.unOp UnOp.not 4 (Operand.tmp 189), type := 4, pos := "law.go:86", after := #[{ on := 61, ground := Ground.data }, { on := 54, ground := Ground.guard }], guard := some (54, false) }) (v := ?_) rfl (by kernel_rfl) (by kernel_rfl) (by kernel_rfl) (fun _ _ _ h => h) (Or.inl ⟨by rfl, ?_⟩) (by assumption) ?_
            rotate_left
            · intro w hSw
              try dsimp only at hSw
              go_simp <;> with_reducible rfl
            try simp only [Act.put, List.setIfInBounds_toArray, List.set_cons_zero, List.set_cons_succ]
            refine wpAnyH_take (i := 63) (oi := { dst := some 191, op := Op.pick (Operand.tmp 182) (Operand.const (Value.bool true)) (Operand.tmp 190), type := 4, pos := "law.go:86", after := #[{ on := 54, ground := Ground.data }, { on := 62, ground := Ground.data }], guard := none }) (v := ?_) rfl (by kernel_rfl) (by kernel_rfl) (by kernel_rfl) (fun _ _ _ h => h) (Or.inl ⟨by rfl, ?_⟩) (by assumption) ?_
            rotate_left
            · intro w hSw
              try dsimp only at hSw
              go_simp <;> with_reducible rfl
            try simp only [Act.put, List.setIfInBounds_toArray, List.set_cons_zero, List.set_cons_succ]
            refine wpAnyH_done (by kernel_rfl) ?_ _
            have HDn := Lib.hid (HSd.out v7 j7)
            have hk3' : k < n1 := hlt
            clear S1 S2 S3 S4 S5 S6 S7 HSd b0 b1' b2' kd
            go_wp2
            go_roundw
            case rel => exact ⟨k + 1, G2, L2, by omega, by go_num, Lib.hid ⟨HDn.out, HGk.out⟩⟩
            case measure => simp [RowKit.intOf]; omega
    · have hkn : k = n1 := by omega
      subst hkn
      have glt : decide ((k : Int) < (k : Int)) = false := by simp
      have K1 := Lib.hid (duo_clear HP.out.1)
      clear HP
      go_wp2_with fail
      refine (show Calls _ _ _ _ _ from K1.out).mono ?_
      rintro e y ⟨rfl, d1⟩
      obtain ⟨A, c, hg, hl, -⟩ := d1.2.1
      have hk0 : ∀ V, Below y.heap.size y V → V.heap[g]? = some (.cells #[.int .i64 (M : Int), .slice A L.length c, .int .i64 (G : Int)] 30 (0, 0)) := fun V hV => (hV.block g (blk_lt hg)).trans hg
      have HK0 := Lib.hid hk0
      have b2' := fun V hV => cell_of (HK0.out V hV) 2
      have S1 : Hid (∀ V, Below y.heap.size y V → Calls Try.prog 15 #[.pointer (some ⟨p, 0, none⟩)] V fun e w' => e = .returned (.int .i64 0) ∧ Below y.heap.size y w') := Lib.hid fun V hV => (mine_len (d1.1.old hV)).mono fun e w' ⟨he, _, hb⟩ => ⟨he, hV.trans (hb.mono hV.size)⟩
      have S2 : Hid (∀ V, Below y.heap.size y V → Calls Try.prog 16 #[.pointer (some ⟨p, 0, none⟩)] V fun e w' => e = .returned (.int .i64 (G : Int)) ∧ Below y.heap.size y w') := Lib.hid fun V hV => (mine_gone (d1.1.old hV)).mono fun e w' ⟨he, _, hb⟩ => ⟨he, hV.trans (hb.mono hV.size)⟩
      have S3 : Hid (∀ V, Below y.heap.size y V → Calls Try.prog 20 #[.pointer (some ⟨p, 0, none⟩), .int .i64 9] V fun e w' => ∃ A c, e = .returned (.slice A 0 c) ∧ Below y.heap.size y w') := Lib.hid fun V hV => (mine_all (d1.1.old hV) 9 (by decide) (by decide)).mono fun e w' ⟨A, c, he, _, _, hb⟩ => ⟨A, c, he, hV.trans (hb.mono hV.size)⟩
      have S4 : Hid (∀ V, Below y.heap.size y V → Calls Try.prog 8 #[] V fun e w' => e = .returned (.bool true) ∧ Below y.heap.size y w') := Lib.hid fun V hV => (wakes_any V).mono fun e w' ⟨he, hb⟩ => ⟨he, hV.trans (hb.mono hV.size)⟩
      have HB := Lib.hid d1.below
      have kd : Below y.heap.size y y.drew := below_drew (Below.refl _ _) 1
      have e2 : ((G : Int) == (G : Int)) = true := by simp
      clear d1 hg hl hk0 K1
      as_aux_lemma =>
      go_upto_region 27 with fail
      go_region_held3 (fun V => Below y.heap.size y V) (assumption)
        (first
          | (go_at_call 15; (with_reducible refine (S1.out _ (by assumption)).mono ?_); rintro e v1 ⟨rfl, j1⟩)
          | (go_at_call 16; (with_reducible refine (S2.out _ (by assumption)).mono ?_); rintro e v2 ⟨rfl, j2⟩)
          | (go_at_call 20; (with_reducible refine (S3.out _ (by assumption)).mono ?_); rintro e v3 ⟨A5, c5, rfl, j3⟩)
          | (go_at_call 8; (with_reducible refine (S4.out _ (by assumption)).mono ?_); rintro e v4 ⟨rfl, j4⟩))
      go_wp2
      go_ret
      exact ⟨rfl, HB.out.trans (j4.mono HB.out.size)⟩

theorem plays_law {w : World} {v : Value} {L : List Int} (H : LiesI w v L) (m x : Int) (hm : IntIn m) (hx : IntIn x) (hL : ∀ k, k < L.length → IntIn (L.getD k 0)) : Calls Try.prog 3 #[.int .i64 m, v, .int .i64 x] w fun e w' => e = .returned (.bool true) ∧ Below w.heap.size w w' := by
  obtain ⟨A, c, rfl, -⟩ := id H
  by_cases h1 : L.length > 300
  · exact plays_big m x h1
  · by_cases h2 : m < 0 ∨ m > 500
    · exact plays_out m x hm (by omega) h2
    · obtain ⟨M, rfl⟩ : ∃ M : Nat, m = (M : Int) := ⟨m.toNat, by omega⟩
      exact plays_yes H M x hx hL (by omega) (by omega)
end Go.Proofs.Ytpanhkhiomgclaa.Ba
