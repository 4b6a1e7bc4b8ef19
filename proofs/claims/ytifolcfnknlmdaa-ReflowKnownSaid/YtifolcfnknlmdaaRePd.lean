/- Layer 15: slices cut at their front (cells, lines, tables of lines); the program's broken, walked. -/
import Derived.Test.YtifolcfnknlmdaaRePc
set_option linter.unusedVariables false
namespace Go.Proofs.Ytifolcfnknlmdaa.Re
open Go.RowKit Go.Proofs.Ytifolcfnknlmdaa.Rw

/-- Cells, from x on. -/
theorem from_cells {w : World} {A : Option Addr} {n c : Nat} {l : List Ce} (h : Lies w (.slice A n c) l) (x : Nat) (hx : x ≤ n) : ∃ p d, (∀ W, (Instr.slice 28 (.slice A n c) (some (.int .i64 (x : Int))) none none).run Try.prog W = .ok (.slice p (n - x) d) W) ∧ Lies w (.slice p (n - x) d) (l.drop x) := by
  obtain ⟨hn, h0, hc, hr⟩ := h.row
  cases A with
  | none =>
    obtain rfl := h0 rfl
    have h1 : n = 0 := by omega
    have h2 : x = 0 := by omega
    subst h1 h2
    refine ⟨none, 0, fun W => by kernel_rfl, ?_⟩
    rw [List.drop_zero]
    exact h
  | some ad =>
    by_cases h1 : 0 < n
    · obtain ⟨b, o, e, hb, _⟩ := id hr (by omega)
      cases e
      refine ⟨if c = x then some ⟨b, o, none⟩ else some ⟨b, o + x * 7, none⟩, c - x, fun W => ?_, ?_⟩
      · rw [run_slice_l W 28 (some ⟨b, o, none⟩) n c cell_under .i64 (x : Int) (by omega) (by omega), cell_size]
        simp only [Result.andThen, sliced, Int.toNat_natCast, Option.map_some, add_oo]
      · have := Lies.cut (w := w) (b := b) (o := o) (c := c) (l := l) hr (by omega) (by omega) (x := x) (y := n) hx (by omega) (A := if c = x then some ⟨b, o, none⟩ else some ⟨b, o + x * 7, none⟩) (by
          by_cases e : c = x
          · rw [if_pos e]; exact Or.inr ⟨⟨_, rfl⟩, by omega⟩
          · rw [if_neg e]; exact Or.inl rfl) (n := n - x) (c' := c - x) rfl rfl
        rwa [List.take_of_length_le (by omega)] at this
    · have h2 : n = 0 := by omega
      have h3 : x = 0 := by omega
      subst h2 h3
      refine ⟨some ad, c, fun W => ?_, ?_⟩
      · have := run_slice_l (P := Try.prog) W 28 (some ad) 0 c cell_under .i64 ((0 : Nat) : Int) (by omega) (by omega)
        rw [this, cell_size]
        obtain ⟨b, o, q⟩ := ad
        cases c <;> simp [Result.andThen, sliced, Addr.add]
      · rw [List.drop_zero]
        exact h
theorem zero_attr (u : Value) (hu : u = attrV zeroAa) : u = .agg #[.int .u16 0, .int .u8 0, .int .u32 0, .int .u8 0, .int .u32 0] := by rw [hu]; rfl
theorem blankW (W : Nat) (h2 : 2 ≤ W) (h4 : W ≤ 400) : blankV (W : Int) zeroAa = blanks W zeroAa := by
  unfold blankV
  rw [if_neg (by omega), Int.toNat_natCast]
theorem own_some {w : World} {base : Nat} {v : Value} {l : List Ce} (h : OwnC w base v l) (h0 : 0 < l.length) : ∃ g c, v = .slice (some ⟨g, 0, none⟩) l.length c ∧ base ≤ g := by
  rcases own_shape h with ⟨_, rfl⟩ | ⟨g, c, cur, e, h1, _⟩
  · simp at h0
  · exact ⟨g, c, e, h1⟩
structure BState (w : World) (W : Nat) (cs : List Ce) (f : Nat) (rs : List Raw) (done : List LnC) (wz : World) (uc vl : Value) : Prop where
  lies : Lies w uc (cs.drop f)
  le : f ≤ cs.length
  few : done.length ≤ f
  lay : lay blC wdC W cs = done ++ lay blC wdC W (cs.drop f)
  own : LState w.heap.size wz vl rs done
  bel : Below w.heap.size w wz
set_option maxRecDepth 100000 in
set_option maxHeartbeats 8000000 in
theorem broken_any {u : Value} {cs : List Ce} (W : Nat) (h2 : 2 ≤ W) (h4 : W ≤ 400) {w : World} (h : Lies w u cs) (hl : cs.length ≤ 100000) : Calls Try.prog 23 #[u, .int .i64 (W : Int)] w fun e w' => ∃ v rs, e = .returned v ∧ LState w.heap.size w' v rs (lay blC wdC W cs) ∧ Below w.heap.size w w' := by
  have H0 : Hid (BState w W cs 0 [] [] w u (.slice none 0 0)) := Lib.hid ⟨h, Nat.zero_le _, Nat.zero_le _, rfl, LState.none _ _, Below.refl _ _⟩
  have HL := Lib.hid hl
  clear h hl
  go_enter Try.func23, Try.ntmps23
  go_wp2
  go_loopw [0, 5] (fun uc vl wr => ∃ (f : Nat) (rs : List Raw) (done : List LnC) (wz : World) (ucz vlz : Value), wz = wr ∧ ucz = uc ∧ vlz = vl ∧ Hid (BState w W cs f rs done wz ucz vlz)) (fun uc _ _ => sliceLen uc)
  case atStart => exact ⟨0, [], [], _, _, _, rfl, rfl, rfl, H0⟩
  case round =>
    obtain ⟨f, rs, done, wr, uc, vl, rfl, rfl, rfl, H⟩ := hrel
    obtain ⟨A, c, rfl, -⟩ := id H.out.lies
    obtain ⟨l', hl'⟩ : ∃ l', l' = cs.drop f := ⟨_, rfl⟩
    have hli := H.out.lies
    rw [← hl'] at hli ⊢
    obtain ⟨N, hN⟩ : ∃ N, N = l'.length := ⟨_, rfl⟩
    obtain ⟨M, hM⟩ : ∃ M, M = fitV W l' := ⟨_, rfl⟩
    have hMN : M ≤ N ∧ M ≤ W := by rw [hM, hN]; exact fit_le W l'
    have hN4 : N ≤ 100000 := by rw [hN, hl', List.length_drop]; have := HL.out; omega
    rw [← hN] at hli ⊢
    have KF := Lib.hid (fit_any W h2 h4 wr (hli.below H.out.bel))
    rw [← hM] at KF
    obtain ⟨m, hm⟩ : ∃ m, m = decide (M < N) := ⟨_, rfl⟩
    obtain ⟨s, hs⟩ : ∃ s, s = decide (M < W) := ⟨_, rfl⟩
    have gm : decide ((M : Int) < (N : Int)) = m := by rw [hm]; simp
    have gs : decide ((M : Int) < (W : Int)) = s := by rw [hs]; simp
    have gm' := hm.symm
    have gs' := hs.symm
    have hup := upto_cells hli M hMN.1
    have hfr := from_cells hli M hMN.1
    have i1 := hup.1
    obtain ⟨pf, df, i2, lf⟩ := hfr
    have HV : Hid (lineV W l' = ⟨copyV (blanks W zeroAa) 0 (l'.take M), m, m && s⟩) := Lib.hid (by unfold lineV; rw [← hM, ← hN, ← hm, ← hs])
    have HY : Hid (lay blC wdC W l' = lineV W l' :: (if M < N then lay blC wdC W (l'.drop M) else [])) := Lib.hid (by rw [lay_fit W h2 l', ← hM, ← hN])
    have HP : Hid (M < N → 0 < M) := Lib.hid (by rw [hM, hN]; exact fit_pos W h2 l')
    have HUp := Lib.hid hup.2
    have HFr := Lib.hid lf
    have HLl := Lib.hid hl'
    have HNl := Lib.hid hN
    have HMN := Lib.hid hMN
    have HM2 : Hid (m = decide (M < N)) := Lib.hid hm
    clear hup lf hm hs hli hN hM hl' hMN
    cases m with
    | false =>
      go_wp2_with fail
      refine (show Calls _ _ _ _ _ from KF.out).mono ?_
      rintro e w1 ⟨rfl, b1⟩
      have H1 : Hid (Below w.heap.size w w1 ∧ LState w.heap.size w1 vl rs done) := Lib.hid ⟨H.out.bel.trans (b1.mono H.out.bel.size), H.out.own.below b1⟩
      have KB := Lib.hid (pblank_any (W : Int) zeroAa w1)
      rw [blankW W h2 h4] at KB
      clear b1 KF
      go_wp2_with fail
      refine (show Calls _ _ _ _ _ from KB.out).mono ?_
      rintro e w2 ⟨ub, rfl, hb, b2⟩
      obtain ⟨g, cb, rfl, hgb⟩ := own_some hb (by simp [blanks]; omega)
      have H2 : Hid (Below w.heap.size w w2 ∧ OwnC w2 w1.heap.size (.slice (some ⟨g, 0, none⟩) (blanks W zeroAa).length cb) (blanks W zeroAa) ∧ w1.heap.size ≤ g ∧ Below w1.heap.size w1 w2 ∧ g < w2.heap.size) := Lib.hid ⟨H1.out.1.trans (b2.mono H1.out.1.size), hb, hgb, b2, own_lt hb g rfl⟩
      have HBL : Hid ((blanks W zeroAa).length = W) := Lib.hid (by simp [blanks])
      rw [HBL.out] at H2 ⊢
      clear hb b2 KB hgb
      have kd := (Loc.new H2.out.1 #[.slice (some ⟨g, 0, none⟩) W cb, .bool false, .bool false] pLine).drew
      have Q0 : ∀ V, Loc w w2.heap.size #[.slice (some ⟨g, 0, none⟩) W cb, .bool false, .bool false] pLine V → V.cell? ⟨w2.heap.size, 0, none⟩ = some (.slice (some ⟨g, 0, none⟩) W cb) := fun V hV => hV.cell 0
      have HBd : Hid (Below w2.heap.size w2 (w2.alloc (.cells #[.slice (some ⟨g, 0, none⟩) W cb, .bool false, .bool false] pLine)).drew) := Lib.hid (below_drew ((Below.refl _ _).alloc (Nat.le_refl _) _) 1)
      have HOw := Lib.hid (own_below H2.out.2.1 HBd.out (Nat.le_refl _))
      have HYs := Lib.hid (HUp.out.below kd.bel)
      go_wp2_with fail
      go_region_held3 (fun V => Loc w w2.heap.size #[.slice (some ⟨g, 0, none⟩) W cb, .bool false, .bool false] pLine V) (assumption)
        (first
          | (refine step_copy_turn (dp := some ⟨g, 0, none⟩) (dn := W) (dc := cb) (sp := A) (sn := M) (sc := c) rfl (.tmp 28) (.tmp 31) rfl HOw.out HBL.out.symm (i := 0) (Nat.zero_le _) (by simp [Act.eval]) (by simp [Act.eval]) (Nat.sub_zero _).symm (Or.inl (by rw [Nat.zero_mul])) HYs.out ?_; intro w3 o3 t3; have j3 : Loc w w2.heap.size #[.slice (some ⟨g, 0, none⟩) W cb, .bool false, .bool false] pLine w3 := ⟨t3.below kd.bel (Nat.le_trans H1.out.1.size H2.out.2.2.1) kd.bel.size, (t3.block _ kd.lt (by have := H2.out.2.2.2.2; omega)).trans kd.blk⟩))
      have HB3 : Hid (Below w1.heap.size w1 w3) := Lib.hid (t3.below (H2.out.2.2.2.1.trans (HBd.out.mono H2.out.2.2.2.1.size)) H2.out.2.2.1 (Nat.le_trans H2.out.2.2.2.1.size HBd.out.size))
      have HO3 := Lib.hid o3
      have HJ3 := Lib.hid j3
      have HS3 := Lib.hid (H1.out.2.below HB3.out)
      have d0 : w3.cell? ⟨w2.heap.size, 0, none⟩ = some (.slice (some ⟨g, 0, none⟩) W cb) := j3.cell 0
      have d1 : w3.cell? ⟨w2.heap.size, 1, none⟩ = some (.bool false) := j3.cell 1
      have d2 : w3.cell? ⟨w2.heap.size, 2, none⟩ = some (.bool false) := j3.cell 2
      have HW1 : Hid (w.heap.size ≤ w1.heap.size) := Lib.hid H1.out.1.size
      have hal : Below w3.heap.size w3 (w3.alloc (.cells #[.slice (some ⟨g, 0, none⟩) W cb, .bool false, .bool false] pLine)) := (Below.refl _ _).alloc (Nat.le_refl _) _
      have HS4 := Lib.hid (HS3.out.below hal)
      have HO4 := Lib.hid (own_below HO3.out hal (Nat.le_refl _))
      have HB4 : Hid (Below w.heap.size w (w3.alloc (.cells #[.slice (some ⟨g, 0, none⟩) W cb, .bool false, .bool false] pLine))) := Lib.hid (HJ3.out.bel.alloc HJ3.out.bel.size _)
      have HR := Lib.hid (one_raw (T := pLine) w3 ⟨.slice (some ⟨g, 0, none⟩) W cb, false, false⟩)
      have hrl : rs.length ≤ 1000000 := by have h1 := H.out.own.len; have h2 := H.out.few; have h3 := H.out.le; have h4 := HL.out; omega
      clear hal t3 o3 j3 kd Q0 HBd HOw HYs H2
      go_wp2_with (at_builtin; refine append_line linePro _ rfl (.tmp 33) (.tmp 35) rfl w.heap.size _ rs ⟨.slice (some ⟨g, 0, none⟩) W cb, false, false⟩ ⟨w3.heap.size, 0, none⟩ rfl HS4.out.out rfl HR.out rfl hrl HB4.out.size ?_)
      intro g6 c6 w6 o6 gr6
      have HS6 : Hid (LState w.heap.size w6 (.slice (some ⟨g6, 0, none⟩) (rs.length + 1) c6) (rs ++ [⟨.slice (some ⟨g, 0, none⟩) W cb, false, false⟩]) (done ++ [lineV W l'])) := Lib.hid (by
        rw [HV.out]
        exact HS4.out.one rfl rfl (own_less HO4.out HW1.out) o6 gr6)
      have HB6 : Hid (Below w.heap.size w w6) := Lib.hid (grownL HB4.out gr6 HS4.out.out HB4.out.size)
      clear o6 gr6 HS4 HO4 HB4 HR HS3 HO3 HJ3 d0 d1 d2 HB3 hrl
      have HF : Hid (LState w.heap.size w6 (.slice (some ⟨g6, 0, none⟩) (rs.length + 1) c6) (rs ++ [⟨.slice (some ⟨g, 0, none⟩) W cb, false, false⟩]) (lay blC wdC W cs)) := Lib.hid (by
        rw [H.out.lay, ← HLl.out, HY.out, if_neg (fun e => by have := HM2.out; rw [decide_eq_true e] at this; cases this)]
        exact HS6.out)
      clear HS6
      go_wp2
      go_ret
      exact ⟨_, _, rfl, HF.out, HB6.out⟩
    | true =>
      cases s with
      | false =>
        go_wp2_with fail
        refine (show Calls _ _ _ _ _ from KF.out).mono ?_
        rintro e w1 ⟨rfl, b1⟩
        have H1 : Hid (Below w.heap.size w w1 ∧ LState w.heap.size w1 vl rs done) := Lib.hid ⟨H.out.bel.trans (b1.mono H.out.bel.size), H.out.own.below b1⟩
        have KB := Lib.hid (pblank_any (W : Int) zeroAa w1)
        rw [blankW W h2 h4] at KB
        clear b1 KF
        go_wp2_with fail
        refine (show Calls _ _ _ _ _ from KB.out).mono ?_
        rintro e w2 ⟨ub, rfl, hb, b2⟩
        obtain ⟨g, cb, rfl, hgb⟩ := own_some hb (by simp [blanks]; omega)
        have H2 : Hid (Below w.heap.size w w2 ∧ OwnC w2 w1.heap.size (.slice (some ⟨g, 0, none⟩) (blanks W zeroAa).length cb) (blanks W zeroAa) ∧ w1.heap.size ≤ g ∧ Below w1.heap.size w1 w2 ∧ g < w2.heap.size) := Lib.hid ⟨H1.out.1.trans (b2.mono H1.out.1.size), hb, hgb, b2, own_lt hb g rfl⟩
        have HBL : Hid ((blanks W zeroAa).length = W) := Lib.hid (by simp [blanks])
        rw [HBL.out] at H2 ⊢
        clear hb b2 KB hgb
        have kd := (Loc.new H2.out.1 #[.slice (some ⟨g, 0, none⟩) W cb, .bool true, .bool false] pLine).drew
        have Q0 : ∀ V, Loc w w2.heap.size #[.slice (some ⟨g, 0, none⟩) W cb, .bool true, .bool false] pLine V → V.cell? ⟨w2.heap.size, 0, none⟩ = some (.slice (some ⟨g, 0, none⟩) W cb) := fun V hV => hV.cell 0
        have HBd : Hid (Below w2.heap.size w2 (w2.alloc (.cells #[.slice (some ⟨g, 0, none⟩) W cb, .bool true, .bool false] pLine)).drew) := Lib.hid (below_drew ((Below.refl _ _).alloc (Nat.le_refl _) _) 1)
        have HOw := Lib.hid (own_below H2.out.2.1 HBd.out (Nat.le_refl _))
        have HYs := Lib.hid (HUp.out.below kd.bel)
        go_wp2_with fail
        go_region_held3 (fun V => Loc w w2.heap.size #[.slice (some ⟨g, 0, none⟩) W cb, .bool true, .bool false] pLine V) (assumption)
          (first
            | (refine step_copy_turn (dp := some ⟨g, 0, none⟩) (dn := W) (dc := cb) (sp := A) (sn := M) (sc := c) rfl (.tmp 28) (.tmp 31) rfl HOw.out HBL.out.symm (i := 0) (Nat.zero_le _) (by simp [Act.eval]) (by simp [Act.eval]) (Nat.sub_zero _).symm (Or.inl (by rw [Nat.zero_mul])) HYs.out ?_; intro w3 o3 t3; have j3 : Loc w w2.heap.size #[.slice (some ⟨g, 0, none⟩) W cb, .bool true, .bool false] pLine w3 := ⟨t3.below kd.bel (Nat.le_trans H1.out.1.size H2.out.2.2.1) kd.bel.size, (t3.block _ kd.lt (by have := H2.out.2.2.2.2; omega)).trans kd.blk⟩))
        have HB3 : Hid (Below w1.heap.size w1 w3) := Lib.hid (t3.below (H2.out.2.2.2.1.trans (HBd.out.mono H2.out.2.2.2.1.size)) H2.out.2.2.1 (Nat.le_trans H2.out.2.2.2.1.size HBd.out.size))
        have HO3 := Lib.hid o3
        have HJ3 := Lib.hid j3
        have HS3 := Lib.hid (H1.out.2.below HB3.out)
        have d0 : w3.cell? ⟨w2.heap.size, 0, none⟩ = some (.slice (some ⟨g, 0, none⟩) W cb) := j3.cell 0
        have d1 : w3.cell? ⟨w2.heap.size, 1, none⟩ = some (.bool true) := j3.cell 1
        have d2 : w3.cell? ⟨w2.heap.size, 2, none⟩ = some (.bool false) := j3.cell 2
        have HW1 : Hid (w.heap.size ≤ w1.heap.size) := Lib.hid H1.out.1.size
        have hal : Below w3.heap.size w3 (w3.alloc (.cells #[.slice (some ⟨g, 0, none⟩) W cb, .bool true, .bool false] pLine)) := (Below.refl _ _).alloc (Nat.le_refl _) _
        have HS4 := Lib.hid (HS3.out.below hal)
        have HO4 := Lib.hid (own_below HO3.out hal (Nat.le_refl _))
        have HB4 : Hid (Below w.heap.size w (w3.alloc (.cells #[.slice (some ⟨g, 0, none⟩) W cb, .bool true, .bool false] pLine))) := Lib.hid (HJ3.out.bel.alloc HJ3.out.bel.size _)
        have HR := Lib.hid (one_raw (T := pLine) w3 ⟨.slice (some ⟨g, 0, none⟩) W cb, true, false⟩)
        have hrl : rs.length ≤ 1000000 := by have h1 := H.out.own.len; have h2 := H.out.few; have h3 := H.out.le; have h4 := HL.out; omega
        clear hal t3 o3 j3 kd Q0 HBd HOw HYs H2
        go_wp2_with (at_builtin; refine append_line linePro _ rfl (.tmp 33) (.tmp 35) rfl w.heap.size _ rs ⟨.slice (some ⟨g, 0, none⟩) W cb, true, false⟩ ⟨w3.heap.size, 0, none⟩ rfl HS4.out.out rfl HR.out rfl hrl HB4.out.size ?_)
        intro g6 c6 w6 o6 gr6
        have HS6 : Hid (LState w.heap.size w6 (.slice (some ⟨g6, 0, none⟩) (rs.length + 1) c6) (rs ++ [⟨.slice (some ⟨g, 0, none⟩) W cb, true, false⟩]) (done ++ [lineV W l'])) := Lib.hid (by
          rw [HV.out]
          exact HS4.out.one rfl rfl (own_less HO4.out HW1.out) o6 gr6)
        have HB6 : Hid (Below w.heap.size w w6) := Lib.hid (grownL HB4.out gr6 HS4.out.out HB4.out.size)
        clear o6 gr6 HS4 HO4 HB4 HR HS3 HO3 HJ3 d0 d1 d2 HB3 hrl
        have hlt : M < N := of_decide_eq_true HM2.out.symm
        have HF : Hid (BState w W cs (f + M) (rs ++ [⟨.slice (some ⟨g, 0, none⟩) W cb, true, false⟩]) (done ++ [lineV W l']) w6 (.slice pf (N - M) df) (.slice (some ⟨g6, 0, none⟩) (rs.length + 1) c6)) := Lib.hid ⟨by rw [← List.drop_drop, ← HLl.out]; exact HFr.out, by have h1 := HNl.out; rw [HLl.out, List.length_drop] at h1; omega, by rw [List.length_append, List.length_singleton]; have h1 := H.out.few; have h2 := HP.out hlt; omega, by rw [H.out.lay, ← HLl.out, HY.out, if_pos hlt, List.append_assoc, HLl.out, List.drop_drop]; rfl, HS6.out, HB6.out⟩
        have HP2 := Lib.hid (HP.out hlt)
        clear HS6 HB6
        go_wp2
        go_roundw
        case rel => exact ⟨f + M, _, _, _, _, _, rfl, rfl, rfl, HF⟩
        case measure => have := HP2.out; simp [sliceLen]; omega
      | true =>
        go_wp2_with fail
        refine (show Calls _ _ _ _ _ from KF.out).mono ?_
        rintro e w1 ⟨rfl, b1⟩
        have H1 : Hid (Below w.heap.size w w1 ∧ LState w.heap.size w1 vl rs done) := Lib.hid ⟨H.out.bel.trans (b1.mono H.out.bel.size), H.out.own.below b1⟩
        have KB := Lib.hid (pblank_any (W : Int) zeroAa w1)
        rw [blankW W h2 h4] at KB
        clear b1 KF
        go_wp2_with fail
        refine (show Calls _ _ _ _ _ from KB.out).mono ?_
        rintro e w2 ⟨ub, rfl, hb, b2⟩
        obtain ⟨g, cb, rfl, hgb⟩ := own_some hb (by simp [blanks]; omega)
        have H2 : Hid (Below w.heap.size w w2 ∧ OwnC w2 w1.heap.size (.slice (some ⟨g, 0, none⟩) (blanks W zeroAa).length cb) (blanks W zeroAa) ∧ w1.heap.size ≤ g ∧ Below w1.heap.size w1 w2 ∧ g < w2.heap.size) := Lib.hid ⟨H1.out.1.trans (b2.mono H1.out.1.size), hb, hgb, b2, own_lt hb g rfl⟩
        have HBL : Hid ((blanks W zeroAa).length = W) := Lib.hid (by simp [blanks])
        rw [HBL.out] at H2 ⊢
        clear hb b2 KB hgb
        have kd := (Loc.new H2.out.1 #[.slice (some ⟨g, 0, none⟩) W cb, .bool true, .bool true] pLine).drew
        have Q0 : ∀ V, Loc w w2.heap.size #[.slice (some ⟨g, 0, none⟩) W cb, .bool true, .bool true] pLine V → V.cell? ⟨w2.heap.size, 0, none⟩ = some (.slice (some ⟨g, 0, none⟩) W cb) := fun V hV => hV.cell 0
        have HBd : Hid (Below w2.heap.size w2 (w2.alloc (.cells #[.slice (some ⟨g, 0, none⟩) W cb, .bool true, .bool true] pLine)).drew) := Lib.hid (below_drew ((Below.refl _ _).alloc (Nat.le_refl _) _) 1)
        have HOw := Lib.hid (own_below H2.out.2.1 HBd.out (Nat.le_refl _))
        have HYs := Lib.hid (HUp.out.below kd.bel)
        go_wp2_with fail
        go_region_held3 (fun V => Loc w w2.heap.size #[.slice (some ⟨g, 0, none⟩) W cb, .bool true, .bool true] pLine V) (assumption)
          (first
            | (refine step_copy_turn (dp := some ⟨g, 0, none⟩) (dn := W) (dc := cb) (sp := A) (sn := M) (sc := c) rfl (.tmp 28) (.tmp 31) rfl HOw.out HBL.out.symm (i := 0) (Nat.zero_le _) (by simp [Act.eval]) (by simp [Act.eval]) (Nat.sub_zero _).symm (Or.inl (by rw [Nat.zero_mul])) HYs.out ?_; intro w3 o3 t3; have j3 : Loc w w2.heap.size #[.slice (some ⟨g, 0, none⟩) W cb, .bool true, .bool true] pLine w3 := ⟨t3.below kd.bel (Nat.le_trans H1.out.1.size H2.out.2.2.1) kd.bel.size, (t3.block _ kd.lt (by have := H2.out.2.2.2.2; omega)).trans kd.blk⟩))
        have HB3 : Hid (Below w1.heap.size w1 w3) := Lib.hid (t3.below (H2.out.2.2.2.1.trans (HBd.out.mono H2.out.2.2.2.1.size)) H2.out.2.2.1 (Nat.le_trans H2.out.2.2.2.1.size HBd.out.size))
        have HO3 := Lib.hid o3
        have HJ3 := Lib.hid j3
        have HS3 := Lib.hid (H1.out.2.below HB3.out)
        have d0 : w3.cell? ⟨w2.heap.size, 0, none⟩ = some (.slice (some ⟨g, 0, none⟩) W cb) := j3.cell 0
        have d1 : w3.cell? ⟨w2.heap.size, 1, none⟩ = some (.bool true) := j3.cell 1
        have d2 : w3.cell? ⟨w2.heap.size, 2, none⟩ = some (.bool true) := j3.cell 2
        have HW1 : Hid (w.heap.size ≤ w1.heap.size) := Lib.hid H1.out.1.size
        have hal : Below w3.heap.size w3 (w3.alloc (.cells #[.slice (some ⟨g, 0, none⟩) W cb, .bool true, .bool true] pLine)) := (Below.refl _ _).alloc (Nat.le_refl _) _
        have HS4 := Lib.hid (HS3.out.below hal)
        have HO4 := Lib.hid (own_below HO3.out hal (Nat.le_refl _))
        have HB4 : Hid (Below w.heap.size w (w3.alloc (.cells #[.slice (some ⟨g, 0, none⟩) W cb, .bool true, .bool true] pLine))) := Lib.hid (HJ3.out.bel.alloc HJ3.out.bel.size _)
        have HR := Lib.hid (one_raw (T := pLine) w3 ⟨.slice (some ⟨g, 0, none⟩) W cb, true, true⟩)
        have hrl : rs.length ≤ 1000000 := by have h1 := H.out.own.len; have h2 := H.out.few; have h3 := H.out.le; have h4 := HL.out; omega
        clear hal t3 o3 j3 kd Q0 HBd HOw HYs H2
        go_wp2_with (at_builtin; refine append_line linePro _ rfl (.tmp 33) (.tmp 35) rfl w.heap.size _ rs ⟨.slice (some ⟨g, 0, none⟩) W cb, true, true⟩ ⟨w3.heap.size, 0, none⟩ rfl HS4.out.out rfl HR.out rfl hrl HB4.out.size ?_)
        intro g6 c6 w6 o6 gr6
        have HS6 : Hid (LState w.heap.size w6 (.slice (some ⟨g6, 0, none⟩) (rs.length + 1) c6) (rs ++ [⟨.slice (some ⟨g, 0, none⟩) W cb, true, true⟩]) (done ++ [lineV W l'])) := Lib.hid (by
          rw [HV.out]
          exact HS4.out.one rfl rfl (own_less HO4.out HW1.out) o6 gr6)
        have HB6 : Hid (Below w.heap.size w w6) := Lib.hid (grownL HB4.out gr6 HS4.out.out HB4.out.size)
        clear o6 gr6 HS4 HO4 HB4 HR HS3 HO3 HJ3 d0 d1 d2 HB3 hrl
        have hlt : M < N := of_decide_eq_true HM2.out.symm
        have HF : Hid (BState w W cs (f + M) (rs ++ [⟨.slice (some ⟨g, 0, none⟩) W cb, true, true⟩]) (done ++ [lineV W l']) w6 (.slice pf (N - M) df) (.slice (some ⟨g6, 0, none⟩) (rs.length + 1) c6)) := Lib.hid ⟨by rw [← List.drop_drop, ← HLl.out]; exact HFr.out, by have h1 := HNl.out; rw [HLl.out, List.length_drop] at h1; omega, by rw [List.length_append, List.length_singleton]; have h1 := H.out.few; have h2 := HP.out hlt; omega, by rw [H.out.lay, ← HLl.out, HY.out, if_pos hlt, List.append_assoc, HLl.out, List.drop_drop]; rfl, HS6.out, HB6.out⟩
        have HP2 := Lib.hid (HP.out hlt)
        clear HS6 HB6
        go_wp2
        go_roundw
        case rel => exact ⟨f + M, _, _, _, _, _, rfl, rfl, rfl, HF⟩
        case measure => have := HP2.out; simp [sliceLen]; omega
end Go.Proofs.Ytifolcfnknlmdaa.Re
