/- Layer 10: the document's Apply. -/
import Derived.Test.YtjmojhohecbipaaDoorAtL
import Derived.Test.YtjmojhohecbipaaDoorAtZ
import Derived.Laws.BitsAll
set_option linter.unusedVariables false
namespace Go.Proofs.YtjmojhohecbipaaDoor.A10
open Go.RowKit Sgr

theorem go_step {a0 a a' : At} {l : List (List Int)} {k t : Nat} (hg : goV a0 0 l = goV a 0 (l.drop k)) (ha : AtOk a) (hk : k < l.length) (hs : stepV a (l.getD k []) (l.drop (k + 1)) = (a', t)) : goV a0 0 l = goV a' 0 (l.drop (k + 1 + t)) ∧ AtOk a' := by
  have e : l.getD k [] = l[k] := by rw [List.getD_eq_getElem?_getD, List.getElem?_eq_getElem hk]; rfl
  have h2 := step_ok ha (l.getD k []) (l.drop (k + 1))
  rw [e] at hs h2
  have h1 := go_at a l k hk
  rw [hs] at h1 h2
  exact ⟨hg.trans h1, h2⟩

theorem AttrAt.z2 {w0 w : World} {a : At} (h : AttrAt w (w0.heap.size + 1) a) (c : Co) : AttrAt ((w.setCell ⟨w0.heap.size, 1, none⟩ (.int .u8 (c.kind : Int))).setCell ⟨w0.heap.size, 2, none⟩ (.int .u32 (c.n : Int))) (w0.heap.size + 1) a := keep1 (by omega) (keep1 (by omega) h _) _
theorem set2 {w0 w : World} (h : Below w0.heap.size w0 w) (i j : Nat) (u v : Value) : Below w0.heap.size w0 ((w.setCell ⟨w0.heap.size, i, none⟩ u).setCell ⟨w0.heap.size, j, none⟩ v) := (h.setCell (by simp) _).setCell (by simp) _
theorem short_no {n : Int} (h : n < 30 ∨ 97 < n) : shortV n = (zeroC, false) := by
  unfold shortV
  rw [if_neg (by omega), if_neg (by omega)]
  have : decide (n = 39) = false := by simp; omega
  rw [this]
theorem wrap_low (x : Int) (h1 : -9223372036854775808 ≤ x) (h2 : x ≤ 9223372036854775807) : ∃ y, wrap64 (x - 10) = y ∧ (-9223372036854775808 ≤ y ∧ y ≤ 9223372036854775807) ∧ shortV y = shortV (x - 10) := by
  have e : wrap64 (x - 10) = x - 10 ∨ (wrap64 (x - 10) = x - 10 + 18446744073709551616 ∧ x - 10 < -9223372036854775808) := by unfold wrap64; omega
  rcases e with e | ⟨e, hlow⟩
  · exact ⟨_, rfl, by unfold wrap64; omega, by rw [e]⟩
  · exact ⟨_, rfl, by rw [e]; omega, by rw [e, short_no (Or.inr (by omega)), short_no (Or.inl (by omega))]⟩

set_option maxRecDepth 100000 in
set_option maxHeartbeats 8000000 in
theorem rapply_some (a : At) (ha : AtOk a) (l : List (List Int)) (A : Option Addr) (n c : Nat) (w : World) (hT : TabL w A l) (hn : n = l.length) (hl : n ≤ 9223372036854775807) (h0 : 0 < n) :
    Calls Tryd.prog 13 #[atA a, .slice A n c] w fun e w' => e = .returned (atA (goV a 0 l)) ∧ Below w.heap.size w w' := by
  have g0 : ((n : Int) == 0) = false := by simp; omega
  obtain ⟨R, hR⟩ : ∃ R, R = goV a 0 l := ⟨_, rfl⟩
  rw [← hR]
  have HT := Lib.hid hT
  have HR := Lib.hid hR
  have HAO := Lib.hid ha
  have Hn := Lib.hid hn
  have HS : Hid (AttrAt ((w.alloc (.cells (atCells a) 27)).alloc (.cells (atCells zeroA) 27)) w.heap.size a ∧ AttrAt ((w.alloc (.cells (atCells a) 27)).alloc (.cells (atCells zeroA) 27)) (w.heap.size + 1) zeroA) := Lib.hid (by
    refine ⟨(Deep.blk_alloc_lt _ _ _ (by simp)).trans (Deep.blk_alloc_new _ _), ?_⟩
    have := Deep.blk_alloc_new (w.alloc (.cells (atCells a) 27)) (.cells (atCells zeroA) 27)
    rw [Deep.nblk_alloc] at this
    exact this)
  have HA : Hid (∀ o o', Below w.heap.size w ((w.alloc o).alloc o')) := Lib.hid fun o o' => ((Below.refl _ _).alloc (Nat.le_refl _) _).alloc (by simp) _
  clear hR hT hn ha
  unfold atA
  go_enter Tryd.func13, Tryd.ntmps13
  go_wp2
  go_loopw [5] (fun i wr => ∃ (k : Nat) (b : At), k ≤ n ∧ i = .int .i64 k ∧ Hid (R = goV b 0 (l.drop k)) ∧ Hid (AtOk b) ∧ Hid (AttrAt wr w.heap.size b) ∧ Hid (AttrAt wr (w.heap.size + 1) zeroA) ∧ Hid (Below w.heap.size w wr)) (fun i _ => n - (RowKit.intOf i).toNat)
  case atStart => exact ⟨0, a, Nat.zero_le _, rfl, HR, HAO, Lib.hid HS.out.1, Lib.hid HS.out.2, Lib.hid (HA.out _ _)⟩
  case round =>
    obtain ⟨k, b, hk, rfl, HG, HB, HAT, HZ, HBW⟩ := hrel
    rename_i wr
    clear HS HA HR HAO
    by_cases hkn : k < n
    · obtain ⟨ad, B, D, rfl, hrow, hm1, hRow⟩ := HT.out.row (k := k) (by rw [← Hn.out]; exact hkn)
      have hrw := hrow _ HBW.out
      have gk : decide ((k : Int) < (n : Int)) = true := by simp; omega
      have hk0 : (0 : Int) ≤ (k : Int) := by omega
      have hk1 : (k : Int) < (n : Int) := by omega
      have HL : Hid (∀ V, Below w.heap.size w V → Calls Tryd.prog 24 #[.slice (some ad) n c, .int .i64 k] V (LongPost V (longV (l.getD k []) (l.drop (k + 1))))) := Lib.hid fun V hV => long_any l (some ad) n c k V (HT.out.below hV) Hn.out hl hkn
      have HST : Hid (∀ (b' : At) (t : Nat), stepV b (l.getD k []) (l.drop (k + 1)) = (b', t) → R = goV b' 0 (l.drop (k + 1 + t)) ∧ AtOk b') := Lib.hid fun b' t h => by
        have := go_step (a0 := b) (k := k) (l := l) (a := b) (a' := b') (t := t)
        have h1 := HG.out
        have h2 := go_at b l k (by rw [← Hn.out]; exact hkn)
        have e : l.getD k [] = l[k]'(by rw [← Hn.out]; exact hkn) := by rw [List.getD_eq_getElem?_getD, List.getElem?_eq_getElem (by rw [← Hn.out]; exact hkn)]; rfl
        have h3 := step_ok HB.out (l.getD k []) (l.drop (k + 1))
        rw [e] at h h3
        rw [h] at h2 h3
        exact ⟨h1.trans h2, h3⟩
      have hT2 := long_taken (l.getD k []) (l.drop (k + 1))
      rw [List.length_drop, ← Hn.out] at hT2
      generalize hpe : l.getD k [] = p at *
      generalize l.drop (k + 1) = L at *
      obtain ⟨m, hm⟩ : ∃ m, m = p.length := ⟨_, rfl⟩
      rw [← hm] at hrw hm1
      have HP : Hid (∀ V, Below w.heap.size w V → Calls Tryd.prog 23 #[.slice B m D, .int .i64 0] V fun e w' => e = .returned (.int .i64 (partV p 0)) ∧ V = w') := Lib.hid fun V hV => part_any p B m D 0 V (hRow.below hV) hm (by omega) (by decide)
      have HM := Lib.hid hm
      have HRow := Lib.hid hRow
      clear hm hRow hrow hpe
      have a0 := HAT.out.c0
      have a1 := HAT.out.c1
      have a2 := HAT.out.c2
      have a3 := HAT.out.c3
      have a4 := HAT.out.c4
      have fr := fun i => free_blk HAT.out i
      by_cases h38 : partV p 0 = 38
      · have H1 := Lib.hid (HST.out _ _ (step_fg b L h38))
        rw [h38] at HP
        unfold LongPost at HL
        have HE : Hid (ExtV b.fg p L = if (longV p L).2.2 = true then (longV p L).1 else b.fg) := Lib.hid rfl
        generalize longV p L = r at *
        generalize ExtV b.fg p L = E at *
        obtain ⟨cc, t, ok⟩ := r
        dsimp only at HL H1 HE hT2
        unfold coA at HL
        clear h38 HST
        go_wp2_with fail
        refine (HP.out _ HBW.out).mono ?_
        rintro e w' ⟨rfl, rfl⟩
        go_wp2_with fail
        refine (HL.out _ HBW.out).mono ?_
        rintro e w2 ⟨rfl, b2⟩
        have HAT2 := HAT.out.below b2
        have HZ2 := HZ.out.below b2
        have HB2 := HBW.out.trans (b2.mono HBW.out.size)
        have y1 := HAT2.c1
        have y2 := HAT2.c2
        have fy := fun i => free_blk HAT2 i
        have A2 := Lib.hid HAT2
        have Z2 := Lib.hid HZ2
        have B2 := Lib.hid HB2
        have hlt : w.heap.size < w2.heap.size := (Array.getElem?_eq_some_iff.1 HAT2).1
        have hne : w.heap.size ≠ w2.heap.size := by omega
        clear HAT2 HZ2 HB2 b2 a0 a1 a2 a3 a4 fr hrw
        cases ok
        · have HE2 : E = b.fg := by rw [HE.out]; exact if_neg Bool.false_ne_true
          go_wp2
          refine ⟨⟨k + 1 + t, _, by omega, congrArg (Value.int .i64) (by omega), Lib.hid H1.out.1, Lib.hid H1.out.2, Lib.hid ?_, Lib.hid ?_, Lib.hid ?_⟩, by simp [RowKit.intOf]; omega⟩
          · rw [HE2]
            exact A2.out.below ((Below.refl _ _).alloc (Nat.le_refl _) _)
          · exact Z2.out.below ((Below.refl _ _).alloc (Nat.le_refl _) _)
          · exact B2.out.alloc B2.out.size _
        · have HE2 : E = cc := by rw [HE.out]; exact if_pos rfl
          go_wp2
          refine ⟨⟨k + 1 + t, _, by omega, congrArg (Value.int .i64) (by omega), Lib.hid H1.out.1, Lib.hid H1.out.2, Lib.hid ?_, Lib.hid ?_, Lib.hid ?_⟩, by simp [RowKit.intOf]; omega⟩
          · rw [HE2]
            exact (A2.out.setFg cc).below ((Below.refl _ _).alloc (Nat.le_refl _) _)
          · exact AttrAt.below (keep1 (by omega) (keep1 (by omega) Z2.out _) _) ((Below.refl _ _).alloc (Nat.le_refl _) _)
          · exact ((B2.out.setCell (by simp) _).setCell (by simp) _).alloc (by have := B2.out.size; simpa using this) _
      by_cases h48 : partV p 0 = 48
      · have H1 := Lib.hid (HST.out _ _ (step_bg b L h48))
        rw [h48] at HP
        unfold LongPost at HL
        have HE : Hid (ExtV b.bg p L = if (longV p L).2.2 = true then (longV p L).1 else b.bg) := Lib.hid rfl
        generalize longV p L = r at *
        generalize ExtV b.bg p L = E at *
        obtain ⟨cc, t, ok⟩ := r
        dsimp only at HL H1 HE hT2
        unfold coA at HL
        clear h48 HST
        go_wp2_with fail
        refine (HP.out _ HBW.out).mono ?_
        rintro e w' ⟨rfl, rfl⟩
        go_wp2_with fail
        refine (HL.out _ HBW.out).mono ?_
        rintro e w2 ⟨rfl, b2⟩
        have HAT2 := HAT.out.below b2
        have HZ2 := HZ.out.below b2
        have HB2 := HBW.out.trans (b2.mono HBW.out.size)
        have y1 := HAT2.c3
        have y2 := HAT2.c4
        have fy := fun i => free_blk HAT2 i
        have A2 := Lib.hid HAT2
        have Z2 := Lib.hid HZ2
        have B2 := Lib.hid HB2
        have hlt : w.heap.size < w2.heap.size := (Array.getElem?_eq_some_iff.1 HAT2).1
        have hne : w.heap.size ≠ w2.heap.size := by omega
        clear HAT2 HZ2 HB2 b2 a0 a1 a2 a3 a4 fr hrw
        cases ok
        · have HE2 : E = b.bg := by rw [HE.out]; exact if_neg Bool.false_ne_true
          go_wp2
          refine ⟨⟨k + 1 + t, _, by omega, congrArg (Value.int .i64) (by omega), Lib.hid H1.out.1, Lib.hid H1.out.2, Lib.hid ?_, Lib.hid ?_, Lib.hid ?_⟩, by simp [RowKit.intOf]; omega⟩
          · rw [HE2]
            exact A2.out.below ((Below.refl _ _).alloc (Nat.le_refl _) _)
          · exact Z2.out.below ((Below.refl _ _).alloc (Nat.le_refl _) _)
          · exact B2.out.alloc B2.out.size _
        · have HE2 : E = cc := by rw [HE.out]; exact if_pos rfl
          go_wp2
          refine ⟨⟨k + 1 + t, _, by omega, congrArg (Value.int .i64) (by omega), Lib.hid H1.out.1, Lib.hid H1.out.2, Lib.hid ?_, Lib.hid ?_, Lib.hid ?_⟩, by simp [RowKit.intOf]; omega⟩
          · rw [HE2]
            exact (A2.out.setBg cc).below ((Below.refl _ _).alloc (Nat.le_refl _) _)
          · exact AttrAt.below (keep1 (by omega) (keep1 (by omega) Z2.out _) _) ((Below.refl _ _).alloc (Nat.le_refl _) _)
          · exact ((B2.out.setCell (by simp) _).setCell (by simp) _).alloc (by have := B2.out.size; simpa using this) _
      have hbx : -9223372036854775808 ≤ partV p 0 ∧ partV p 0 ≤ 9223372036854775807 := by
        by_cases h0 : 0 < p.length
        · obtain ⟨_, _, _, hb⟩ := HRow.out 0 h0
          exact hb
        · have : partV p 0 = 0 := by
            show List.getD _ 0 0 = 0
            rw [List.getD_eq_getElem?_getD, List.getElem?_eq_none (by omega)]; rfl
          rw [this]; decide
      have H1 : Hid (partV p 0 ≠ 0 → R = goV (upV b (firstV p)) 0 (l.drop (k + 1)) ∧ AtOk (upV b (firstV p))) := Lib.hid fun h => HST.out _ 0 (by unfold stepV; rw [if_neg h38, if_neg h48, if_neg h])
      have hbs : w.heap.size < wr.heap.size := (Array.getElem?_eq_some_iff.1 HAT.out).1
      by_cases hx0 : partV p 0 = 0
      · have hfy : firstV p = 0 := by unfold firstV; rw [if_neg (by omega), hx0]
        have HU0 : upV zeroA 0 = ⟨0, if (shortV 0).2 = true then (shortV 0).1 else zeroC, if (shortV (-10)).2 = true then (shortV (-10)).1 else zeroC⟩ := by decide +kernel
        have H2 : Hid (R = goV (upV zeroA 0) 0 (l.drop (k + 1)) ∧ AtOk (upV zeroA 0)) := Lib.hid (HST.out _ 0 (by unfold stepV; rw [if_neg h38, if_neg h48, if_pos hx0, hfy]))
        rw [HU0] at H2
        rw [hx0] at HP
        have HBit : Hid (∀ V, Calls Tryd.prog 25 #[.int .i64 0] V fun e w' => e = .returned (.int .u16 0) ∧ V = w') := Lib.hid fun V => bit_any 0 V
        have HS1 := Lib.hid fun V => short_any 0 (by omega) (by omega) V
        have HS2 := Lib.hid fun V => short_any (-10) (by omega) (by omega) V
        generalize shortV 0 = s1 at *
        generalize shortV (-10) = s2 at *
        obtain ⟨c1, ok1⟩ := s1
        obtain ⟨c2, ok2⟩ := s2
        unfold coA at HS1 HS2
        dsimp only at HS1 HS2 H2
        clear hfy HU0 H1 hT2 HL HST hx0 h38 h48
        go_wp2_with fail
        refine (HP.out _ HBW.out).mono ?_
        rintro e w' ⟨rfl, rfl⟩
        go_wp2_with fail
        obtain ⟨W0, hW0⟩ : ∃ W0, W0 = ((((wr.setCell ⟨w.heap.size, 0, none⟩ (.int .u16 0)).setCell ⟨w.heap.size, 1, none⟩ (.int .u8 0)).setCell ⟨w.heap.size, 2, none⟩ (.int .u32 0)).setCell ⟨w.heap.size, 3, none⟩ (.int .u8 0)).setCell ⟨w.heap.size, 4, none⟩ (.int .u32 0) := ⟨_, rfl⟩
        have QA : AttrAt W0 w.heap.size zeroA := by rw [hW0]; exact HAT.out.all zeroA
        have QZ : AttrAt W0 (w.heap.size + 1) zeroA := by rw [hW0]; exact keep5 (by omega) HZ.out _ _ _ _ _
        have QB : Below w.heap.size w W0 := by rw [hW0]; exact below5 HBW.out _ (by omega) _ _ _ _ _
        rw [← hW0]
        have QA0 := Lib.hid QA
        have QZ0 := Lib.hid QZ
        have QB0 := Lib.hid QB
        have d0 : W0.drew.cell? ⟨w.heap.size, 0, none⟩ = some (.int .u16 0) := QA.c0
        have fd : W0.drew.frozen? ⟨w.heap.size, 0, none⟩ = false := free_blk QA 0
        have e0 : W0.cell? ⟨w.heap.size, 0, none⟩ = some (.int .u16 0) := QA.c0
        have fe : W0.frozen? ⟨w.heap.size, 0, none⟩ = false := free_blk QA 0
        have hor : bits .or .u16 0 0 = 0 := by decide
        clear hW0 QA QZ QB a0 a1 a2 a3 a4 fr hrw
        go_region_law (go_simp; go_at_call 25; refine (HBit.out _).mono ?_; rintro e w1 ⟨rfl, rfl⟩)
        all_goals
          obtain ⟨W1, hW1⟩ : ∃ W1, W1 = (W0.setCell ⟨w.heap.size, 0, none⟩ (.int .u16 0)).drew := ⟨_, rfl⟩
          have TA : AttrAt W1 w.heap.size ⟨0, zeroC, zeroC⟩ := by rw [hW1]; exact QA0.out.setFl 0
          have TZ : AttrAt W1 (w.heap.size + 1) zeroA := by rw [hW1]; exact keep1 (by omega) QZ0.out _
          have TB : Below w.heap.size w W1 := by rw [hW1]; exact below_drew (QB0.out.setCell (by simp) _) 1
          rw [← hW1]
          have TA1 := Lib.hid TA
          have TZ1 := Lib.hid TZ
          have TB1 := Lib.hid TB
          have v0 := TA.c0
          clear hW1 TA TZ TB d0 fd e0 fe
          go_wp2_with fail
          refine (HS1.out _).mono ?_
          rintro e w3 ⟨rfl, b3⟩
          have TA3 := Lib.hid (TA1.out.below b3)
          have TZ3 := Lib.hid (TZ1.out.below b3)
          have TB3 := Lib.hid (TB1.out.trans (b3.mono TB1.out.size))
          have x1 := TA3.out.c1
          have x2 := TA3.out.c2
          have fx := fun i => free_blk TA3.out i
          have hl3 : w.heap.size < w3.heap.size := (Array.getElem?_eq_some_iff.1 TA3.out).1
          have hn3 : w.heap.size ≠ w3.heap.size := by omega
          clear b3 TA1 TZ1 TB1 v0
          cases ok1
          · go_wp2_with fail
            refine (HS2.out _).mono ?_
            rintro e w5 ⟨rfl, b5⟩
            have hb4 := (TB3.out).alloc (TB3.out).size (.cells #[.int .u8 (c1.kind : Int), .int .u32 (c1.n : Int)] 25)
            have TA5 := Lib.hid (AttrAt.below (AttrAt.below TA3.out ((Below.refl _ _).alloc (Nat.le_refl _) _)) b5)
            have TZ5 := Lib.hid (AttrAt.below (AttrAt.below TZ3.out ((Below.refl _ _).alloc (Nat.le_refl _) _)) b5)
            have TB5 := Lib.hid (hb4.trans (b5.mono hb4.size))
            have hcb : w5.heap[w3.heap.size]? = some (.cells #[.int .u8 (c1.kind : Int), .int .u32 (c1.n : Int)] 25 (0, 0)) := (b5.block _ (by simp)).trans (by
              have := Deep.blk_alloc_new w3 (.cells #[.int .u8 (c1.kind : Int), .int .u32 (c1.n : Int)] 25)
              simpa using this)
            have kc0 : w5.cell? ⟨w3.heap.size, 0, none⟩ = some (.int .u8 (c1.kind : Int)) := cell_blk hcb 0
            have kc1 : w5.cell? ⟨w3.heap.size, 1, none⟩ = some (.int .u32 (c1.n : Int)) := cell_blk hcb 1
            have fc := fun i => free_blk hcb i
            have hz3 : w.heap.size + 1 < w3.heap.size := (Array.getElem?_eq_some_iff.1 TZ3.out).1
            have x3 := TA5.out.c3
            have x4 := TA5.out.c4
            have fz := fun i => free_blk TA5.out i
            have hl5 : w.heap.size < w5.heap.size := (Array.getElem?_eq_some_iff.1 TA5.out).1
            have hn5 : w.heap.size ≠ w5.heap.size := by omega
            clear b5 hb4 TA3 TZ3 TB3 x1 x2 fx hcb
            cases ok2
            · go_wp2
              refine ⟨⟨k + 1, _, by omega, by go_num, Lib.hid H2.out.1, Lib.hid H2.out.2, Lib.hid ?_, Lib.hid ?_, Lib.hid ?_⟩, by simp [RowKit.intOf]; omega⟩
              · exact keep1 (by omega) (keep1 (by omega) TA5.out _) _
              · exact keep1 (by omega) (keep1 (by omega) TZ5.out _) _
              · exact (TB5.out.setCell (by simp; omega) _).setCell (by simp; omega) _
            · go_wp2
              refine ⟨⟨k + 1, _, by omega, by go_num, Lib.hid H2.out.1, Lib.hid H2.out.2, Lib.hid ?_, Lib.hid ?_, Lib.hid ?_⟩, by simp [RowKit.intOf]; omega⟩
              · exact AttrAt.setBg (keep1 (by omega) (keep1 (by omega) TA5.out _) _) c2
              · exact keep1 (by omega) (keep1 (by omega) (keep1 (by omega) (keep1 (by omega) TZ5.out _) _) _) _
              · exact (((TB5.out.setCell (by simp; omega) _).setCell (by simp; omega) _).setCell (by simp) _).setCell (by simp) _
          · go_wp2_with fail
            refine (HS2.out _).mono ?_
            rintro e w5 ⟨rfl, b5⟩
            have hb4 := ((set2 TB3.out 1 2 (.int .u8 (c1.kind : Int)) (.int .u32 (c1.n : Int)))).alloc ((set2 TB3.out 1 2 (.int .u8 (c1.kind : Int)) (.int .u32 (c1.n : Int)))).size (.cells #[.int .u8 (c1.kind : Int), .int .u32 (c1.n : Int)] 25)
            have TA5 := Lib.hid (AttrAt.below (AttrAt.below (TA3.out.setFg c1) ((Below.refl _ _).alloc (Nat.le_refl _) _)) b5)
            have TZ5 := Lib.hid (AttrAt.below (AttrAt.below (AttrAt.z2 TZ3.out c1) ((Below.refl _ _).alloc (Nat.le_refl _) _)) b5)
            have TB5 := Lib.hid (hb4.trans (b5.mono hb4.size))
            have hcb : w5.heap[w3.heap.size]? = some (.cells #[.int .u8 (c1.kind : Int), .int .u32 (c1.n : Int)] 25 (0, 0)) := (b5.block _ (by simp)).trans (by
              have := Deep.blk_alloc_new ((w3.setCell ⟨w.heap.size, 1, none⟩ (.int .u8 (c1.kind : Int))).setCell ⟨w.heap.size, 2, none⟩ (.int .u32 (c1.n : Int))) (.cells #[.int .u8 (c1.kind : Int), .int .u32 (c1.n : Int)] 25)
              simpa using this)
            have kc0 : w5.cell? ⟨w3.heap.size, 0, none⟩ = some (.int .u8 (c1.kind : Int)) := cell_blk hcb 0
            have kc1 : w5.cell? ⟨w3.heap.size, 1, none⟩ = some (.int .u32 (c1.n : Int)) := cell_blk hcb 1
            have fc := fun i => free_blk hcb i
            have hz3 : w.heap.size + 1 < w3.heap.size := (Array.getElem?_eq_some_iff.1 TZ3.out).1
            have x3 := TA5.out.c3
            have x4 := TA5.out.c4
            have fz := fun i => free_blk TA5.out i
            have hl5 : w.heap.size < w5.heap.size := (Array.getElem?_eq_some_iff.1 TA5.out).1
            have hn5 : w.heap.size ≠ w5.heap.size := by omega
            clear b5 hb4 TA3 TZ3 TB3 x1 x2 fx hcb
            cases ok2
            · go_wp2
              refine ⟨⟨k + 1, _, by omega, by go_num, Lib.hid H2.out.1, Lib.hid H2.out.2, Lib.hid ?_, Lib.hid ?_, Lib.hid ?_⟩, by simp [RowKit.intOf]; omega⟩
              · exact keep1 (by omega) (keep1 (by omega) TA5.out _) _
              · exact keep1 (by omega) (keep1 (by omega) TZ5.out _) _
              · exact (TB5.out.setCell (by simp; omega) _).setCell (by simp; omega) _
            · go_wp2
              refine ⟨⟨k + 1, _, by omega, by go_num, Lib.hid H2.out.1, Lib.hid H2.out.2, Lib.hid ?_, Lib.hid ?_, Lib.hid ?_⟩, by simp [RowKit.intOf]; omega⟩
              · exact AttrAt.setBg (keep1 (by omega) (keep1 (by omega) TA5.out _) _) c2
              · exact keep1 (by omega) (keep1 (by omega) (keep1 (by omega) (keep1 (by omega) TZ5.out _) _) _) _
              · exact (((TB5.out.setCell (by simp; omega) _).setCell (by simp; omega) _).setCell (by simp) _).setCell (by simp) _
      have hs38 : (partV p 0 == 38) = false := by simpa using h38
      have hs48 : (partV p 0 == 48) = false := by simpa using h48
      have hs0 : (partV p 0 == 0) = false := by simpa using hx0
      by_cases hx4 : partV p 0 = 4
      · have H2a : firstV p = 4 → R = goV (upV b 4) 0 (l.drop (k + 1)) ∧ AtOk (upV b 4) := fun h => by have := H1.out hx0; rw [h] at this; exact this
        have H2b : firstV p = 24 → R = goV (upV b 24) 0 (l.drop (k + 1)) ∧ AtOk (upV b 24) := fun h => by have := H1.out hx0; rw [h] at this; exact this
        rw [hx4] at HP
        by_cases hm1 : 1 < m
        · obtain ⟨bb, eB, hcb, _⟩ := HRow.out 1 (by rw [← HM.out]; exact hm1)
          subst eB
          rw [add_pos'] at hcb
          have hcw := (HBW.out.cell (cell_lt hcb)).trans hcb
          have gm : decide ((m : Int) > 1) = true := by simp; omega
          have hmi : (1 : Int) < (m : Int) := by omega
          by_cases hp1 : partV p 1 = 0
          · have hfy : firstV p = 24 := by unfold firstV; rw [if_pos ⟨hx4, by rw [← HM.out]; exact hm1, hp1⟩]
            have H2 := Lib.hid (H2b hfy)
            rw [hp1] at hcw
            clear hfy H1 hT2 HL HST H2a H2b hx4 hx0 h38 h48 hs38 hs48 hs0 hcb hbx hp1
            have HBit := Lib.hid fun V => bit_any 24 V
            have hbl := bit_le 24
            obtain ⟨Bi, hBi⟩ : ∃ Bi, Bi = bitV 24 := ⟨_, rfl⟩
            rw [← hBi] at HBit hbl
            obtain ⟨f1, hf1⟩ : ∃ f1, f1 = b.fl ||| Bi := ⟨_, rfl⟩
            have hor : bits .or .u16 (b.fl : Int) (Bi : Int) = ((f1 : Nat) : Int) := by rw [hf1]; exact u16_or_nat _ _ HB.out.1 (by omega)
            have hf1b : f1 < 65536 := by rw [hf1]; exact or_lt 16 HB.out.1 (by omega)
            have HS1 := Lib.hid fun V => short_any 24 (by omega) (by omega) V
            have HBit2 := Lib.hid fun V => bit_any 4 V
            have hbl2 := bit_le 4
            obtain ⟨B2, hB2⟩ : ∃ B2, B2 = bitV 4 := ⟨_, rfl⟩
            rw [← hB2] at HBit2 hbl2
            obtain ⟨f3, hf3⟩ : ∃ f3, f3 = f1 &&& (65535 - B2) := ⟨_, rfl⟩
            have hn2 : bits .andNot .u16 (f1 : Int) (B2 : Int) = ((f3 : Nat) : Int) := by rw [hf3]; exact u16_andNot_nat _ _ hf1b (by omega)
            have HU : Hid (upV b 24 = ⟨f3, if (shortV 24).2 = true then (shortV 24).1 else b.fg, if (shortV (14)).2 = true then (shortV (14)).1 else b.bg⟩) := Lib.hid (by
              unfold upV flagV
              rw [if_pos (by omega), if_neg (by omega), hf3, hB2, hf1, hBi]; rfl)
            rw [HU.out] at H2
            have HS2 := Lib.hid fun V => short_any (14) (by omega) (by omega) V
            generalize shortV 24 = s1 at *
            generalize shortV (14) = s2 at *
            obtain ⟨c1, ok1⟩ := s1
            obtain ⟨c2, ok2⟩ := s2
            unfold coA at HS1 HS2
            dsimp only at HS1 HS2 H2
            clear hf1 hBi HU hf3 hB2
            have d0 : wr.drew.cell? ⟨w.heap.size, 0, none⟩ = some (.int .u16 b.fl) := HAT.out.c0
            have fd : wr.drew.frozen? ⟨w.heap.size, 0, none⟩ = false := free_blk HAT.out 0
            go_wp2_with fail
            refine (HP.out _ HBW.out).mono ?_
            rintro e w' ⟨rfl, rfl⟩
            go_wp2_with fail
            go_region_law (go_simp; go_at_call 25; refine (HBit.out _).mono ?_; rintro e w1 ⟨rfl, rfl⟩)
            all_goals
              obtain ⟨W1, hW1⟩ : ∃ W1, W1 = (wr.setCell ⟨w.heap.size, 0, none⟩ (.int .u16 (f1 : Int))).drew := ⟨_, rfl⟩
              have TA : AttrAt W1 w.heap.size ⟨f1, b.fg, b.bg⟩ := by rw [hW1]; exact HAT.out.setFl f1
              have TZ : AttrAt W1 (w.heap.size + 1) zeroA := by rw [hW1]; exact keep1 (by omega) HZ.out _
              have TB : Below w.heap.size w W1 := by rw [hW1]; exact below_drew (HBW.out.setCell (by simp) _) 1
              rw [← hW1]
              have TA1 := Lib.hid TA
              have TZ1 := Lib.hid TZ
              have TB1 := Lib.hid TB
              have v0 := TA.c0
              clear hW1 TA TZ TB a0 a1 a2 a3 a4 fr hrw d0 fd
              have fv := fun i => free_blk TA1.out i
              have fvd := fun i => (free_blk TA1.out i : W1.drew.frozen? _ = false)
              have vd : W1.drew.cell? ⟨w.heap.size, 0, none⟩ = some (.int .u16 (f1 : Int)) := TA1.out.c0
              go_wp2_with fail
              go_region_law (go_simp; go_at_call 25; refine (HBit2.out _).mono ?_; rintro e w1 ⟨rfl, rfl⟩)
              all_goals
                obtain ⟨W2, hW2⟩ : ∃ W2, W2 = (W1.setCell ⟨w.heap.size, 0, none⟩ (.int .u16 (f3 : Int))).drew := ⟨_, rfl⟩
                have TA : AttrAt W2 w.heap.size ⟨f3, b.fg, b.bg⟩ := by rw [hW2]; exact TA1.out.setFl f3
                have TZ : AttrAt W2 (w.heap.size + 1) zeroA := by rw [hW2]; exact keep1 (by omega) TZ1.out _
                have TB : Below w.heap.size w W2 := by rw [hW2]; exact below_drew (TB1.out.setCell (by simp) _) 1
                first | rw [← hW2] | (trace_state; fail)
                clear TA1 TZ1 TB1 v0
                have TA1 := Lib.hid TA
                have TZ1 := Lib.hid TZ
                have TB1 := Lib.hid TB
                have v0 := TA.c0
                clear hW2 TA TZ TB vd fv fvd
                go_wp2_with fail
                refine (HS1.out _).mono ?_
                rintro e w3 ⟨rfl, b3⟩
                have TA3 := Lib.hid (TA1.out.below b3)
                have TZ3 := Lib.hid (TZ1.out.below b3)
                have TB3 := Lib.hid (TB1.out.trans (b3.mono TB1.out.size))
                have x1 := TA3.out.c1
                have x2 := TA3.out.c2
                have fx := fun i => free_blk TA3.out i
                have hl3 : w.heap.size < w3.heap.size := (Array.getElem?_eq_some_iff.1 TA3.out).1
                have hn3 : w.heap.size ≠ w3.heap.size := by omega
                clear b3 TA1 TZ1 TB1 v0
                cases ok1
                · go_wp2_with fail
                  refine (HS2.out _).mono ?_
                  rintro e w5 ⟨rfl, b5⟩
                  have hb4 := (TB3.out).alloc (TB3.out).size (.cells #[.int .u8 (c1.kind : Int), .int .u32 (c1.n : Int)] 25)
                  have TA5 := Lib.hid (AttrAt.below (AttrAt.below TA3.out ((Below.refl _ _).alloc (Nat.le_refl _) _)) b5)
                  have TZ5 := Lib.hid (AttrAt.below (AttrAt.below TZ3.out ((Below.refl _ _).alloc (Nat.le_refl _) _)) b5)
                  have TB5 := Lib.hid (hb4.trans (b5.mono hb4.size))
                  have hcb : w5.heap[w3.heap.size]? = some (.cells #[.int .u8 (c1.kind : Int), .int .u32 (c1.n : Int)] 25 (0, 0)) := (b5.block _ (by simp)).trans (by
                    have := Deep.blk_alloc_new w3 (.cells #[.int .u8 (c1.kind : Int), .int .u32 (c1.n : Int)] 25)
                    simpa using this)
                  have kc0 : w5.cell? ⟨w3.heap.size, 0, none⟩ = some (.int .u8 (c1.kind : Int)) := cell_blk hcb 0
                  have kc1 : w5.cell? ⟨w3.heap.size, 1, none⟩ = some (.int .u32 (c1.n : Int)) := cell_blk hcb 1
                  have fc := fun i => free_blk hcb i
                  have hz3 : w.heap.size + 1 < w3.heap.size := (Array.getElem?_eq_some_iff.1 TZ3.out).1
                  have x3 := TA5.out.c3
                  have x4 := TA5.out.c4
                  have fz := fun i => free_blk TA5.out i
                  have hl5 : w.heap.size < w5.heap.size := (Array.getElem?_eq_some_iff.1 TA5.out).1
                  have hn5 : w.heap.size ≠ w5.heap.size := by omega
                  clear b5 hb4 TA3 TZ3 TB3 x1 x2 fx hcb
                  cases ok2
                  · go_wp2
                    refine ⟨⟨k + 1, _, by omega, by go_num, Lib.hid H2.out.1, Lib.hid H2.out.2, Lib.hid ?_, Lib.hid ?_, Lib.hid ?_⟩, by simp [RowKit.intOf]; omega⟩
                    · exact keep1 (by omega) (keep1 (by omega) TA5.out _) _
                    · exact keep1 (by omega) (keep1 (by omega) TZ5.out _) _
                    · exact (TB5.out.setCell (by simp; omega) _).setCell (by simp; omega) _
                  · go_wp2
                    refine ⟨⟨k + 1, _, by omega, by go_num, Lib.hid H2.out.1, Lib.hid H2.out.2, Lib.hid ?_, Lib.hid ?_, Lib.hid ?_⟩, by simp [RowKit.intOf]; omega⟩
                    · exact AttrAt.setBg (keep1 (by omega) (keep1 (by omega) TA5.out _) _) c2
                    · exact keep1 (by omega) (keep1 (by omega) (keep1 (by omega) (keep1 (by omega) TZ5.out _) _) _) _
                    · exact (((TB5.out.setCell (by simp; omega) _).setCell (by simp; omega) _).setCell (by simp) _).setCell (by simp) _
                · go_wp2_with fail
                  refine (HS2.out _).mono ?_
                  rintro e w5 ⟨rfl, b5⟩
                  have hb4 := ((set2 TB3.out 1 2 (.int .u8 (c1.kind : Int)) (.int .u32 (c1.n : Int)))).alloc ((set2 TB3.out 1 2 (.int .u8 (c1.kind : Int)) (.int .u32 (c1.n : Int)))).size (.cells #[.int .u8 (c1.kind : Int), .int .u32 (c1.n : Int)] 25)
                  have TA5 := Lib.hid (AttrAt.below (AttrAt.below (TA3.out.setFg c1) ((Below.refl _ _).alloc (Nat.le_refl _) _)) b5)
                  have TZ5 := Lib.hid (AttrAt.below (AttrAt.below (AttrAt.z2 TZ3.out c1) ((Below.refl _ _).alloc (Nat.le_refl _) _)) b5)
                  have TB5 := Lib.hid (hb4.trans (b5.mono hb4.size))
                  have hcb : w5.heap[w3.heap.size]? = some (.cells #[.int .u8 (c1.kind : Int), .int .u32 (c1.n : Int)] 25 (0, 0)) := (b5.block _ (by simp)).trans (by
                    have := Deep.blk_alloc_new ((w3.setCell ⟨w.heap.size, 1, none⟩ (.int .u8 (c1.kind : Int))).setCell ⟨w.heap.size, 2, none⟩ (.int .u32 (c1.n : Int))) (.cells #[.int .u8 (c1.kind : Int), .int .u32 (c1.n : Int)] 25)
                    simpa using this)
                  have kc0 : w5.cell? ⟨w3.heap.size, 0, none⟩ = some (.int .u8 (c1.kind : Int)) := cell_blk hcb 0
                  have kc1 : w5.cell? ⟨w3.heap.size, 1, none⟩ = some (.int .u32 (c1.n : Int)) := cell_blk hcb 1
                  have fc := fun i => free_blk hcb i
                  have hz3 : w.heap.size + 1 < w3.heap.size := (Array.getElem?_eq_some_iff.1 TZ3.out).1
                  have x3 := TA5.out.c3
                  have x4 := TA5.out.c4
                  have fz := fun i => free_blk TA5.out i
                  have hl5 : w.heap.size < w5.heap.size := (Array.getElem?_eq_some_iff.1 TA5.out).1
                  have hn5 : w.heap.size ≠ w5.heap.size := by omega
                  clear b5 hb4 TA3 TZ3 TB3 x1 x2 fx hcb
                  cases ok2
                  · go_wp2
                    refine ⟨⟨k + 1, _, by omega, by go_num, Lib.hid H2.out.1, Lib.hid H2.out.2, Lib.hid ?_, Lib.hid ?_, Lib.hid ?_⟩, by simp [RowKit.intOf]; omega⟩
                    · exact keep1 (by omega) (keep1 (by omega) TA5.out _) _
                    · exact keep1 (by omega) (keep1 (by omega) TZ5.out _) _
                    · exact (TB5.out.setCell (by simp; omega) _).setCell (by simp; omega) _
                  · go_wp2
                    refine ⟨⟨k + 1, _, by omega, by go_num, Lib.hid H2.out.1, Lib.hid H2.out.2, Lib.hid ?_, Lib.hid ?_, Lib.hid ?_⟩, by simp [RowKit.intOf]; omega⟩
                    · exact AttrAt.setBg (keep1 (by omega) (keep1 (by omega) TA5.out _) _) c2
                    · exact keep1 (by omega) (keep1 (by omega) (keep1 (by omega) (keep1 (by omega) TZ5.out _) _) _) _
                    · exact (((TB5.out.setCell (by simp; omega) _).setCell (by simp; omega) _).setCell (by simp) _).setCell (by simp) _
          · have hfy : firstV p = 4 := by unfold firstV; rw [if_neg (fun h => hp1 h.2.2), hx4]
            have H2 := Lib.hid (H2a hfy)
            have gp1 : (partV p 1 == 0) = false := by simpa using hp1
            generalize partV p 1 = y1 at *
            clear hfy H1 hT2 HL HST H2a H2b hx4 hx0 h38 h48 hs38 hs48 hs0 hcb hbx hp1
            have HBit := Lib.hid fun V => bit_any 4 V
            have hbl := bit_le 4
            obtain ⟨Bi, hBi⟩ : ∃ Bi, Bi = bitV 4 := ⟨_, rfl⟩
            rw [← hBi] at HBit hbl
            obtain ⟨f1, hf1⟩ : ∃ f1, f1 = b.fl ||| Bi := ⟨_, rfl⟩
            have hor : bits .or .u16 (b.fl : Int) (Bi : Int) = ((f1 : Nat) : Int) := by rw [hf1]; exact u16_or_nat _ _ HB.out.1 (by omega)
            have hf1b : f1 < 65536 := by rw [hf1]; exact or_lt 16 HB.out.1 (by omega)
            have HS1 := Lib.hid fun V => short_any 4 (by omega) (by omega) V
            have HU : Hid (upV b 4 = ⟨f1, if (shortV 4).2 = true then (shortV 4).1 else b.fg, if (shortV (-6)).2 = true then (shortV (-6)).1 else b.bg⟩) := Lib.hid (by
              unfold upV flagV
              rw [if_neg (by omega), hf1, hBi]; rfl)
            rw [HU.out] at H2
            have HS2 := Lib.hid fun V => short_any (-6) (by omega) (by omega) V
            generalize shortV 4 = s1 at *
            generalize shortV (-6) = s2 at *
            obtain ⟨c1, ok1⟩ := s1
            obtain ⟨c2, ok2⟩ := s2
            unfold coA at HS1 HS2
            dsimp only at HS1 HS2 H2
            clear hf1 hBi HU
            have d0 : wr.drew.cell? ⟨w.heap.size, 0, none⟩ = some (.int .u16 b.fl) := HAT.out.c0
            have fd : wr.drew.frozen? ⟨w.heap.size, 0, none⟩ = false := free_blk HAT.out 0
            go_wp2_with fail
            refine (HP.out _ HBW.out).mono ?_
            rintro e w' ⟨rfl, rfl⟩
            go_wp2_with fail
            go_region_law (go_simp; go_at_call 25; refine (HBit.out _).mono ?_; rintro e w1 ⟨rfl, rfl⟩)
            all_goals
              obtain ⟨W1, hW1⟩ : ∃ W1, W1 = (wr.setCell ⟨w.heap.size, 0, none⟩ (.int .u16 (f1 : Int))).drew := ⟨_, rfl⟩
              have TA : AttrAt W1 w.heap.size ⟨f1, b.fg, b.bg⟩ := by rw [hW1]; exact HAT.out.setFl f1
              have TZ : AttrAt W1 (w.heap.size + 1) zeroA := by rw [hW1]; exact keep1 (by omega) HZ.out _
              have TB : Below w.heap.size w W1 := by rw [hW1]; exact below_drew (HBW.out.setCell (by simp) _) 1
              rw [← hW1]
              have TA1 := Lib.hid TA
              have TZ1 := Lib.hid TZ
              have TB1 := Lib.hid TB
              have v0 := TA.c0
              clear hW1 TA TZ TB a0 a1 a2 a3 a4 fr hrw d0 fd
              go_wp2_with fail
              refine (HS1.out _).mono ?_
              rintro e w3 ⟨rfl, b3⟩
              have TA3 := Lib.hid (TA1.out.below b3)
              have TZ3 := Lib.hid (TZ1.out.below b3)
              have TB3 := Lib.hid (TB1.out.trans (b3.mono TB1.out.size))
              have x1 := TA3.out.c1
              have x2 := TA3.out.c2
              have fx := fun i => free_blk TA3.out i
              have hl3 : w.heap.size < w3.heap.size := (Array.getElem?_eq_some_iff.1 TA3.out).1
              have hn3 : w.heap.size ≠ w3.heap.size := by omega
              clear b3 TA1 TZ1 TB1 v0
              cases ok1
              · go_wp2_with fail
                refine (HS2.out _).mono ?_
                rintro e w5 ⟨rfl, b5⟩
                have hb4 := (TB3.out).alloc (TB3.out).size (.cells #[.int .u8 (c1.kind : Int), .int .u32 (c1.n : Int)] 25)
                have TA5 := Lib.hid (AttrAt.below (AttrAt.below TA3.out ((Below.refl _ _).alloc (Nat.le_refl _) _)) b5)
                have TZ5 := Lib.hid (AttrAt.below (AttrAt.below TZ3.out ((Below.refl _ _).alloc (Nat.le_refl _) _)) b5)
                have TB5 := Lib.hid (hb4.trans (b5.mono hb4.size))
                have hcb : w5.heap[w3.heap.size]? = some (.cells #[.int .u8 (c1.kind : Int), .int .u32 (c1.n : Int)] 25 (0, 0)) := (b5.block _ (by simp)).trans (by
                  have := Deep.blk_alloc_new w3 (.cells #[.int .u8 (c1.kind : Int), .int .u32 (c1.n : Int)] 25)
                  simpa using this)
                have kc0 : w5.cell? ⟨w3.heap.size, 0, none⟩ = some (.int .u8 (c1.kind : Int)) := cell_blk hcb 0
                have kc1 : w5.cell? ⟨w3.heap.size, 1, none⟩ = some (.int .u32 (c1.n : Int)) := cell_blk hcb 1
                have fc := fun i => free_blk hcb i
                have hz3 : w.heap.size + 1 < w3.heap.size := (Array.getElem?_eq_some_iff.1 TZ3.out).1
                have x3 := TA5.out.c3
                have x4 := TA5.out.c4
                have fz := fun i => free_blk TA5.out i
                have hl5 : w.heap.size < w5.heap.size := (Array.getElem?_eq_some_iff.1 TA5.out).1
                have hn5 : w.heap.size ≠ w5.heap.size := by omega
                clear b5 hb4 TA3 TZ3 TB3 x1 x2 fx hcb
                cases ok2
                · go_wp2
                  refine ⟨⟨k + 1, _, by omega, by go_num, Lib.hid H2.out.1, Lib.hid H2.out.2, Lib.hid ?_, Lib.hid ?_, Lib.hid ?_⟩, by simp [RowKit.intOf]; omega⟩
                  · exact keep1 (by omega) (keep1 (by omega) TA5.out _) _
                  · exact keep1 (by omega) (keep1 (by omega) TZ5.out _) _
                  · exact (TB5.out.setCell (by simp; omega) _).setCell (by simp; omega) _
                · go_wp2
                  refine ⟨⟨k + 1, _, by omega, by go_num, Lib.hid H2.out.1, Lib.hid H2.out.2, Lib.hid ?_, Lib.hid ?_, Lib.hid ?_⟩, by simp [RowKit.intOf]; omega⟩
                  · exact AttrAt.setBg (keep1 (by omega) (keep1 (by omega) TA5.out _) _) c2
                  · exact keep1 (by omega) (keep1 (by omega) (keep1 (by omega) (keep1 (by omega) TZ5.out _) _) _) _
                  · exact (((TB5.out.setCell (by simp; omega) _).setCell (by simp; omega) _).setCell (by simp) _).setCell (by simp) _
              · go_wp2_with fail
                refine (HS2.out _).mono ?_
                rintro e w5 ⟨rfl, b5⟩
                have hb4 := ((set2 TB3.out 1 2 (.int .u8 (c1.kind : Int)) (.int .u32 (c1.n : Int)))).alloc ((set2 TB3.out 1 2 (.int .u8 (c1.kind : Int)) (.int .u32 (c1.n : Int)))).size (.cells #[.int .u8 (c1.kind : Int), .int .u32 (c1.n : Int)] 25)
                have TA5 := Lib.hid (AttrAt.below (AttrAt.below (TA3.out.setFg c1) ((Below.refl _ _).alloc (Nat.le_refl _) _)) b5)
                have TZ5 := Lib.hid (AttrAt.below (AttrAt.below (AttrAt.z2 TZ3.out c1) ((Below.refl _ _).alloc (Nat.le_refl _) _)) b5)
                have TB5 := Lib.hid (hb4.trans (b5.mono hb4.size))
                have hcb : w5.heap[w3.heap.size]? = some (.cells #[.int .u8 (c1.kind : Int), .int .u32 (c1.n : Int)] 25 (0, 0)) := (b5.block _ (by simp)).trans (by
                  have := Deep.blk_alloc_new ((w3.setCell ⟨w.heap.size, 1, none⟩ (.int .u8 (c1.kind : Int))).setCell ⟨w.heap.size, 2, none⟩ (.int .u32 (c1.n : Int))) (.cells #[.int .u8 (c1.kind : Int), .int .u32 (c1.n : Int)] 25)
                  simpa using this)
                have kc0 : w5.cell? ⟨w3.heap.size, 0, none⟩ = some (.int .u8 (c1.kind : Int)) := cell_blk hcb 0
                have kc1 : w5.cell? ⟨w3.heap.size, 1, none⟩ = some (.int .u32 (c1.n : Int)) := cell_blk hcb 1
                have fc := fun i => free_blk hcb i
                have hz3 : w.heap.size + 1 < w3.heap.size := (Array.getElem?_eq_some_iff.1 TZ3.out).1
                have x3 := TA5.out.c3
                have x4 := TA5.out.c4
                have fz := fun i => free_blk TA5.out i
                have hl5 : w.heap.size < w5.heap.size := (Array.getElem?_eq_some_iff.1 TA5.out).1
                have hn5 : w.heap.size ≠ w5.heap.size := by omega
                clear b5 hb4 TA3 TZ3 TB3 x1 x2 fx hcb
                cases ok2
                · go_wp2
                  refine ⟨⟨k + 1, _, by omega, by go_num, Lib.hid H2.out.1, Lib.hid H2.out.2, Lib.hid ?_, Lib.hid ?_, Lib.hid ?_⟩, by simp [RowKit.intOf]; omega⟩
                  · exact keep1 (by omega) (keep1 (by omega) TA5.out _) _
                  · exact keep1 (by omega) (keep1 (by omega) TZ5.out _) _
                  · exact (TB5.out.setCell (by simp; omega) _).setCell (by simp; omega) _
                · go_wp2
                  refine ⟨⟨k + 1, _, by omega, by go_num, Lib.hid H2.out.1, Lib.hid H2.out.2, Lib.hid ?_, Lib.hid ?_, Lib.hid ?_⟩, by simp [RowKit.intOf]; omega⟩
                  · exact AttrAt.setBg (keep1 (by omega) (keep1 (by omega) TA5.out _) _) c2
                  · exact keep1 (by omega) (keep1 (by omega) (keep1 (by omega) (keep1 (by omega) TZ5.out _) _) _) _
                  · exact (((TB5.out.setCell (by simp; omega) _).setCell (by simp; omega) _).setCell (by simp) _).setCell (by simp) _
        · have hfy : firstV p = 4 := by unfold firstV; rw [if_neg (fun h => hm1 (by rw [HM.out]; exact h.2.1)), hx4]
          have H2 := Lib.hid (H2a hfy)
          have gm : decide ((m : Int) > 1) = false := by simp; omega
          clear hfy H1 hT2 HL HST H2a H2b hx4 hx0 h38 h48 hs38 hs48 hs0 hbx
          have HBit := Lib.hid fun V => bit_any 4 V
          have hbl := bit_le 4
          obtain ⟨Bi, hBi⟩ : ∃ Bi, Bi = bitV 4 := ⟨_, rfl⟩
          rw [← hBi] at HBit hbl
          obtain ⟨f1, hf1⟩ : ∃ f1, f1 = b.fl ||| Bi := ⟨_, rfl⟩
          have hor : bits .or .u16 (b.fl : Int) (Bi : Int) = ((f1 : Nat) : Int) := by rw [hf1]; exact u16_or_nat _ _ HB.out.1 (by omega)
          have hf1b : f1 < 65536 := by rw [hf1]; exact or_lt 16 HB.out.1 (by omega)
          have HS1 := Lib.hid fun V => short_any 4 (by omega) (by omega) V
          have HU : Hid (upV b 4 = ⟨f1, if (shortV 4).2 = true then (shortV 4).1 else b.fg, if (shortV (-6)).2 = true then (shortV (-6)).1 else b.bg⟩) := Lib.hid (by
            unfold upV flagV
            rw [if_neg (by omega), hf1, hBi]; rfl)
          rw [HU.out] at H2
          have HS2 := Lib.hid fun V => short_any (-6) (by omega) (by omega) V
          generalize shortV 4 = s1 at *
          generalize shortV (-6) = s2 at *
          obtain ⟨c1, ok1⟩ := s1
          obtain ⟨c2, ok2⟩ := s2
          unfold coA at HS1 HS2
          dsimp only at HS1 HS2 H2
          clear hf1 hBi HU
          have d0 : wr.drew.cell? ⟨w.heap.size, 0, none⟩ = some (.int .u16 b.fl) := HAT.out.c0
          have fd : wr.drew.frozen? ⟨w.heap.size, 0, none⟩ = false := free_blk HAT.out 0
          go_wp2_with fail
          refine (HP.out _ HBW.out).mono ?_
          rintro e w' ⟨rfl, rfl⟩
          go_wp2_with fail
          go_region_law (go_simp; go_at_call 25; refine (HBit.out _).mono ?_; rintro e w1 ⟨rfl, rfl⟩)
          all_goals
            obtain ⟨W1, hW1⟩ : ∃ W1, W1 = (wr.setCell ⟨w.heap.size, 0, none⟩ (.int .u16 (f1 : Int))).drew := ⟨_, rfl⟩
            have TA : AttrAt W1 w.heap.size ⟨f1, b.fg, b.bg⟩ := by rw [hW1]; exact HAT.out.setFl f1
            have TZ : AttrAt W1 (w.heap.size + 1) zeroA := by rw [hW1]; exact keep1 (by omega) HZ.out _
            have TB : Below w.heap.size w W1 := by rw [hW1]; exact below_drew (HBW.out.setCell (by simp) _) 1
            rw [← hW1]
            have TA1 := Lib.hid TA
            have TZ1 := Lib.hid TZ
            have TB1 := Lib.hid TB
            have v0 := TA.c0
            clear hW1 TA TZ TB a0 a1 a2 a3 a4 fr hrw d0 fd
            go_wp2_with fail
            refine (HS1.out _).mono ?_
            rintro e w3 ⟨rfl, b3⟩
            have TA3 := Lib.hid (TA1.out.below b3)
            have TZ3 := Lib.hid (TZ1.out.below b3)
            have TB3 := Lib.hid (TB1.out.trans (b3.mono TB1.out.size))
            have x1 := TA3.out.c1
            have x2 := TA3.out.c2
            have fx := fun i => free_blk TA3.out i
            have hl3 : w.heap.size < w3.heap.size := (Array.getElem?_eq_some_iff.1 TA3.out).1
            have hn3 : w.heap.size ≠ w3.heap.size := by omega
            clear b3 TA1 TZ1 TB1 v0
            cases ok1
            · go_wp2_with fail
              refine (HS2.out _).mono ?_
              rintro e w5 ⟨rfl, b5⟩
              have hb4 := (TB3.out).alloc (TB3.out).size (.cells #[.int .u8 (c1.kind : Int), .int .u32 (c1.n : Int)] 25)
              have TA5 := Lib.hid (AttrAt.below (AttrAt.below TA3.out ((Below.refl _ _).alloc (Nat.le_refl _) _)) b5)
              have TZ5 := Lib.hid (AttrAt.below (AttrAt.below TZ3.out ((Below.refl _ _).alloc (Nat.le_refl _) _)) b5)
              have TB5 := Lib.hid (hb4.trans (b5.mono hb4.size))
              have hcb : w5.heap[w3.heap.size]? = some (.cells #[.int .u8 (c1.kind : Int), .int .u32 (c1.n : Int)] 25 (0, 0)) := (b5.block _ (by simp)).trans (by
                have := Deep.blk_alloc_new w3 (.cells #[.int .u8 (c1.kind : Int), .int .u32 (c1.n : Int)] 25)
                simpa using this)
              have kc0 : w5.cell? ⟨w3.heap.size, 0, none⟩ = some (.int .u8 (c1.kind : Int)) := cell_blk hcb 0
              have kc1 : w5.cell? ⟨w3.heap.size, 1, none⟩ = some (.int .u32 (c1.n : Int)) := cell_blk hcb 1
              have fc := fun i => free_blk hcb i
              have hz3 : w.heap.size + 1 < w3.heap.size := (Array.getElem?_eq_some_iff.1 TZ3.out).1
              have x3 := TA5.out.c3
              have x4 := TA5.out.c4
              have fz := fun i => free_blk TA5.out i
              have hl5 : w.heap.size < w5.heap.size := (Array.getElem?_eq_some_iff.1 TA5.out).1
              have hn5 : w.heap.size ≠ w5.heap.size := by omega
              clear b5 hb4 TA3 TZ3 TB3 x1 x2 fx hcb
              cases ok2
              · go_wp2
                refine ⟨⟨k + 1, _, by omega, by go_num, Lib.hid H2.out.1, Lib.hid H2.out.2, Lib.hid ?_, Lib.hid ?_, Lib.hid ?_⟩, by simp [RowKit.intOf]; omega⟩
                · exact keep1 (by omega) (keep1 (by omega) TA5.out _) _
                · exact keep1 (by omega) (keep1 (by omega) TZ5.out _) _
                · exact (TB5.out.setCell (by simp; omega) _).setCell (by simp; omega) _
              · go_wp2
                refine ⟨⟨k + 1, _, by omega, by go_num, Lib.hid H2.out.1, Lib.hid H2.out.2, Lib.hid ?_, Lib.hid ?_, Lib.hid ?_⟩, by simp [RowKit.intOf]; omega⟩
                · exact AttrAt.setBg (keep1 (by omega) (keep1 (by omega) TA5.out _) _) c2
                · exact keep1 (by omega) (keep1 (by omega) (keep1 (by omega) (keep1 (by omega) TZ5.out _) _) _) _
                · exact (((TB5.out.setCell (by simp; omega) _).setCell (by simp; omega) _).setCell (by simp) _).setCell (by simp) _
            · go_wp2_with fail
              refine (HS2.out _).mono ?_
              rintro e w5 ⟨rfl, b5⟩
              have hb4 := ((set2 TB3.out 1 2 (.int .u8 (c1.kind : Int)) (.int .u32 (c1.n : Int)))).alloc ((set2 TB3.out 1 2 (.int .u8 (c1.kind : Int)) (.int .u32 (c1.n : Int)))).size (.cells #[.int .u8 (c1.kind : Int), .int .u32 (c1.n : Int)] 25)
              have TA5 := Lib.hid (AttrAt.below (AttrAt.below (TA3.out.setFg c1) ((Below.refl _ _).alloc (Nat.le_refl _) _)) b5)
              have TZ5 := Lib.hid (AttrAt.below (AttrAt.below (AttrAt.z2 TZ3.out c1) ((Below.refl _ _).alloc (Nat.le_refl _) _)) b5)
              have TB5 := Lib.hid (hb4.trans (b5.mono hb4.size))
              have hcb : w5.heap[w3.heap.size]? = some (.cells #[.int .u8 (c1.kind : Int), .int .u32 (c1.n : Int)] 25 (0, 0)) := (b5.block _ (by simp)).trans (by
                have := Deep.blk_alloc_new ((w3.setCell ⟨w.heap.size, 1, none⟩ (.int .u8 (c1.kind : Int))).setCell ⟨w.heap.size, 2, none⟩ (.int .u32 (c1.n : Int))) (.cells #[.int .u8 (c1.kind : Int), .int .u32 (c1.n : Int)] 25)
                simpa using this)
              have kc0 : w5.cell? ⟨w3.heap.size, 0, none⟩ = some (.int .u8 (c1.kind : Int)) := cell_blk hcb 0
              have kc1 : w5.cell? ⟨w3.heap.size, 1, none⟩ = some (.int .u32 (c1.n : Int)) := cell_blk hcb 1
              have fc := fun i => free_blk hcb i
              have hz3 : w.heap.size + 1 < w3.heap.size := (Array.getElem?_eq_some_iff.1 TZ3.out).1
              have x3 := TA5.out.c3
              have x4 := TA5.out.c4
              have fz := fun i => free_blk TA5.out i
              have hl5 : w.heap.size < w5.heap.size := (Array.getElem?_eq_some_iff.1 TA5.out).1
              have hn5 : w.heap.size ≠ w5.heap.size := by omega
              clear b5 hb4 TA3 TZ3 TB3 x1 x2 fx hcb
              cases ok2
              · go_wp2
                refine ⟨⟨k + 1, _, by omega, by go_num, Lib.hid H2.out.1, Lib.hid H2.out.2, Lib.hid ?_, Lib.hid ?_, Lib.hid ?_⟩, by simp [RowKit.intOf]; omega⟩
                · exact keep1 (by omega) (keep1 (by omega) TA5.out _) _
                · exact keep1 (by omega) (keep1 (by omega) TZ5.out _) _
                · exact (TB5.out.setCell (by simp; omega) _).setCell (by simp; omega) _
              · go_wp2
                refine ⟨⟨k + 1, _, by omega, by go_num, Lib.hid H2.out.1, Lib.hid H2.out.2, Lib.hid ?_, Lib.hid ?_, Lib.hid ?_⟩, by simp [RowKit.intOf]; omega⟩
                · exact AttrAt.setBg (keep1 (by omega) (keep1 (by omega) TA5.out _) _) c2
                · exact keep1 (by omega) (keep1 (by omega) (keep1 (by omega) (keep1 (by omega) TZ5.out _) _) _) _
                · exact (((TB5.out.setCell (by simp; omega) _).setCell (by simp; omega) _).setCell (by simp) _).setCell (by simp) _
      have hs4 : (partV p 0 == 4) = false := by simpa using hx4
      have hfy : firstV p = partV p 0 := by unfold firstV; rw [if_neg (fun h => hx4 h.1)]
      have H2 := Lib.hid (H1.out hx0)
      rw [hfy] at H2
      clear hfy H1 hT2 HL HST
      by_cases hx22 : partV p 0 = 22
      · rw [hx22] at H2 HP
        clear hx22 hx4 hx0 h38 h48 hs38 hs48 hs0 hs4 hbx
        have HBit := Lib.hid fun V => bit_any 22 V
        have hbl := bit_le 22
        obtain ⟨Bi, hBi⟩ : ∃ Bi, Bi = bitV 22 := ⟨_, rfl⟩
        rw [← hBi] at HBit hbl
        obtain ⟨f1, hf1⟩ : ∃ f1, f1 = b.fl ||| Bi := ⟨_, rfl⟩
        have hor : bits .or .u16 (b.fl : Int) (Bi : Int) = ((f1 : Nat) : Int) := by rw [hf1]; exact u16_or_nat _ _ HB.out.1 (by omega)
        have hf1b : f1 < 65536 := by rw [hf1]; exact or_lt 16 HB.out.1 (by omega)
        have HS1 := Lib.hid fun V => short_any 22 (by omega) (by omega) V
        obtain ⟨f2, hf2⟩ : ∃ f2, f2 = f1 &&& 65534 := ⟨_, rfl⟩
        have hn1 : bits .andNot .u16 (f1 : Int) 1 = ((f2 : Nat) : Int) := by rw [hf2]; simpa using u16_andNot_nat f1 1 hf1b (by decide)
        have hf2b : f2 < 65536 := by rw [hf2]; exact Nat.lt_of_le_of_lt Nat.and_le_left hf1b
        have HBit2 := Lib.hid fun V => bit_any 2 V
        have hbl2 := bit_le 2
        obtain ⟨B2, hB2⟩ : ∃ B2, B2 = bitV 2 := ⟨_, rfl⟩
        rw [← hB2] at HBit2 hbl2
        obtain ⟨f3, hf3⟩ : ∃ f3, f3 = f2 &&& (65535 - B2) := ⟨_, rfl⟩
        have hn2 : bits .andNot .u16 (f2 : Int) (B2 : Int) = ((f3 : Nat) : Int) := by rw [hf3]; exact u16_andNot_nat _ _ hf2b (by omega)
        have HU : Hid (upV b 22 = ⟨f3, if (shortV 22).2 = true then (shortV 22).1 else b.fg, if (shortV (12)).2 = true then (shortV (12)).1 else b.bg⟩) := Lib.hid (by
          unfold upV flagV
          rw [if_pos (by omega), if_pos rfl, hf3, hB2, hf2, hf1, hBi]; rfl)
        rw [HU.out] at H2
        have HS2 := Lib.hid fun V => short_any (12) (by omega) (by omega) V
        generalize shortV 22 = s1 at *
        generalize shortV (12) = s2 at *
        obtain ⟨c1, ok1⟩ := s1
        obtain ⟨c2, ok2⟩ := s2
        unfold coA at HS1 HS2
        dsimp only at HS1 HS2 H2
        clear hf1 hBi HU hf3 hB2 hf2
        have d0 : wr.drew.cell? ⟨w.heap.size, 0, none⟩ = some (.int .u16 b.fl) := HAT.out.c0
        have fd : wr.drew.frozen? ⟨w.heap.size, 0, none⟩ = false := free_blk HAT.out 0
        go_wp2_with fail
        refine (HP.out _ HBW.out).mono ?_
        rintro e w' ⟨rfl, rfl⟩
        go_wp2_with fail
        go_region_law (go_simp; go_at_call 25; refine (HBit.out _).mono ?_; rintro e w1 ⟨rfl, rfl⟩)
        all_goals
          obtain ⟨W1, hW1⟩ : ∃ W1, W1 = (wr.setCell ⟨w.heap.size, 0, none⟩ (.int .u16 (f1 : Int))).drew := ⟨_, rfl⟩
          have TA : AttrAt W1 w.heap.size ⟨f1, b.fg, b.bg⟩ := by rw [hW1]; exact HAT.out.setFl f1
          have TZ : AttrAt W1 (w.heap.size + 1) zeroA := by rw [hW1]; exact keep1 (by omega) HZ.out _
          have TB : Below w.heap.size w W1 := by rw [hW1]; exact below_drew (HBW.out.setCell (by simp) _) 1
          rw [← hW1]
          have TA1 := Lib.hid TA
          have TZ1 := Lib.hid TZ
          have TB1 := Lib.hid TB
          have v0 := TA.c0
          clear hW1 TA TZ TB a0 a1 a2 a3 a4 fr hrw d0 fd
          have fv := fun i => free_blk TA1.out i
          have fvd := fun i => (free_blk TA1.out i : W1.drew.frozen? _ = false)
          have vd : (W1.setCell ⟨w.heap.size, 0, none⟩ (.int .u16 (f2 : Int))).drew.cell? ⟨w.heap.size, 0, none⟩ = some (.int .u16 (f2 : Int)) := (TA1.out.setFl f2).c0
          have vf : (W1.setCell ⟨w.heap.size, 0, none⟩ (.int .u16 (f2 : Int))).drew.frozen? ⟨w.heap.size, 0, none⟩ = false := free_blk (TA1.out.setFl f2) 0
          go_wp2_with fail
          go_region_law (go_simp; go_at_call 25; refine (HBit2.out _).mono ?_; rintro e w1 ⟨rfl, rfl⟩)
          all_goals
            obtain ⟨W2, hW2⟩ : ∃ W2, W2 = ((W1.setCell ⟨w.heap.size, 0, none⟩ (.int .u16 (f2 : Int))).setCell ⟨w.heap.size, 0, none⟩ (.int .u16 (f3 : Int))).drew := ⟨_, rfl⟩
            have TA : AttrAt W2 w.heap.size ⟨f3, b.fg, b.bg⟩ := by rw [hW2]; exact (TA1.out.setFl f2).setFl f3
            have TZ : AttrAt W2 (w.heap.size + 1) zeroA := by rw [hW2]; exact keep1 (by omega) (keep1 (by omega) TZ1.out _) _
            have TB : Below w.heap.size w W2 := by rw [hW2]; exact below_drew ((TB1.out.setCell (by simp) _).setCell (by simp) _) 1
            first | rw [← hW2] | (trace_state; fail)
            clear TA1 TZ1 TB1 v0
            have TA1 := Lib.hid TA
            have TZ1 := Lib.hid TZ
            have TB1 := Lib.hid TB
            have v0 := TA.c0
            clear hW2 TA TZ TB vd fv fvd vf
            go_wp2_with fail
            refine (HS1.out _).mono ?_
            rintro e w3 ⟨rfl, b3⟩
            have TA3 := Lib.hid (TA1.out.below b3)
            have TZ3 := Lib.hid (TZ1.out.below b3)
            have TB3 := Lib.hid (TB1.out.trans (b3.mono TB1.out.size))
            have x1 := TA3.out.c1
            have x2 := TA3.out.c2
            have fx := fun i => free_blk TA3.out i
            have hl3 : w.heap.size < w3.heap.size := (Array.getElem?_eq_some_iff.1 TA3.out).1
            have hn3 : w.heap.size ≠ w3.heap.size := by omega
            clear b3 TA1 TZ1 TB1 v0
            cases ok1
            · go_wp2_with fail
              refine (HS2.out _).mono ?_
              rintro e w5 ⟨rfl, b5⟩
              have hb4 := (TB3.out).alloc (TB3.out).size (.cells #[.int .u8 (c1.kind : Int), .int .u32 (c1.n : Int)] 25)
              have TA5 := Lib.hid (AttrAt.below (AttrAt.below TA3.out ((Below.refl _ _).alloc (Nat.le_refl _) _)) b5)
              have TZ5 := Lib.hid (AttrAt.below (AttrAt.below TZ3.out ((Below.refl _ _).alloc (Nat.le_refl _) _)) b5)
              have TB5 := Lib.hid (hb4.trans (b5.mono hb4.size))
              have hcb : w5.heap[w3.heap.size]? = some (.cells #[.int .u8 (c1.kind : Int), .int .u32 (c1.n : Int)] 25 (0, 0)) := (b5.block _ (by simp)).trans (by
                have := Deep.blk_alloc_new w3 (.cells #[.int .u8 (c1.kind : Int), .int .u32 (c1.n : Int)] 25)
                simpa using this)
              have kc0 : w5.cell? ⟨w3.heap.size, 0, none⟩ = some (.int .u8 (c1.kind : Int)) := cell_blk hcb 0
              have kc1 : w5.cell? ⟨w3.heap.size, 1, none⟩ = some (.int .u32 (c1.n : Int)) := cell_blk hcb 1
              have fc := fun i => free_blk hcb i
              have hz3 : w.heap.size + 1 < w3.heap.size := (Array.getElem?_eq_some_iff.1 TZ3.out).1
              have x3 := TA5.out.c3
              have x4 := TA5.out.c4
              have fz := fun i => free_blk TA5.out i
              have hl5 : w.heap.size < w5.heap.size := (Array.getElem?_eq_some_iff.1 TA5.out).1
              have hn5 : w.heap.size ≠ w5.heap.size := by omega
              clear b5 hb4 TA3 TZ3 TB3 x1 x2 fx hcb
              cases ok2
              · go_wp2
                refine ⟨⟨k + 1, _, by omega, by go_num, Lib.hid H2.out.1, Lib.hid H2.out.2, Lib.hid ?_, Lib.hid ?_, Lib.hid ?_⟩, by simp [RowKit.intOf]; omega⟩
                · exact keep1 (by omega) (keep1 (by omega) TA5.out _) _
                · exact keep1 (by omega) (keep1 (by omega) TZ5.out _) _
                · exact (TB5.out.setCell (by simp; omega) _).setCell (by simp; omega) _
              · go_wp2
                refine ⟨⟨k + 1, _, by omega, by go_num, Lib.hid H2.out.1, Lib.hid H2.out.2, Lib.hid ?_, Lib.hid ?_, Lib.hid ?_⟩, by simp [RowKit.intOf]; omega⟩
                · exact AttrAt.setBg (keep1 (by omega) (keep1 (by omega) TA5.out _) _) c2
                · exact keep1 (by omega) (keep1 (by omega) (keep1 (by omega) (keep1 (by omega) TZ5.out _) _) _) _
                · exact (((TB5.out.setCell (by simp; omega) _).setCell (by simp; omega) _).setCell (by simp) _).setCell (by simp) _
            · go_wp2_with fail
              refine (HS2.out _).mono ?_
              rintro e w5 ⟨rfl, b5⟩
              have hb4 := ((set2 TB3.out 1 2 (.int .u8 (c1.kind : Int)) (.int .u32 (c1.n : Int)))).alloc ((set2 TB3.out 1 2 (.int .u8 (c1.kind : Int)) (.int .u32 (c1.n : Int)))).size (.cells #[.int .u8 (c1.kind : Int), .int .u32 (c1.n : Int)] 25)
              have TA5 := Lib.hid (AttrAt.below (AttrAt.below (TA3.out.setFg c1) ((Below.refl _ _).alloc (Nat.le_refl _) _)) b5)
              have TZ5 := Lib.hid (AttrAt.below (AttrAt.below (AttrAt.z2 TZ3.out c1) ((Below.refl _ _).alloc (Nat.le_refl _) _)) b5)
              have TB5 := Lib.hid (hb4.trans (b5.mono hb4.size))
              have hcb : w5.heap[w3.heap.size]? = some (.cells #[.int .u8 (c1.kind : Int), .int .u32 (c1.n : Int)] 25 (0, 0)) := (b5.block _ (by simp)).trans (by
                have := Deep.blk_alloc_new ((w3.setCell ⟨w.heap.size, 1, none⟩ (.int .u8 (c1.kind : Int))).setCell ⟨w.heap.size, 2, none⟩ (.int .u32 (c1.n : Int))) (.cells #[.int .u8 (c1.kind : Int), .int .u32 (c1.n : Int)] 25)
                simpa using this)
              have kc0 : w5.cell? ⟨w3.heap.size, 0, none⟩ = some (.int .u8 (c1.kind : Int)) := cell_blk hcb 0
              have kc1 : w5.cell? ⟨w3.heap.size, 1, none⟩ = some (.int .u32 (c1.n : Int)) := cell_blk hcb 1
              have fc := fun i => free_blk hcb i
              have hz3 : w.heap.size + 1 < w3.heap.size := (Array.getElem?_eq_some_iff.1 TZ3.out).1
              have x3 := TA5.out.c3
              have x4 := TA5.out.c4
              have fz := fun i => free_blk TA5.out i
              have hl5 : w.heap.size < w5.heap.size := (Array.getElem?_eq_some_iff.1 TA5.out).1
              have hn5 : w.heap.size ≠ w5.heap.size := by omega
              clear b5 hb4 TA3 TZ3 TB3 x1 x2 fx hcb
              cases ok2
              · go_wp2
                refine ⟨⟨k + 1, _, by omega, by go_num, Lib.hid H2.out.1, Lib.hid H2.out.2, Lib.hid ?_, Lib.hid ?_, Lib.hid ?_⟩, by simp [RowKit.intOf]; omega⟩
                · exact keep1 (by omega) (keep1 (by omega) TA5.out _) _
                · exact keep1 (by omega) (keep1 (by omega) TZ5.out _) _
                · exact (TB5.out.setCell (by simp; omega) _).setCell (by simp; omega) _
              · go_wp2
                refine ⟨⟨k + 1, _, by omega, by go_num, Lib.hid H2.out.1, Lib.hid H2.out.2, Lib.hid ?_, Lib.hid ?_, Lib.hid ?_⟩, by simp [RowKit.intOf]; omega⟩
                · exact AttrAt.setBg (keep1 (by omega) (keep1 (by omega) TA5.out _) _) c2
                · exact keep1 (by omega) (keep1 (by omega) (keep1 (by omega) (keep1 (by omega) TZ5.out _) _) _) _
                · exact (((TB5.out.setCell (by simp; omega) _).setCell (by simp; omega) _).setCell (by simp) _).setCell (by simp) _
      generalize partV p 0 = x at *
      clear h38 h48 hx0 hx4
      by_cases h22 : 21 < x ∧ x < 30
      · have hx22' := hx22
        clear hx22'
        have HBit := Lib.hid fun V => bit_any x V
        have hbl := bit_le x
        obtain ⟨Bi, hBi⟩ : ∃ Bi, Bi = bitV x := ⟨_, rfl⟩
        rw [← hBi] at HBit hbl
        obtain ⟨f1, hf1⟩ : ∃ f1, f1 = b.fl ||| Bi := ⟨_, rfl⟩
        have hor : bits .or .u16 (b.fl : Int) (Bi : Int) = ((f1 : Nat) : Int) := by rw [hf1]; exact u16_or_nat _ _ HB.out.1 (by omega)
        have hf1b : f1 < 65536 := by rw [hf1]; exact or_lt 16 HB.out.1 (by omega)
        have HS1 := Lib.hid fun V => short_any x (by omega) (by omega) V
        have HBit2 := Lib.hid fun V => bit_any (x - 20) V
        have hbl2 := bit_le (x - 20)
        obtain ⟨B2, hB2⟩ : ∃ B2, B2 = bitV (x - 20) := ⟨_, rfl⟩
        rw [← hB2] at HBit2 hbl2
        obtain ⟨f3, hf3⟩ : ∃ f3, f3 = f1 &&& (65535 - B2) := ⟨_, rfl⟩
        have hn2 : bits .andNot .u16 (f1 : Int) (B2 : Int) = ((f3 : Nat) : Int) := by rw [hf3]; exact u16_andNot_nat _ _ hf1b (by omega)
        have HU : Hid (upV b x = ⟨f3, if (shortV x).2 = true then (shortV x).1 else b.fg, if (shortV (x - 10)).2 = true then (shortV (x - 10)).1 else b.bg⟩) := Lib.hid (by
          unfold upV flagV
          rw [if_pos (by omega), if_neg (by omega), hf3, hB2, hf1, hBi])
        rw [HU.out] at H2
        have HS2 := Lib.hid fun V => short_any (x - 10) (by omega) (by omega) V
        generalize shortV x = s1 at *
        generalize shortV (x - 10) = s2 at *
        obtain ⟨c1, ok1⟩ := s1
        obtain ⟨c2, ok2⟩ := s2
        unfold coA at HS1 HS2
        dsimp only at HS1 HS2 H2
        have g22 : (x == 22) = false := by simp; omega
        have hg1 : decide (x > 21) = true := by simp; omega
        have hg2 : decide (x < 30) = true := by simp; omega
        have hx1 := h22.1
        have hx2 := h22.2
        have hw20 : wrap64 (x - 20) = x - 20 := by unfold wrap64; omega
        have hw21 : IntKind.i64.wrap (x - 20) = x - 20 := IntWalk.i64_in _ (by omega)
        clear hf1 hBi HU hf3 hB2 h22
        have d0 : wr.drew.cell? ⟨w.heap.size, 0, none⟩ = some (.int .u16 b.fl) := HAT.out.c0
        have fd : wr.drew.frozen? ⟨w.heap.size, 0, none⟩ = false := free_blk HAT.out 0
        go_wp2_with fail
        refine (HP.out _ HBW.out).mono ?_
        rintro e w' ⟨rfl, rfl⟩
        go_wp2_with fail
        go_region_law (go_simp; go_at_call 25; refine (HBit.out _).mono ?_; rintro e w1 ⟨rfl, rfl⟩)
        all_goals
          obtain ⟨W1, hW1⟩ : ∃ W1, W1 = (wr.setCell ⟨w.heap.size, 0, none⟩ (.int .u16 (f1 : Int))).drew := ⟨_, rfl⟩
          have TA : AttrAt W1 w.heap.size ⟨f1, b.fg, b.bg⟩ := by rw [hW1]; exact HAT.out.setFl f1
          have TZ : AttrAt W1 (w.heap.size + 1) zeroA := by rw [hW1]; exact keep1 (by omega) HZ.out _
          have TB : Below w.heap.size w W1 := by rw [hW1]; exact below_drew (HBW.out.setCell (by simp) _) 1
          rw [← hW1]
          have TA1 := Lib.hid TA
          have TZ1 := Lib.hid TZ
          have TB1 := Lib.hid TB
          have v0 := TA.c0
          clear hW1 TA TZ TB a0 a1 a2 a3 a4 fr hrw d0 fd
          have fv := fun i => free_blk TA1.out i
          have fvd := fun i => (free_blk TA1.out i : W1.drew.frozen? _ = false)
          have vd : W1.drew.cell? ⟨w.heap.size, 0, none⟩ = some (.int .u16 (f1 : Int)) := TA1.out.c0
          go_wp2_with fail
          go_region_law (go_simp; go_at_call 25; refine (HBit2.out _).mono ?_; rintro e w1 ⟨rfl, rfl⟩)
          all_goals
            obtain ⟨W2, hW2⟩ : ∃ W2, W2 = (W1.setCell ⟨w.heap.size, 0, none⟩ (.int .u16 (f3 : Int))).drew := ⟨_, rfl⟩
            have TA : AttrAt W2 w.heap.size ⟨f3, b.fg, b.bg⟩ := by rw [hW2]; exact TA1.out.setFl f3
            have TZ : AttrAt W2 (w.heap.size + 1) zeroA := by rw [hW2]; exact keep1 (by omega) TZ1.out _
            have TB : Below w.heap.size w W2 := by rw [hW2]; exact below_drew (TB1.out.setCell (by simp) _) 1
            first | rw [← hW2] | (trace_state; fail)
            clear TA1 TZ1 TB1 v0
            have TA1 := Lib.hid TA
            have TZ1 := Lib.hid TZ
            have TB1 := Lib.hid TB
            have v0 := TA.c0
            clear hW2 TA TZ TB vd fv fvd
            go_wp2_with fail
            refine (HS1.out _).mono ?_
            rintro e w3 ⟨rfl, b3⟩
            have TA3 := Lib.hid (TA1.out.below b3)
            have TZ3 := Lib.hid (TZ1.out.below b3)
            have TB3 := Lib.hid (TB1.out.trans (b3.mono TB1.out.size))
            have x1 := TA3.out.c1
            have x2 := TA3.out.c2
            have fx := fun i => free_blk TA3.out i
            have hl3 : w.heap.size < w3.heap.size := (Array.getElem?_eq_some_iff.1 TA3.out).1
            have hn3 : w.heap.size ≠ w3.heap.size := by omega
            clear b3 TA1 TZ1 TB1 v0
            cases ok1
            · go_wp2_with fail
              refine (HS2.out _).mono ?_
              rintro e w5 ⟨rfl, b5⟩
              have hb4 := (TB3.out).alloc (TB3.out).size (.cells #[.int .u8 (c1.kind : Int), .int .u32 (c1.n : Int)] 25)
              have TA5 := Lib.hid (AttrAt.below (AttrAt.below TA3.out ((Below.refl _ _).alloc (Nat.le_refl _) _)) b5)
              have TZ5 := Lib.hid (AttrAt.below (AttrAt.below TZ3.out ((Below.refl _ _).alloc (Nat.le_refl _) _)) b5)
              have TB5 := Lib.hid (hb4.trans (b5.mono hb4.size))
              have hcb : w5.heap[w3.heap.size]? = some (.cells #[.int .u8 (c1.kind : Int), .int .u32 (c1.n : Int)] 25 (0, 0)) := (b5.block _ (by simp)).trans (by
                have := Deep.blk_alloc_new w3 (.cells #[.int .u8 (c1.kind : Int), .int .u32 (c1.n : Int)] 25)
                simpa using this)
              have kc0 : w5.cell? ⟨w3.heap.size, 0, none⟩ = some (.int .u8 (c1.kind : Int)) := cell_blk hcb 0
              have kc1 : w5.cell? ⟨w3.heap.size, 1, none⟩ = some (.int .u32 (c1.n : Int)) := cell_blk hcb 1
              have fc := fun i => free_blk hcb i
              have hz3 : w.heap.size + 1 < w3.heap.size := (Array.getElem?_eq_some_iff.1 TZ3.out).1
              have x3 := TA5.out.c3
              have x4 := TA5.out.c4
              have fz := fun i => free_blk TA5.out i
              have hl5 : w.heap.size < w5.heap.size := (Array.getElem?_eq_some_iff.1 TA5.out).1
              have hn5 : w.heap.size ≠ w5.heap.size := by omega
              clear b5 hb4 TA3 TZ3 TB3 x1 x2 fx hcb
              cases ok2
              · go_wp2
                refine ⟨⟨k + 1, _, by omega, by go_num, Lib.hid H2.out.1, Lib.hid H2.out.2, Lib.hid ?_, Lib.hid ?_, Lib.hid ?_⟩, by simp [RowKit.intOf]; omega⟩
                · exact keep1 (by omega) (keep1 (by omega) TA5.out _) _
                · exact keep1 (by omega) (keep1 (by omega) TZ5.out _) _
                · exact (TB5.out.setCell (by simp; omega) _).setCell (by simp; omega) _
              · go_wp2
                refine ⟨⟨k + 1, _, by omega, by go_num, Lib.hid H2.out.1, Lib.hid H2.out.2, Lib.hid ?_, Lib.hid ?_, Lib.hid ?_⟩, by simp [RowKit.intOf]; omega⟩
                · exact AttrAt.setBg (keep1 (by omega) (keep1 (by omega) TA5.out _) _) c2
                · exact keep1 (by omega) (keep1 (by omega) (keep1 (by omega) (keep1 (by omega) TZ5.out _) _) _) _
                · exact (((TB5.out.setCell (by simp; omega) _).setCell (by simp; omega) _).setCell (by simp) _).setCell (by simp) _
            · go_wp2_with fail
              refine (HS2.out _).mono ?_
              rintro e w5 ⟨rfl, b5⟩
              have hb4 := ((set2 TB3.out 1 2 (.int .u8 (c1.kind : Int)) (.int .u32 (c1.n : Int)))).alloc ((set2 TB3.out 1 2 (.int .u8 (c1.kind : Int)) (.int .u32 (c1.n : Int)))).size (.cells #[.int .u8 (c1.kind : Int), .int .u32 (c1.n : Int)] 25)
              have TA5 := Lib.hid (AttrAt.below (AttrAt.below (TA3.out.setFg c1) ((Below.refl _ _).alloc (Nat.le_refl _) _)) b5)
              have TZ5 := Lib.hid (AttrAt.below (AttrAt.below (AttrAt.z2 TZ3.out c1) ((Below.refl _ _).alloc (Nat.le_refl _) _)) b5)
              have TB5 := Lib.hid (hb4.trans (b5.mono hb4.size))
              have hcb : w5.heap[w3.heap.size]? = some (.cells #[.int .u8 (c1.kind : Int), .int .u32 (c1.n : Int)] 25 (0, 0)) := (b5.block _ (by simp)).trans (by
                have := Deep.blk_alloc_new ((w3.setCell ⟨w.heap.size, 1, none⟩ (.int .u8 (c1.kind : Int))).setCell ⟨w.heap.size, 2, none⟩ (.int .u32 (c1.n : Int))) (.cells #[.int .u8 (c1.kind : Int), .int .u32 (c1.n : Int)] 25)
                simpa using this)
              have kc0 : w5.cell? ⟨w3.heap.size, 0, none⟩ = some (.int .u8 (c1.kind : Int)) := cell_blk hcb 0
              have kc1 : w5.cell? ⟨w3.heap.size, 1, none⟩ = some (.int .u32 (c1.n : Int)) := cell_blk hcb 1
              have fc := fun i => free_blk hcb i
              have hz3 : w.heap.size + 1 < w3.heap.size := (Array.getElem?_eq_some_iff.1 TZ3.out).1
              have x3 := TA5.out.c3
              have x4 := TA5.out.c4
              have fz := fun i => free_blk TA5.out i
              have hl5 : w.heap.size < w5.heap.size := (Array.getElem?_eq_some_iff.1 TA5.out).1
              have hn5 : w.heap.size ≠ w5.heap.size := by omega
              clear b5 hb4 TA3 TZ3 TB3 x1 x2 fx hcb
              cases ok2
              · go_wp2
                refine ⟨⟨k + 1, _, by omega, by go_num, Lib.hid H2.out.1, Lib.hid H2.out.2, Lib.hid ?_, Lib.hid ?_, Lib.hid ?_⟩, by simp [RowKit.intOf]; omega⟩
                · exact keep1 (by omega) (keep1 (by omega) TA5.out _) _
                · exact keep1 (by omega) (keep1 (by omega) TZ5.out _) _
                · exact (TB5.out.setCell (by simp; omega) _).setCell (by simp; omega) _
              · go_wp2
                refine ⟨⟨k + 1, _, by omega, by go_num, Lib.hid H2.out.1, Lib.hid H2.out.2, Lib.hid ?_, Lib.hid ?_, Lib.hid ?_⟩, by simp [RowKit.intOf]; omega⟩
                · exact AttrAt.setBg (keep1 (by omega) (keep1 (by omega) TA5.out _) _) c2
                · exact keep1 (by omega) (keep1 (by omega) (keep1 (by omega) (keep1 (by omega) TZ5.out _) _) _) _
                · exact (((TB5.out.setCell (by simp; omega) _).setCell (by simp; omega) _).setCell (by simp) _).setCell (by simp) _
      · clear hx22
        have HBit := Lib.hid fun V => bit_any x V
        have hbl := bit_le x
        obtain ⟨Bi, hBi⟩ : ∃ Bi, Bi = bitV x := ⟨_, rfl⟩
        rw [← hBi] at HBit hbl
        obtain ⟨f1, hf1⟩ : ∃ f1, f1 = b.fl ||| Bi := ⟨_, rfl⟩
        have hor : bits .or .u16 (b.fl : Int) (Bi : Int) = ((f1 : Nat) : Int) := by rw [hf1]; exact u16_or_nat _ _ HB.out.1 (by omega)
        have hf1b : f1 < 65536 := by rw [hf1]; exact or_lt 16 HB.out.1 (by omega)
        have HS1 := Lib.hid fun V => short_any x (by omega) (by omega) V
        have HU : Hid (upV b x = ⟨f1, if (shortV x).2 = true then (shortV x).1 else b.fg, if (shortV (x - 10)).2 = true then (shortV (x - 10)).1 else b.bg⟩) := Lib.hid (by
          unfold upV flagV
          rw [if_neg (by omega), hf1, hBi])
        rw [HU.out] at H2
        obtain ⟨y2, hw2, hyb, hys⟩ := wrap_low x (by omega) (by omega)
        have HS2 := Lib.hid fun V => short_any y2 hyb.1 hyb.2 V
        rw [hys] at HS2
        generalize shortV x = s1 at *
        generalize shortV (x - 10) = s2 at *
        obtain ⟨c1, ok1⟩ := s1
        obtain ⟨c2, ok2⟩ := s2
        unfold coA at HS1 HS2
        dsimp only at HS1 HS2 H2
        have g22 : (x == 22) = false := by simp; omega
        have hg : decide (x > 21) = true ∧ decide (x < 30) = false ∨ decide (x > 21) = false := by simp; omega
        clear hf1 hBi HU h22
        have d0 : wr.drew.cell? ⟨w.heap.size, 0, none⟩ = some (.int .u16 b.fl) := HAT.out.c0
        have fd : wr.drew.frozen? ⟨w.heap.size, 0, none⟩ = false := free_blk HAT.out 0
        go_wp2_with fail
        refine (HP.out _ HBW.out).mono ?_
        rintro e w' ⟨rfl, rfl⟩
        go_wp2_with fail
        go_region_law (go_simp; go_at_call 25; refine (HBit.out _).mono ?_; rintro e w1 ⟨rfl, rfl⟩)
        all_goals
          obtain ⟨W1, hW1⟩ : ∃ W1, W1 = (wr.setCell ⟨w.heap.size, 0, none⟩ (.int .u16 (f1 : Int))).drew := ⟨_, rfl⟩
          have TA : AttrAt W1 w.heap.size ⟨f1, b.fg, b.bg⟩ := by rw [hW1]; exact HAT.out.setFl f1
          have TZ : AttrAt W1 (w.heap.size + 1) zeroA := by rw [hW1]; exact keep1 (by omega) HZ.out _
          have TB : Below w.heap.size w W1 := by rw [hW1]; exact below_drew (HBW.out.setCell (by simp) _) 1
          rw [← hW1]
          have TA1 := Lib.hid TA
          have TZ1 := Lib.hid TZ
          have TB1 := Lib.hid TB
          have v0 := TA.c0
          clear hW1 TA TZ TB a0 a1 a2 a3 a4 fr hrw d0 fd
          rcases hg with ⟨hg1, hg2⟩ | hg1
          all_goals
            go_wp2_with fail
            refine (HS1.out _).mono ?_
            rintro e w3 ⟨rfl, b3⟩
            have TA3 := Lib.hid (TA1.out.below b3)
            have TZ3 := Lib.hid (TZ1.out.below b3)
            have TB3 := Lib.hid (TB1.out.trans (b3.mono TB1.out.size))
            have x1 := TA3.out.c1
            have x2 := TA3.out.c2
            have fx := fun i => free_blk TA3.out i
            have hl3 : w.heap.size < w3.heap.size := (Array.getElem?_eq_some_iff.1 TA3.out).1
            have hn3 : w.heap.size ≠ w3.heap.size := by omega
            clear b3 TA1 TZ1 TB1 v0
            cases ok1
            · go_wp2_with fail
              refine (HS2.out _).mono ?_
              rintro e w5 ⟨rfl, b5⟩
              have hb4 := (TB3.out).alloc (TB3.out).size (.cells #[.int .u8 (c1.kind : Int), .int .u32 (c1.n : Int)] 25)
              have TA5 := Lib.hid (AttrAt.below (AttrAt.below TA3.out ((Below.refl _ _).alloc (Nat.le_refl _) _)) b5)
              have TZ5 := Lib.hid (AttrAt.below (AttrAt.below TZ3.out ((Below.refl _ _).alloc (Nat.le_refl _) _)) b5)
              have TB5 := Lib.hid (hb4.trans (b5.mono hb4.size))
              have hcb : w5.heap[w3.heap.size]? = some (.cells #[.int .u8 (c1.kind : Int), .int .u32 (c1.n : Int)] 25 (0, 0)) := (b5.block _ (by simp)).trans (by
                have := Deep.blk_alloc_new w3 (.cells #[.int .u8 (c1.kind : Int), .int .u32 (c1.n : Int)] 25)
                simpa using this)
              have kc0 : w5.cell? ⟨w3.heap.size, 0, none⟩ = some (.int .u8 (c1.kind : Int)) := cell_blk hcb 0
              have kc1 : w5.cell? ⟨w3.heap.size, 1, none⟩ = some (.int .u32 (c1.n : Int)) := cell_blk hcb 1
              have fc := fun i => free_blk hcb i
              have hz3 : w.heap.size + 1 < w3.heap.size := (Array.getElem?_eq_some_iff.1 TZ3.out).1
              have x3 := TA5.out.c3
              have x4 := TA5.out.c4
              have fz := fun i => free_blk TA5.out i
              have hl5 : w.heap.size < w5.heap.size := (Array.getElem?_eq_some_iff.1 TA5.out).1
              have hn5 : w.heap.size ≠ w5.heap.size := by omega
              clear b5 hb4 TA3 TZ3 TB3 x1 x2 fx hcb
              cases ok2
              · go_wp2
                refine ⟨⟨k + 1, _, by omega, by go_num, Lib.hid H2.out.1, Lib.hid H2.out.2, Lib.hid ?_, Lib.hid ?_, Lib.hid ?_⟩, by simp [RowKit.intOf]; omega⟩
                · exact keep1 (by omega) (keep1 (by omega) TA5.out _) _
                · exact keep1 (by omega) (keep1 (by omega) TZ5.out _) _
                · exact (TB5.out.setCell (by simp; omega) _).setCell (by simp; omega) _
              · go_wp2
                refine ⟨⟨k + 1, _, by omega, by go_num, Lib.hid H2.out.1, Lib.hid H2.out.2, Lib.hid ?_, Lib.hid ?_, Lib.hid ?_⟩, by simp [RowKit.intOf]; omega⟩
                · exact AttrAt.setBg (keep1 (by omega) (keep1 (by omega) TA5.out _) _) c2
                · exact keep1 (by omega) (keep1 (by omega) (keep1 (by omega) (keep1 (by omega) TZ5.out _) _) _) _
                · exact (((TB5.out.setCell (by simp; omega) _).setCell (by simp; omega) _).setCell (by simp) _).setCell (by simp) _
            · go_wp2_with fail
              refine (HS2.out _).mono ?_
              rintro e w5 ⟨rfl, b5⟩
              have hb4 := ((set2 TB3.out 1 2 (.int .u8 (c1.kind : Int)) (.int .u32 (c1.n : Int)))).alloc ((set2 TB3.out 1 2 (.int .u8 (c1.kind : Int)) (.int .u32 (c1.n : Int)))).size (.cells #[.int .u8 (c1.kind : Int), .int .u32 (c1.n : Int)] 25)
              have TA5 := Lib.hid (AttrAt.below (AttrAt.below (TA3.out.setFg c1) ((Below.refl _ _).alloc (Nat.le_refl _) _)) b5)
              have TZ5 := Lib.hid (AttrAt.below (AttrAt.below (AttrAt.z2 TZ3.out c1) ((Below.refl _ _).alloc (Nat.le_refl _) _)) b5)
              have TB5 := Lib.hid (hb4.trans (b5.mono hb4.size))
              have hcb : w5.heap[w3.heap.size]? = some (.cells #[.int .u8 (c1.kind : Int), .int .u32 (c1.n : Int)] 25 (0, 0)) := (b5.block _ (by simp)).trans (by
                have := Deep.blk_alloc_new ((w3.setCell ⟨w.heap.size, 1, none⟩ (.int .u8 (c1.kind : Int))).setCell ⟨w.heap.size, 2, none⟩ (.int .u32 (c1.n : Int))) (.cells #[.int .u8 (c1.kind : Int), .int .u32 (c1.n : Int)] 25)
                simpa using this)
              have kc0 : w5.cell? ⟨w3.heap.size, 0, none⟩ = some (.int .u8 (c1.kind : Int)) := cell_blk hcb 0
              have kc1 : w5.cell? ⟨w3.heap.size, 1, none⟩ = some (.int .u32 (c1.n : Int)) := cell_blk hcb 1
              have fc := fun i => free_blk hcb i
              have hz3 : w.heap.size + 1 < w3.heap.size := (Array.getElem?_eq_some_iff.1 TZ3.out).1
              have x3 := TA5.out.c3
              have x4 := TA5.out.c4
              have fz := fun i => free_blk TA5.out i
              have hl5 : w.heap.size < w5.heap.size := (Array.getElem?_eq_some_iff.1 TA5.out).1
              have hn5 : w.heap.size ≠ w5.heap.size := by omega
              clear b5 hb4 TA3 TZ3 TB3 x1 x2 fx hcb
              cases ok2
              · go_wp2
                refine ⟨⟨k + 1, _, by omega, by go_num, Lib.hid H2.out.1, Lib.hid H2.out.2, Lib.hid ?_, Lib.hid ?_, Lib.hid ?_⟩, by simp [RowKit.intOf]; omega⟩
                · exact keep1 (by omega) (keep1 (by omega) TA5.out _) _
                · exact keep1 (by omega) (keep1 (by omega) TZ5.out _) _
                · exact (TB5.out.setCell (by simp; omega) _).setCell (by simp; omega) _
              · go_wp2
                refine ⟨⟨k + 1, _, by omega, by go_num, Lib.hid H2.out.1, Lib.hid H2.out.2, Lib.hid ?_, Lib.hid ?_, Lib.hid ?_⟩, by simp [RowKit.intOf]; omega⟩
                · exact AttrAt.setBg (keep1 (by omega) (keep1 (by omega) TA5.out _) _) c2
                · exact keep1 (by omega) (keep1 (by omega) (keep1 (by omega) (keep1 (by omega) TZ5.out _) _) _) _
                · exact (((TB5.out.setCell (by simp; omega) _).setCell (by simp; omega) _).setCell (by simp) _).setCell (by simp) _
    · have hkn2 : k = n := by omega
      have HE : Hid (R = b) := Lib.hid (by
        have := HG.out
        rw [List.drop_eq_nil_of_le (by rw [← Hn.out]; omega)] at this
        exact this)
      have a0 := HAT.out.c0
      have a1 := HAT.out.c1
      have a2 := HAT.out.c2
      have a3 := HAT.out.c3
      have a4 := HAT.out.c4
      have z0 := HZ.out.c0
      have z1 := HZ.out.c1
      have z2 := HZ.out.c2
      have z3 := HZ.out.c3
      have z4 := HZ.out.c4
      have fz := fun i => free_blk HZ.out i
      have gk : decide ((k : Int) < (n : Int)) = false := by simp; omega
      go_wp2
      have Z := HZ.out.all b
      have Z0 := Z.c0
      have Z1 := Z.c1
      have Z2 := Z.c2
      have Z3 := Z.c3
      have Z4 := Z.c4
      refine bodyPost_ret (v := atA b) (by simp [results, Tryd.results13, go_sem, Z0, Z1, Z2, Z3, Z4, atA]) rfl ?_
      exact ⟨by rw [HE.out]; rfl, below5 HBW.out _ (by omega) _ _ _ _ _⟩
theorem rapply_none (a : At) (A : Option Addr) (c : Nat) (w : World) : Calls Tryd.prog 13 #[atA a, .slice A 0 c] w fun e w' => e = .returned (atA zeroA) ∧ Below w.heap.size w w' := by
  have HA : Hid (∀ o o', Below w.heap.size w ((w.alloc o).alloc o')) := Lib.hid fun o o' => ((Below.refl _ _).alloc (Nat.le_refl _) _).alloc (by simp) _
  unfold atA
  go_enter Tryd.func13, Tryd.ntmps13
  go_wp2
  refine bodyPost_ret (v := atA zeroA) (by simp [results, Tryd.results13, go_sem, atA, zeroA, zeroC]) rfl ?_
  exact ⟨rfl, HA.out _ _⟩
theorem rapply_any (a : At) (ha : AtOk a) (l : List (List Int)) (A : Option Addr) (n c : Nat) (w : World) (hT : TabL w A l) (hn : n = l.length) (hl : n ≤ 9223372036854775807) :
    Calls Tryd.prog 13 #[atA a, .slice A n c] w fun e w' => e = .returned (atA (applyV a l)) ∧ Below w.heap.size w w' := by
  by_cases h : l = []
  · subst h
    have hz : n = 0 := hn
    subst hz
    unfold applyV
    rw [if_pos rfl]
    exact rapply_none a A c w
  · unfold applyV
    rw [if_neg h]
    exact rapply_some a ha l A n c w hT hn hl (by rw [hn]; exact List.length_pos_iff.2 h)
end Go.Proofs.YtjmojhohecbipaaDoor.A10
