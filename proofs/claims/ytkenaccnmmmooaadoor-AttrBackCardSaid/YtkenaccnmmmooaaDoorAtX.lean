/- Layer 10: the program's ownValues and extended. -/
import Derived.Test.YtkenaccnmmmooaaDoorAtT
import Derived.Test.YtkenaccnmmmooaaDoorAtAX
import Derived.OwnWalk
set_option linter.unusedVariables false
namespace Go.Proofs.YtkenaccnmmmooaaDoor.A10
open Go.RowKit Sgr

theorem addL_add (a : Addr) (i j : Nat) : (a.add i).add j = a.add (i + j) := by
  unfold Addr.add
  by_cases h : i = 0
  · subst h; simp
  · by_cases h2 : j = 0
    · subst h2; simp [h]
    · simp [h, h2, Nat.add_assoc]
theorem part_drop (p : List Int) (k i : Nat) : partV (p.drop k) i = partV p (k + i) := by
  unfold partV
  rw [List.getD_eq_getElem?_getD, List.getD_eq_getElem?_getD, List.getElem?_drop]
theorem RowL.drop {w : World} {a : Addr} {p : List Int} (h : RowL w (some a) p) (k : Nat) : RowL w (some (a.add k)) (p.drop k) := fun c hc => by
  rw [List.length_drop] at hc
  obtain ⟨a', e, h1, h2⟩ := h (k + c) (by omega)
  obtain rfl := Option.some.inj e
  refine ⟨_, rfl, ?_, ?_⟩
  · rw [addL_add, part_drop]; exact h1
  · rw [part_drop]; exact h2
theorem row_none {w : World} {A : Option Addr} {p : List Int} (h : p.length = 0) : RowL w A p := fun c hc => by omega
/-- The values of a color that has parts of its own. -/
def ownV (p : List Int) : List Int := if partV p 1 = 2 ∧ 5 < p.length then p.drop 3 else p.drop 2
def ValsAre (w : World) (v : Value) (vs : List Int) : Prop := ∃ A k, v = .slice A vs.length k ∧ vs.length ≤ k ∧ k ≤ 9223372036854775807 ∧ RowL w A vs

theorem ValsAre.below {w w' : World} {v : Value} {vs : List Int} (h : ValsAre w v vs) (hb : Below w.heap.size w w') : ValsAre w' v vs := by
  obtain ⟨A, k, e, h1, h2, h3⟩ := h
  exact ⟨A, k, e, h1, h2, h3.below hb⟩

theorem ownValues_any (p : List Int) (a : Addr) (n c : Nat) (w : World) (hR : RowL w (some a) p) (hn : n = p.length) (h1 : 1 < n) (hl : n ≤ c) (hc : c ≤ 9223372036854775807) :
    Calls Tryd.prog 26 #[.slice (some a) n c] w fun e w' => (∃ v, e = .returned v ∧ ValsAre w v (ownV p)) ∧ w = w' := by
  obtain ⟨a', e', hx, _⟩ := hR 1 (by omega)
  obtain rfl := Option.some.inj e'
  rw [add_pos'] at hx
  obtain ⟨x, hx1⟩ : ∃ x, x = partV p 1 := ⟨_, rfl⟩
  rw [← hx1] at hx
  have e2 : (p.drop 2).length = n - 2 := by rw [List.length_drop]; omega
  have e3 : (p.drop 3).length = n - 3 := by rw [List.length_drop]; omega
  by_cases h : x = 2 ∧ 5 < n
  · have HV : Hid (ownV p = p.drop 3) := Lib.hid (by unfold ownV; rw [if_pos ⟨by rw [← hx1]; exact h.1, by omega⟩])
    have HP : Hid (∀ k, n - 3 ≤ k → k ≤ 9223372036854775807 → ValsAre w (.slice (some (a.add 3)) (n - 3) k) (p.drop 3)) := Lib.hid fun k h1 h2 => ⟨_, k, by rw [e3], by omega, h2, hR.drop 3⟩
    rw [HV.out]
    have h5 := h.2
    rw [h.1] at hx
    have g : decide ((n : Int) > 5) = true := by simp; omega
    clear hR hn e2 e3 hx1 h
    go_enter Tryd.func26, Tryd.ntmps26
    go_wp2
    go_ret
    exact ⟨⟨_, rfl, HP.out (c - 3) (by omega) (by omega)⟩, rfl⟩
  · have HV : Hid (ownV p = p.drop 2) := Lib.hid (by unfold ownV; rw [if_neg (by rw [← hx1, ← hn]; exact h)])
    have HP : Hid (∀ A k, (A = some (a.add 2) ∨ n - 2 = 0) → n - 2 ≤ k → k ≤ 9223372036854775807 → ValsAre w (.slice A (n - 2) k) (p.drop 2)) := Lib.hid fun A k h0 h1 h2 => ⟨A, k, by rw [e2], by omega, h2, by
      rcases h0 with rfl | h0
      · exact hR.drop 2
      · exact row_none (by omega)⟩
    rw [HV.out]
    have g : (x == 2) = true ∧ decide ((n : Int) > 5) = false ∨ (x == 2) = false := by
      by_cases h2 : x = 2
      · exact Or.inl ⟨by simpa using h2, by simp; omega⟩
      · exact Or.inr (by simpa using h2)
    clear hR hn e2 e3 hx1 h
    rcases g with ⟨g1, g2⟩ | g1
    · obtain rfl : x = 2 := by simpa using g1
      go_enter Tryd.func26, Tryd.ntmps26
      go_wp2
      all_goals
        go_ret
        exact ⟨⟨_, rfl, HP.out _ _ (by first | exact Or.inl rfl | (right; omega)) (by omega) (by omega)⟩, rfl⟩
    · go_enter Tryd.func26, Tryd.ntmps26
      go_wp2
      all_goals
        go_ret
        exact ⟨⟨_, rfl, HP.out _ _ (by first | exact Or.inl rfl | (right; omega)) (by omega) (by omega)⟩, rfl⟩

theorem own_told (c : Co) (p : List Int) (h : 1 < p.length) : toldV c (partV p 1) (ownV p) = (if (partsV p).2.2 = true then (partsV p).1 else c) := by
  by_cases h5 : partV p 1 = 5
  · have e : ownV p = p.drop 2 := by unfold ownV; rw [if_neg (by omega)]
    rw [e]
    unfold toldV
    rw [if_pos h5, part_drop, List.length_drop]
    by_cases hf : 2 < p.length ∧ fitsB (partV p 2) = true
    · have hv : partsV p = (tabV (partV p 2), 0, true) := by unfold partsV; rw [if_pos ⟨h5, hf.1, hf.2⟩]
      rw [if_pos ⟨by omega, hf.2⟩, hv]; rfl
    · have hv : partsV p = (zeroC, 0, false) := by unfold partsV; rw [if_neg (fun hh => hf ⟨hh.2.1, hh.2.2⟩), if_neg (by omega)]
      rw [if_neg (fun hh => hf ⟨by omega, hh.2⟩), hv]; rfl
  by_cases h2 : partV p 1 = 2
  · by_cases hl : 5 < p.length
    · have e : ownV p = p.drop 3 := by unfold ownV; rw [if_pos ⟨h2, hl⟩]
      rw [e]
      unfold toldV
      rw [if_neg h5, if_pos h2, part_drop, part_drop, part_drop, List.length_drop]
      by_cases hf : fitsB (partV p 3) = true ∧ fitsB (partV p 4) = true ∧ fitsB (partV p 5) = true
      · have hv : partsV p = (rgbV (partV p 3) (partV p 4) (partV p 5), 0, true) := by unfold partsV; rw [if_neg (fun hh => h5 hh.1), if_pos hl, if_pos ⟨h2, by omega, hf⟩]
        rw [if_pos ⟨by omega, hf⟩, hv]; rfl
      · have hv : partsV p = (zeroC, 0, false) := by unfold partsV; rw [if_neg (fun hh => h5 hh.1), if_pos hl, if_neg (fun hh => hf hh.2.2)]
        rw [if_neg (fun hh => hf hh.2), hv]; rfl
    · have e : ownV p = p.drop 2 := by unfold ownV; rw [if_neg (by omega)]
      rw [e]
      unfold toldV
      rw [if_neg h5, if_pos h2, part_drop, part_drop, part_drop, List.length_drop]
      by_cases hf : 4 < p.length ∧ fitsB (partV p 2) = true ∧ fitsB (partV p 3) = true ∧ fitsB (partV p 4) = true
      · have hv : partsV p = (rgbV (partV p 2) (partV p 3) (partV p 4), 0, true) := by unfold partsV; rw [if_neg (fun hh => h5 hh.1), if_neg hl, if_pos ⟨h2, hf⟩]
        rw [if_pos ⟨by omega, hf.2⟩, hv]; rfl
      · have hv : partsV p = (zeroC, 0, false) := by unfold partsV; rw [if_neg (fun hh => h5 hh.1), if_neg hl, if_neg (fun hh => hf hh.2)]
        rw [if_neg (fun hh => hf ⟨by omega, hh.2⟩), hv]; rfl
  · have hv : partsV p = (zeroC, 0, false) := by unfold partsV; rw [if_neg (fun hh => h5 hh.1), if_neg (fun hh => h2 hh.1)]
    unfold toldV
    rw [if_neg h5, if_neg h2, hv]; rfl

/-- What extended tells: the color, and how many are taken, that one too. -/
def ExtV (c : Co) (p : List Int) (l : List (List Int)) : Co := if (longV p l).2.2 = true then (longV p l).1 else c
def ExtPost (w : World) (c : Co) (p : List Int) (l : List (List Int)) (e : Ending) (w' : World) : Prop := e = .returned (.tuple #[coA (ExtV c p l), .int .i64 ((1 + (longV p l).2.1 : Nat) : Int)]) ∧ Below w.heap.size w w'
theorem TabL.row2 {w : World} {A : Option Addr} {L : List (List Int)} (h : TabL w A L) {k : Nat} (hk : k < L.length) : ∃ a A' C, A = some a ∧ (∀ V, Below w.heap.size w V → V.cell? (a.add k) = some (.slice A' (L.getD k []).length C)) ∧ (L.getD k []).length ≤ C ∧ C ≤ 9223372036854775807 ∧ RowL w A' (L.getD k []) := by
  obtain ⟨a, A', C, e, h1, h2, h3⟩ := h k hk
  exact ⟨a, A', C, e, fun V hV => (hV.cell (cell_lt h1)).trans h1, h2.1, h2.2, h3⟩

/-- What extended holds: the old color, and the answer's block. -/
def ExtW (w : World) (c : Co) (V : World) : Prop := Below w.heap.size w V ∧ ColAt V w.heap.size c.kind c.n ∧ ∃ x y : Int, V.heap[w.heap.size + 1]? = some (.cells #[.int .u8 x, .int .u32 y] 25 (0, 0))
theorem ExtW.below {w V V' : World} {c : Co} (h : ExtW w c V) (hb : Below V.heap.size V V') : ExtW w c V' := by
  obtain ⟨h0, h1, x, y, h2⟩ := h
  have l1 := (Array.getElem?_eq_some_iff.1 h1).1
  have l2 := (Array.getElem?_eq_some_iff.1 h2).1
  exact ⟨h0.trans (hb.mono h0.size), (hb.block _ l1).trans h1, x, y, (hb.block _ l2).trans h2⟩
theorem ExtW.put {w V : World} {c : Co} (h : ExtW w c V) (x y : Int) : ExtW w c ((V.setCell ⟨w.heap.size + 1, 0, none⟩ (.int .u8 x)).setCell ⟨w.heap.size + 1, 1, none⟩ (.int .u32 y)) := by
  obtain ⟨h0, h1, x', y', h2⟩ := h
  refine ⟨(h0.setCell (by simp) _).setCell (by simp) _, ?_, x, y, set_blk (set_blk h2 0 _) 1 _⟩
  exact (Deep.blk_setCell_other _ _ _ _ (by simp)).trans ((Deep.blk_setCell_other _ _ _ _ (by simp)).trans h1)
theorem ExtW.start (w : World) (c : Co) : ExtW w c ((w.alloc (.cells #[.int .u8 (c.kind : Int), .int .u32 (c.n : Int)] 25)).alloc (.cells #[.int .u8 0, .int .u32 0] 25)) := by
  refine ⟨((Below.refl _ _).alloc (Nat.le_refl _) _).alloc (by simp) _, (Deep.blk_alloc_lt _ _ _ (by simp)).trans (Deep.blk_alloc_new _ _), 0, 0, ?_⟩
  have := Deep.blk_alloc_new (w.alloc (.cells #[.int .u8 (c.kind : Int), .int .u32 (c.n : Int)] 25)) (.cells #[.int .u8 0, .int .u32 0] 25)
  rw [Deep.nblk_alloc] at this
  exact this
theorem ExtW.drew {w V : World} {c : Co} (h : ExtW w c V) (n : Nat) : ExtW w c (V.drewN n) := ⟨below_drew h.1 n, h.2⟩
theorem ExtW.open_ {w V : World} {c : Co} (h : ExtW w c V) : ∃ x y : Int, V.heap[w.heap.size + 1]? = some (.cells #[.int .u8 x, .int .u32 y] 25 (0, 0)) ∧ V.cell? ⟨w.heap.size + 1, 0, none⟩ = some (.int .u8 x) ∧ V.cell? ⟨w.heap.size + 1, 1, none⟩ = some (.int .u32 y) ∧ V.frozen? ⟨w.heap.size + 1, 0, none⟩ = false ∧ V.frozen? ⟨w.heap.size + 1, 1, none⟩ = false := by
  obtain ⟨_, _, x, y, h⟩ := h
  exact ⟨x, y, h, cell_of h 0, cell_of h 1, free_blk h 0, free_blk h 1⟩

set_option maxHeartbeats 4000000 in
theorem ext_parts (c : Co) (p : List Int) (l : List (List Int)) (A : Option Addr) (n k : Nat) (w : World) (hT : TabL w A (p :: l)) (hn : n = l.length + 1) (hl : n ≤ k) (hk : k ≤ 9223372036854775807) (hp : 1 < p.length) :
    Calls Tryd.prog 18 #[coA c, .slice A n k] w (ExtPost w c p l) := by
  obtain ⟨a, A', C, rfl, hc, hm, hC, hR⟩ := hT.row2 (k := 0) (by simp)
  simp only [List.getD_cons_zero] at hc hm hR
  rw [add_zero'] at hc
  obtain ⟨a', rfl, h1, _⟩ := hR 0 (by omega)
  obtain ⟨m, hmp⟩ : ∃ m, m = p.length := ⟨_, rfl⟩
  have HM := Lib.hid hmp
  have HO : Hid (∀ V, Below w.heap.size w V → Calls Tryd.prog 26 #[.slice (some a') m C] V fun e w' => (∃ v, e = .returned v ∧ ValsAre V v (ownV p)) ∧ V = w') := Lib.hid fun V hV => ownValues_any p a' m C V (hR.below hV) hmp (by omega) (by omega) hC
  obtain ⟨a'', e', hx, _⟩ := hR 1 hp
  obtain rfl := Option.some.inj e'
  rw [add_pos'] at hx
  have hx : ∀ V, Below w.heap.size w V → V.cell? ⟨a'.block, a'.off + 1, none⟩ = some (.int .i64 (partV p 1)) := fun V hV => (hV.cell (cell_lt hx)).trans hx
  have HL : Hid (longV p l = partsV p) := Lib.hid (by unfold longV; rw [if_pos hp])
  have H0 : Hid ((partsV p).2.1 = 0) := Lib.hid (by
    unfold partsV
    repeat' split
    all_goals rfl)
  have HE := Lib.hid (own_told c p hp)
  unfold ExtPost ExtV
  rw [HL.out, H0.out, ← HE.out]
  have HT : Hid (∀ V v, ValsAre V v (ownV p) → Calls Tryd.prog 25 #[coA c, .int .i64 (partV p 1), v] V fun e w' => e = .returned (coA (toldV c (partV p 1) (ownV p))) ∧ Below V.heap.size V w') := Lib.hid fun V v hv => by
    obtain ⟨B, k, rfl, h1, h2, h3⟩ := hv
    exact told_any c (ownV p) B _ k V h3 rfl h1 h2 _
  have hm1 : 1 < m := by omega
  have hm1i : (1 : Int) < (m : Int) := by omega
  have hm0i : (0 : Int) ≤ (m : Int) := by omega
  rw [← hmp] at hc
  have hc0 := hc _ (Below.refl _ _)
  have g : decide ((m : Int) > 1) = true := by simp; omega
  generalize toldV c (partV p 1) (ownV p) = R at *
  generalize partV p 1 = x at *
  have hn0 : 0 < n := by omega
  clear hR hT hn hmp hm HE
  obtain ⟨W, hW⟩ : ∃ W, W = (w.alloc (.cells #[.int .u8 (c.kind : Int), .int .u32 (c.n : Int)] 25)).alloc (.cells #[.int .u8 0, .int .u32 0] 25) := ⟨_, rfl⟩
  have hS : ExtW w c W := by rw [hW]; exact ExtW.start w c
  have HW := Lib.hid hW
  have hc : W.cell? a = some (.slice (some a') m C) := hc W hS.1
  rw [hW] at hc
  have hx : ∀ V, ExtW w c V → V.cell? ⟨a'.block, a'.off + 1, none⟩ = some (.int .i64 x) := fun V hV => hx V hV.1
  have q0 : ∀ V, ExtW w c V → V.cell? ⟨w.heap.size, 0, none⟩ = some (.int .u8 (c.kind : Int)) := fun V hV => hV.2.1.kind
  have q1 : ∀ V, ExtW w c V → V.cell? ⟨w.heap.size, 1, none⟩ = some (.int .u32 (c.n : Int)) := fun V hV => hV.2.1.num
  have k0 : ExtW w c W.drew := hS.drew 1
  have HO2 : Hid (∀ V, ExtW w c V → Calls Tryd.prog 26 #[.slice (some a') m C] V fun e w' => (∃ v, e = .returned v ∧ ValsAre V v (ownV p)) ∧ V = w') := Lib.hid fun V hV => HO.out V hV.1
  have HT2 : Hid (∀ V v, ExtW w c V → ValsAre V v (ownV p) → Calls Tryd.prog 25 #[.agg #[.int .u8 (c.kind : Int), .int .u32 (c.n : Int)], .int .i64 x, v] V fun e w' => e = .returned (coA R) ∧ ExtW w c w') := Lib.hid fun V v hV hv => (HT.out V v hv).mono fun _ _ hh => ⟨hh.1, hV.below hh.2⟩
  clear hW HO HT hc0 hS
  unfold coA at *
  go_enter Tryd.func18, Tryd.ntmps18
  go_wp2_with fail
  rw [← HW.out]
  go_region_held3 (fun V => ExtW w c V)
    (first | assumption | exact ExtW.put (by assumption) _ _)
    (first | (go_at_call 26; (with_reducible refine (HO2.out _ (by assumption)).mono ?_); rintro e w1 ⟨⟨v, rfl, hv⟩, rfl⟩) | (go_at_call 25; (with_reducible refine (HT2.out _ _ (by assumption) (by assumption)).mono ?_); rintro e w2 ⟨rfl, j2⟩; obtain ⟨x', y', hb2, z0, z1, f0, f1⟩ := j2.open_))
  all_goals
    go_wp2
    have Z := put_two hb2 (.int .u8 (R.kind : Int)) (.int .u32 (R.n : Int))
    refine bodyPost_ret (v := .tuple #[.agg #[.int .u8 R.kind, .int .u32 R.n], .int .i64 1]) (by simp [results, Tryd.results18, go_sem, Z.1, Z.2]) rfl ?_
    exact ⟨by simp, (j2.put _ _).1⟩

theorem ext_one (c : Co) (p : List Int) (A : Option Addr) (n k : Nat) (w : World) (hT : TabL w A [p]) (hn : n = 1) (hl : n ≤ k) (hk : k ≤ 9223372036854775807) (hp : ¬ 1 < p.length) :
    Calls Tryd.prog 18 #[coA c, .slice A n k] w (ExtPost w c p []) := by
  obtain ⟨a, A', C, rfl, hc, hm, hC, hR⟩ := hT.row2 (k := 0) (by simp)
  simp only [List.getD_cons_zero] at hc hm hR
  rw [add_zero'] at hc
  subst hn
  have HL : Hid (longV p [] = (zeroC, 0, false)) := Lib.hid (by unfold longV; rw [if_neg hp]; rfl)
  unfold ExtPost ExtV
  rw [HL.out]
  have HA : Hid (∀ o o', Below w.heap.size w ((w.alloc o).alloc o')) := Lib.hid fun o o' => ((Below.refl _ _).alloc (Nat.le_refl _) _).alloc (by simp) _
  have hc := hc _ (HA.out (.cells #[.int .u8 (c.kind : Int), .int .u32 (c.n : Int)] 25) (.cells #[.int .u8 0, .int .u32 0] 25))
  have g : decide ((p.length : Int) > 1) = false := by simp; omega
  generalize p.length = m at *
  clear hT hR
  unfold coA
  go_enter Tryd.func18, Tryd.ntmps18
  go_wp2_with fail
  refine bodyPost_ret (v := .tuple #[.agg #[.int .u8 c.kind, .int .u32 c.n], .int .i64 1]) (by simp [results, Tryd.results18, go_sem]) rfl ?_
  exact ⟨by simp, HA.out _ _⟩

set_option maxRecDepth 100000 in
set_option maxHeartbeats 2000000 in
theorem ext_other (c : Co) (p q : List Int) (l : List (List Int)) (A : Option Addr) (n k : Nat) (w : World) (hT : TabL w A (p :: q :: l)) (hn : n = l.length + 2) (hl : n ≤ k) (hk : k ≤ 9223372036854775807) (hp : ¬ 1 < p.length) (h5 : partV q 0 ≠ 5) (h2 : partV q 0 ≠ 2) :
    Calls Tryd.prog 18 #[coA c, .slice A n k] w (ExtPost w c p (q :: l)) := by
  obtain ⟨a, A', C, rfl, hc, hm, hC, hR⟩ := hT.row2 (k := 0) (by simp)
  obtain ⟨a', B, D, e', hd, hm2, hD, hR2⟩ := hT.row2 (k := 1) (by simp)
  obtain rfl := Option.some.inj e'
  simp only [List.getD_cons_zero, List.getD_cons_succ] at hc hm hR hd hm2 hR2
  rw [add_zero'] at hc
  rw [add_pos'] at hd
  have HL : Hid (longV p (q :: l) = (zeroC, otherT, false)) := Lib.hid (by
    unfold longV
    rw [if_neg hp]
    unfold behindV
    rw [if_neg (by simp), show headV (q :: l) 0 = partV q 0 from rfl, if_neg h5, if_neg h2])
  unfold ExtPost ExtV
  rw [HL.out]
  have HA : Hid (∀ o o', Below w.heap.size w ((w.alloc o).alloc o')) := Lib.hid fun o o' => ((Below.refl _ _).alloc (Nat.le_refl _) _).alloc (by simp) _
  have hcA := hc _ (HA.out (.cells #[.int .u8 (c.kind : Int), .int .u32 (c.n : Int)] 25) (.cells #[.int .u8 0, .int .u32 0] 25))
  have hdA := hd _ (HA.out (.cells #[.int .u8 (c.kind : Int), .int .u32 (c.n : Int)] 25) (.cells #[.int .u8 0, .int .u32 0] 25))
  have g : decide ((p.length : Int) > 1) = false := by simp; omega
  have gn : ((n : Int) == 1) = false := by simp; omega
  have hn1 : 1 < n := by omega
  have HF : Hid (∀ V, Below w.heap.size w V → Calls Tryd.prog 16 #[.slice B q.length D] V fun e w' => e = .returned (.int .i64 (partV q 0)) ∧ V = w') := Lib.hid fun V hV => first_any q B _ D V (hR2.below hV) rfl (by omega)
  have HN := Lib.hid fun V => needs_any (partV q 0) V
  rw [if_neg h5, if_neg h2] at HN
  have HT : Hid (∀ V, ExtW w c V → Calls Tryd.prog 25 #[coA c, .int .i64 (partV q 0), .slice none 0 0] V fun e w' => e = .returned (coA c) ∧ ExtW w c w') := Lib.hid fun V hV => by
    have h := told_any c [] none 0 0 V (row_none rfl) rfl (Nat.le_refl _) (by decide) (partV q 0)
    rw [show toldV c (partV q 0) [] = c from by unfold toldV; rw [if_neg h5, if_neg h2]] at h
    exact h.mono fun _ _ hh => ⟨hh.1, hV.below hh.2⟩
  have hS0 := Lib.hid (ExtW.start w c)
  have q0 : Hid (∀ V, ExtW w c V → V.cell? ⟨w.heap.size, 0, none⟩ = some (.int .u8 (c.kind : Int))) := Lib.hid fun V hV => hV.2.1.kind
  have q1 : Hid (∀ V, ExtW w c V → V.cell? ⟨w.heap.size, 1, none⟩ = some (.int .u32 (c.n : Int))) := Lib.hid fun V hV => hV.2.1.num
  have gm : decide ((n : Int) < 2) = false := by simp; omega
  generalize p.length = m at *
  generalize q.length = m2 at *
  generalize partV q 0 = x at *
  clear hT hR hR2 hc hd hn hp h5 h2
  unfold coA at *
  have hcase2 : k = 2 ∨ k ≠ 2 := by omega
  rcases hcase2 with hk2 | hk2
  · subst hk2
    obtain rfl : n = 2 := by omega
    go_enter Tryd.func18, Tryd.ntmps18
    go_wp2_with (first | (go_at_call 16; refine (HF.out _ (HA.out _ _)).mono ?_; rintro e w' ⟨rfl, rfl⟩) | (go_at_call 27; refine (HN.out _).mono ?_; rintro e w' ⟨rfl, rfl⟩))
    go_loopw [8, 41] (fun v i wr => v = .slice none 0 0 ∧ i = .int .i64 0 ∧ Hid (ExtW w c wr)) (fun _ _ _ => 0)
    case atStart => exact ⟨rfl, rfl, hS0⟩
    case round =>
      obtain ⟨rfl, rfl, HS⟩ := hrel
      have q0 := q0.out _ HS.out
      have q1 := q1.out _ HS.out
      clear HF HN
      go_wp2_with (go_at_call 25; refine (HT.out _ HS.out).mono ?_; rintro e w2 ⟨rfl, j2⟩; obtain ⟨x', y', hb2, z0, z1, f0, f1⟩ := j2.open_)
      have Z := put_two hb2 (.int .u8 (c.kind : Int)) (.int .u32 (c.n : Int))
      refine bodyPost_ret (v := .tuple #[.agg #[.int .u8 c.kind, .int .u32 c.n], .int .i64 ((1 + otherT : Nat) : Int)]) (by simp [results, Tryd.results18, go_sem, Z.1, Z.2, otherT]) rfl ⟨rfl, (j2.put _ _).1⟩
  · go_enter Tryd.func18, Tryd.ntmps18
    go_wp2_with (first | (go_at_call 16; refine (HF.out _ (HA.out _ _)).mono ?_; rintro e w' ⟨rfl, rfl⟩) | (go_at_call 27; refine (HN.out _).mono ?_; rintro e w' ⟨rfl, rfl⟩))
    go_loopw [8, 41] (fun v i wr => v = .slice none 0 0 ∧ i = .int .i64 0 ∧ Hid (ExtW w c wr)) (fun _ _ _ => 0)
    case atStart => exact ⟨rfl, rfl, hS0⟩
    case round =>
      obtain ⟨rfl, rfl, HS⟩ := hrel
      have q0 := q0.out _ HS.out
      have q1 := q1.out _ HS.out
      clear HF HN
      go_wp2_with (go_at_call 25; refine (HT.out _ HS.out).mono ?_; rintro e w2 ⟨rfl, j2⟩; obtain ⟨x', y', hb2, z0, z1, f0, f1⟩ := j2.open_)
      have Z := put_two hb2 (.int .u8 (c.kind : Int)) (.int .u32 (c.n : Int))
      refine bodyPost_ret (v := .tuple #[.agg #[.int .u8 c.kind, .int .u32 c.n], .int .i64 ((1 + otherT : Nat) : Int)]) (by simp [results, Tryd.results18, go_sem, Z.1, Z.2, otherT]) rfl ⟨rfl, (j2.put _ _).1⟩

end Go.Proofs.YtkenaccnmmmooaaDoor.A10
