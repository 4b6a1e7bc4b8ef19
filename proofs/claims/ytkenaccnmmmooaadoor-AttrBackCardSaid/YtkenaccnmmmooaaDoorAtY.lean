/- Layer 10: the program's extended where the next parameter is 5 or 2. -/
import Derived.Test.YtkenaccnmmmooaaDoorAtX
set_option linter.unusedVariables false
namespace Go.Proofs.YtkenaccnmmmooaaDoor.A10
open Go.RowKit Sgr

theorem info_int : (Tryd.prog.info? 3).map (fun i => (i.zero, i.size, i.bytes)) = some (some (.int .i64 0), 1, 8) := by kernel_rfl
theorem add_zz (g k : Nat) : (⟨g, 0, none⟩ : Addr).add k = ⟨g, k, none⟩ := by
  unfold Addr.add
  split
  · rename_i h; subst h; rfl
  · simp
theorem one_new (w : World) (v : Value) (t : TypeId) : ∀ j u, [v][j]? = some u → (w.alloc (.cells #[v] t)).cell? ((⟨w.heap.size, 0, none⟩ : Addr).add j) = some u := by
  intro j u hu
  cases j with
  | zero =>
    simp at hu
    subst hu
    rw [add_zz]
    simp
  | succ j => simp at hu
def intsV (l : List Int) : List Value := l.map fun x => Value.int .i64 x
/-- A slice of the call's own that holds these numbers. -/
def OwnL (w : World) (base : Nat) (v : Value) (l : List Int) : Prop := w.ownsRow base 3 1 v l.length (intsV l)
theorem own_ge {w : World} {base : Nat} {v : Value} {l : List Int} (h : OwnL w base v l) : ∀ g, v.ownBlock = some g → base ≤ g := by
  intro g hg
  rcases h.2 with ⟨rfl, _⟩ | ⟨g', cap, cur, rfl, hb, _⟩
  · simp [Value.ownBlock] at hg
  · have : g' = g := by simpa [Value.ownBlock] using hg
    omega
theorem own_vals {w : World} {base : Nat} {v : Value} {l : List Int} (h : OwnL w base v l) (hb : ∀ x ∈ l, -9223372036854775808 ≤ x ∧ x ≤ 9223372036854775807) : ValsAre w v l := by
  have hbd : ∀ c, c < l.length → -9223372036854775808 ≤ partV l c ∧ partV l c ≤ 9223372036854775807 := fun c hc => by
    unfold partV
    rw [List.getD_eq_getElem?_getD, List.getElem?_eq_getElem hc]
    exact hb _ (List.getElem_mem _)
  rcases h.2 with ⟨rfl, h0⟩ | ⟨g, cap, cur, rfl, hge, hh, hl, hm, _⟩
  · exact ⟨none, 0, by rw [h0], by omega, by decide, row_none h0⟩
  · refine ⟨_, cap, rfl, hl, Nat.le_trans hm (by unfold maxLen; omega), fun c hc => ⟨_, rfl, ?_, hbd c hc⟩⟩
    refine World.ownsRow.cells (w := w) h (g := g) rfl c (.int .i64 (partV l c)) ?_
    unfold intsV partV
    rw [List.getElem?_map, List.getElem?_eq_getElem hc, List.getD_eq_getElem?_getD, List.getElem?_eq_getElem hc]
    rfl
theorem ExtW.grown {w V V' : World} {c : Co} {row : Option Nat} (h : ExtW w c V) (hg : V.grownBy V' row) (hr : ∀ g, row = some g → w.heap.size + 1 + 1 ≤ g) : ExtW w c V' := by
  obtain ⟨h0, h1, x, y, h2⟩ := h
  have l1 := (Array.getElem?_eq_some_iff.1 h1).1
  have l2 := (Array.getElem?_eq_some_iff.1 h2).1
  refine ⟨h0.grown hg h0.size (fun g e => by have := hr g e; omega), (hg.block _ l1 (fun e => by have := hr _ e.symm; omega)).trans h1, x, y, (hg.block _ l2 (fun e => by have := hr _ e.symm; omega)).trans h2⟩

theorem ExtW.size {w V : World} {c : Co} (h : ExtW w c V) : w.heap.size + 1 + 1 ≤ V.heap.size := by
  obtain ⟨_, _, x, y, h2⟩ := h
  exact (Array.getElem?_eq_some_iff.1 h2).1

/-- The first parts of the parameters behind. -/
def headsV (l : List (List Int)) (m : Nat) : List Int := (l.take m).map fun q => partV q 0
theorem heads_len (l : List (List Int)) (m : Nat) : (headsV l m).length = min m l.length := by simp [headsV]
theorem heads_at (l : List (List Int)) (m j : Nat) (hj : j < m) (hl : j < l.length) : partV (headsV l m) j = partV (l.getD j []) 0 := by
  unfold headsV
  have e : ((l.take m).map fun q => partV q 0)[j]? = some (partV l[j] 0) := by
    rw [List.getElem?_map, List.getElem?_take_of_lt hj, List.getElem?_eq_getElem hl]; rfl
  rw [List.getD_eq_getElem?_getD, List.getElem?_eq_getElem hl]
  show (List.getD _ j 0) = _
  rw [List.getD_eq_getElem?_getD, e]; rfl
theorem heads_succ (L : List Int) (j : Nat) (hj : j < L.length) : L.take (j + 1) = L.take j ++ [partV L j] := by
  rw [List.take_add_one, List.getElem?_eq_getElem hj]
  unfold partV
  rw [List.getD_eq_getElem?_getD, List.getElem?_eq_getElem hj]
  rfl
theorem behind_told5 (c : Co) (q : List Int) (l : List (List Int)) (h : partV q 0 = 5) : (if (behindV (q :: l)).2.2 = true then (behindV (q :: l)).1 else c) = toldV c 5 (headsV l 1) ∧ 1 + (behindV (q :: l)).2.1 = 2 + (headsV l 1).length := by
  have e0 : headV (q :: l) 0 = 5 := h
  cases l with
  | nil =>
    have hv : behindV [q] = (zeroC, 1, false) := by unfold behindV; rw [if_neg (by simp), if_pos e0, if_pos (by simp)]; rfl
    rw [hv]; exact ⟨rfl, rfl⟩
  | cons r l =>
    have e1 : headV (q :: r :: l) 1 = partV r 0 := rfl
    have e2 : headsV (r :: l) 1 = [partV r 0] := rfl
    have e3 : partV [partV r 0] 0 = partV r 0 := rfl
    by_cases hf : fitsB (partV r 0) = true
    · have hv : behindV (q :: r :: l) = (tabV (partV r 0), 2, true) := by unfold behindV; rw [if_neg (by simp), if_pos e0, if_neg (by simp), e1, if_pos hf]
      have ht : toldV c 5 (headsV (r :: l) 1) = tabV (partV r 0) := by unfold toldV; rw [e2, if_pos rfl, e3, if_pos ⟨by simp, hf⟩]
      rw [ht, hv]; exact ⟨rfl, rfl⟩
    · have hv : behindV (q :: r :: l) = (zeroC, 2, false) := by unfold behindV; rw [if_neg (by simp), if_pos e0, if_neg (by simp), e1, if_neg hf]
      have ht : toldV c 5 (headsV (r :: l) 1) = c := by unfold toldV; rw [e2, if_pos rfl, e3, if_neg (fun hh => hf hh.2)]
      rw [ht, hv]; exact ⟨rfl, rfl⟩
theorem behind_told2 (c : Co) (q : List Int) (l : List (List Int)) (h : partV q 0 = 2) : (if (behindV (q :: l)).2.2 = true then (behindV (q :: l)).1 else c) = toldV c 2 (headsV l 3) ∧ 1 + (behindV (q :: l)).2.1 = 2 + (headsV l 3).length := by
  have e0 : headV (q :: l) 0 = 2 := h
  have n5 : ¬ headV (q :: l) 0 = 5 := by rw [e0]; omega
  have hlen := heads_len l 3
  by_cases hl : l.length < 3
  · have hv : behindV (q :: l) = (zeroC, l.length + 1, false) := by unfold behindV; rw [if_neg (by simp), if_neg n5, if_pos e0, if_pos (by simp; omega)]; rfl
    have ht : toldV c 2 (headsV l 3) = c := by unfold toldV; rw [if_neg (by omega), if_pos rfl, if_neg (by omega)]
    rw [ht, hv]
    exact ⟨rfl, by show 1 + (l.length + 1) = _; omega⟩
  · have a0 := heads_at l 3 0 (by omega) (by omega)
    have a1 := heads_at l 3 1 (by omega) (by omega)
    have a2 := heads_at l 3 2 (by omega) (by omega)
    have e1 : headV (q :: l) 1 = partV (l.getD 0 []) 0 := rfl
    have e2 : headV (q :: l) 2 = partV (l.getD 1 []) 0 := rfl
    have e3 : headV (q :: l) 3 = partV (l.getD 2 []) 0 := rfl
    by_cases hf : fitsB (partV (l.getD 0 []) 0) = true ∧ fitsB (partV (l.getD 1 []) 0) = true ∧ fitsB (partV (l.getD 2 []) 0) = true
    · have hv : behindV (q :: l) = (rgbV (partV (l.getD 0 []) 0) (partV (l.getD 1 []) 0) (partV (l.getD 2 []) 0), 4, true) := by unfold behindV; rw [if_neg (by simp), if_neg n5, if_pos e0, if_neg (by simp; omega), e1, e2, e3, if_pos hf]
      have ht : toldV c 2 (headsV l 3) = rgbV (partV (l.getD 0 []) 0) (partV (l.getD 1 []) 0) (partV (l.getD 2 []) 0) := by unfold toldV; rw [if_neg (by omega), if_pos rfl, a0, a1, a2, if_pos ⟨by omega, hf⟩]
      rw [ht, hv]; exact ⟨rfl, by show 1 + 4 = _; omega⟩
    · have hv : behindV (q :: l) = (zeroC, 4, false) := by unfold behindV; rw [if_neg (by simp), if_neg n5, if_pos e0, if_neg (by simp; omega), e1, e2, e3, if_neg hf]
      have ht : toldV c 2 (headsV l 3) = c := by unfold toldV; rw [if_neg (by omega), if_pos rfl, a0, a1, a2, if_neg (fun hh => hf hh.2)]
      rw [ht, hv]; exact ⟨rfl, by show 1 + 4 = _; omega⟩

set_option maxRecDepth 100000 in
set_option maxHeartbeats 8000000 in
theorem ext_five (c : Co) (p q : List Int) (l : List (List Int)) (A : Option Addr) (n k : Nat) (w : World) (hT : TabL w A (p :: q :: l)) (hn : n = l.length + 2) (hl : n ≤ k) (hk : k ≤ 9223372036854775807) (hp : ¬ 1 < p.length) (hq : partV q 0 = 5) :
    Calls Tryd.prog 18 #[coA c, .slice A n k] w (ExtPost w c p (q :: l)) := by
  obtain ⟨a, A', C, rfl, hc, hm, hC, hR⟩ := hT.row2 (k := 0) (by simp)
  obtain ⟨a', B, D, e', hd, hm2, hD, hR2⟩ := hT.row2 (k := 1) (by simp)
  obtain rfl := Option.some.inj e'
  simp only [List.getD_cons_zero, List.getD_cons_succ] at hc hm hR hd hm2 hR2
  rw [add_zero'] at hc
  rw [add_pos'] at hd
  have HL : Hid (longV p (q :: l) = behindV (q :: l)) := Lib.hid (by unfold longV; rw [if_neg hp])
  have HV := Lib.hid (behind_told5 c q l hq)
  unfold ExtPost ExtV
  rw [HL.out, HV.out.1, HV.out.2]
  obtain ⟨H, hH⟩ : ∃ H, H = headsV l 1 := ⟨_, rfl⟩
  rw [← hH]
  obtain ⟨cnt, hcnt⟩ : ∃ cnt, cnt = H.length := ⟨_, rfl⟩
  have hcl : cnt = min 1 l.length := by rw [hcnt, hH, heads_len]
  have HC := Lib.hid hcnt
  -- each of them in memory, and what its first part is
  have HR : Hid (∀ j, j < cnt → ∃ (B' : Option Addr) (m' D' : Nat), (∀ V, Below w.heap.size w V → V.cell? ⟨a.block, a.off + 2 + j, none⟩ = some (.slice B' m' D')) ∧ (∀ V, Below w.heap.size w V → Calls Tryd.prog 16 #[.slice B' m' D'] V fun e w' => e = .returned (.int .i64 (partV H j)) ∧ V = w') ∧ -9223372036854775808 ≤ partV H j ∧ partV H j ≤ 9223372036854775807) := Lib.hid fun j hj => by
    obtain ⟨a', B', D', e', h1, h2, h3, h4⟩ := hT.row2 (k := j + 2) (by simp; omega)
    obtain rfl := Option.some.inj e'
    simp only [List.getD_cons_succ] at h1 h2 h4
    refine ⟨B', (l.getD j []).length, D', fun V hV => ?_, fun V hV => ?_, ?_⟩
    · have := h1 V hV
      rw [show a.add (j + 2) = ⟨a.block, a.off + 2 + j, none⟩ from by unfold Addr.add; rw [if_neg (by omega)]; congr 1; omega] at this
      exact this
    · rw [hH, heads_at l 1 j (by omega) (by omega)]
      exact first_any _ B' _ D' V (h4.below hV) rfl (by omega)
    · rw [hH, heads_at l 1 j (by omega) (by omega)]
      by_cases h0 : 0 < (l.getD j []).length
      · obtain ⟨_, _, _, hb⟩ := h4 0 h0
        exact hb
      · have : partV (l.getD j []) 0 = 0 := by
          show List.getD _ 0 0 = 0
          rw [List.getD_eq_getElem?_getD, List.getElem?_eq_none (by omega)]; rfl
        rw [this]; decide
  have HBd : Hid (∀ x ∈ H, -9223372036854775808 ≤ x ∧ x ≤ 9223372036854775807) := Lib.hid fun x hx => by
    obtain ⟨j, hj, rfl⟩ := List.getElem_of_mem hx
    obtain ⟨_, _, _, _, _, hb⟩ := HR.out j (by omega)
    unfold partV at hb
    rw [List.getD_eq_getElem?_getD, List.getElem?_eq_getElem hj] at hb
    exact hb
  have HA : Hid (∀ o o', Below w.heap.size w ((w.alloc o).alloc o')) := Lib.hid fun o o' => ((Below.refl _ _).alloc (Nat.le_refl _) _).alloc (by simp) _
  have hcA := hc _ (HA.out (.cells #[.int .u8 (c.kind : Int), .int .u32 (c.n : Int)] 25) (.cells #[.int .u8 0, .int .u32 0] 25))
  have hdA := hd _ (HA.out (.cells #[.int .u8 (c.kind : Int), .int .u32 (c.n : Int)] 25) (.cells #[.int .u8 0, .int .u32 0] 25))
  have g : decide ((p.length : Int) > 1) = false := by simp; omega
  have gn : ((n : Int) == 1) = false := by simp; omega
  have hn1 : 1 < n := by omega
  have HF : Hid (∀ V, Below w.heap.size w V → Calls Tryd.prog 16 #[.slice B q.length D] V fun e w' => e = .returned (.int .i64 (partV q 0)) ∧ V = w') := Lib.hid fun V hV => first_any q B _ D V (hR2.below hV) rfl (by omega)
  have HN := Lib.hid fun V => needs_any (partV q 0) V
  rw [hq] at HF HN
  rw [if_pos rfl] at HN
  have HT : Hid (∀ V v, ExtW w c V → ValsAre V v H → Calls Tryd.prog 25 #[coA c, .int .i64 5, v] V fun e w' => e = .returned (coA (toldV c 5 H)) ∧ ExtW w c w') := Lib.hid fun V v hV hv => by
    obtain ⟨B, k, rfl, h1, h2, h3⟩ := hv
    exact (told_any c H B _ k V h3 rfl h1 h2 5).mono fun _ _ hh => ⟨hh.1, hV.below hh.2⟩
  generalize toldV c 5 H = R at *
  have hcase : cnt = n - 2 ∧ n < 2 + 1 ∨ cnt = 1 ∧ 2 + 1 ≤ n := by omega
  have hS0 := Lib.hid (ExtW.start w c)
  obtain ⟨i0, hi, hz0, hz1, hz2⟩ := info_parts info_int
  have HI := Lib.hid hi; have HZ0 := Lib.hid hz0; have HZ1 := Lib.hid hz1; have HZ2 := Lib.hid hz2
  have q0 : Hid (∀ V, ExtW w c V → V.cell? ⟨w.heap.size, 0, none⟩ = some (.int .u8 (c.kind : Int))) := Lib.hid fun V hV => hV.2.1.kind
  have q1 : Hid (∀ V, ExtW w c V → V.cell? ⟨w.heap.size, 1, none⟩ = some (.int .u32 (c.n : Int))) := Lib.hid fun V hV => hV.2.1.num
  generalize p.length = m at *
  generalize q.length = m2 at *
  clear hT hR hR2 hc hd hn hcl hcnt hH hi hz0 hz1 hz2 hp hq HV HL
  unfold coA at *
  have hcase2 : n = 2 ∧ k = 2 ∧ cnt = 0 ∨ k ≠ 2 ∧ cnt = n - 2 ∧ n < 2 + 1 ∨ k ≠ 2 ∧ cnt = 1 ∧ 2 + 1 ≤ n := by omega
  clear hcase
  rcases hcase2 with ⟨hn2, hk2, hc1⟩ | ⟨hk2, hc1, hc2⟩ | ⟨hk2, hc1, hc2⟩
  · subst hk2
    have gm : decide ((n : Int) < 2 + 1) = true := by simp; omega
    go_enter Tryd.func18, Tryd.ntmps18
    go_wp2_with (first | (go_at_call 16; refine (HF.out _ (HA.out _ _)).mono ?_; rintro e w' ⟨rfl, rfl⟩) | (go_at_call 27; refine (HN.out _).mono ?_; rintro e w' ⟨rfl, rfl⟩))
    go_loopw [8, 41] (fun v i wr => ∃ j : Nat, j ≤ cnt ∧ i = .int .i64 j ∧ Hid (OwnL wr (w.heap.size + 1 + 1) v (H.take j)) ∧ Hid (ExtW w c wr)) (fun _ i _ => cnt - (RowKit.intOf i).toNat)
    case atStart => exact ⟨0, Nat.zero_le _, rfl, Lib.hid ⟨by simp [intsV], Or.inl ⟨rfl, by simp⟩⟩, hS0⟩
    case round =>
      obtain ⟨j, hj, rfl, HO, HS⟩ := hrel
      rename_i wr
      by_cases hlt : j < cnt
      · exfalso; omega
      · have hjc : j = cnt := by omega
        have hO := HO.out
        rw [List.take_of_length_le (by rw [← HC.out]; omega)] at hO
        obtain ⟨A2, k2, rfl, hka, hkb, hrow⟩ := own_vals hO HBd.out
        have HVA : Hid (∀ V, Below wr.heap.size wr V → ValsAre V (.slice A2 H.length k2) H) := Lib.hid fun V hV => ⟨A2, k2, rfl, hka, hkb, hrow.below hV⟩
        have glt : decide ((j : Int) < ((n - 2 : Nat) : Int)) = false := by simp; omega
        have hHl : H.length ≤ 3 := by rw [← HC.out]; omega
        have q0 := q0.out _ HS.out
        have q1 := q1.out _ HS.out
        clear HO hO hrow HR HF HN
        go_wp2_with (go_at_call 25; refine (HT.out _ _ HS.out (HVA.out _ (Below.refl _ _))).mono ?_; rintro e w2 ⟨rfl, j2⟩; obtain ⟨x', y', hb2, z0, z1, f0, f1⟩ := j2.open_)
        have Z := put_two hb2 (.int .u8 (R.kind : Int)) (.int .u32 (R.n : Int))
        refine bodyPost_ret (v := .tuple #[.agg #[.int .u8 R.kind, .int .u32 R.n], .int .i64 ((2 + H.length : Nat) : Int)]) (by simp [results, Tryd.results18, go_sem, Z.1, Z.2]) rfl ⟨rfl, (j2.put _ _).1⟩
  · have gm : decide ((n : Int) < 2 + 1) = true := by simp; omega
    go_enter Tryd.func18, Tryd.ntmps18
    go_wp2_with (first | (go_at_call 16; refine (HF.out _ (HA.out _ _)).mono ?_; rintro e w' ⟨rfl, rfl⟩) | (go_at_call 27; refine (HN.out _).mono ?_; rintro e w' ⟨rfl, rfl⟩))
    go_loopw [8, 41] (fun v i wr => ∃ j : Nat, j ≤ cnt ∧ i = .int .i64 j ∧ Hid (OwnL wr (w.heap.size + 1 + 1) v (H.take j)) ∧ Hid (ExtW w c wr)) (fun _ i _ => cnt - (RowKit.intOf i).toNat)
    case atStart => exact ⟨0, Nat.zero_le _, rfl, Lib.hid ⟨by simp [intsV], Or.inl ⟨rfl, by simp⟩⟩, hS0⟩
    case round =>
      obtain ⟨j, hj, rfl, HO, HS⟩ := hrel
      rename_i wr
      by_cases hlt : j < cnt
      · exfalso; omega
      · have hjc : j = cnt := by omega
        have hO := HO.out
        rw [List.take_of_length_le (by rw [← HC.out]; omega)] at hO
        obtain ⟨A2, k2, rfl, hka, hkb, hrow⟩ := own_vals hO HBd.out
        have HVA : Hid (∀ V, Below wr.heap.size wr V → ValsAre V (.slice A2 H.length k2) H) := Lib.hid fun V hV => ⟨A2, k2, rfl, hka, hkb, hrow.below hV⟩
        have glt : decide ((j : Int) < ((n - 2 : Nat) : Int)) = false := by simp; omega
        have hHl : H.length ≤ 3 := by rw [← HC.out]; omega
        have q0 := q0.out _ HS.out
        have q1 := q1.out _ HS.out
        clear HO hO hrow HR HF HN
        go_wp2_with (go_at_call 25; refine (HT.out _ _ HS.out (HVA.out _ (Below.refl _ _))).mono ?_; rintro e w2 ⟨rfl, j2⟩; obtain ⟨x', y', hb2, z0, z1, f0, f1⟩ := j2.open_)
        have Z := put_two hb2 (.int .u8 (R.kind : Int)) (.int .u32 (R.n : Int))
        refine bodyPost_ret (v := .tuple #[.agg #[.int .u8 R.kind, .int .u32 R.n], .int .i64 ((2 + H.length : Nat) : Int)]) (by simp [results, Tryd.results18, go_sem, Z.1, Z.2]) rfl ⟨rfl, (j2.put _ _).1⟩
  · have gm : decide ((n : Int) < 2 + 1) = false := by simp; omega
    go_enter Tryd.func18, Tryd.ntmps18
    go_wp2_with (first | (go_at_call 16; refine (HF.out _ (HA.out _ _)).mono ?_; rintro e w' ⟨rfl, rfl⟩) | (go_at_call 27; refine (HN.out _).mono ?_; rintro e w' ⟨rfl, rfl⟩))
    go_loopw [8, 41] (fun v i wr => ∃ j : Nat, j ≤ cnt ∧ i = .int .i64 j ∧ Hid (OwnL wr (w.heap.size + 1 + 1) v (H.take j)) ∧ Hid (ExtW w c wr)) (fun _ i _ => cnt - (RowKit.intOf i).toNat)
    case atStart => exact ⟨0, Nat.zero_le _, rfl, Lib.hid ⟨by simp [intsV], Or.inl ⟨rfl, by simp⟩⟩, hS0⟩
    case round =>
      obtain ⟨j, hj, rfl, HO, HS⟩ := hrel
      rename_i wr
      by_cases hlt : j < cnt
      · obtain ⟨B', m', D', hcell, hfirst, hb1, hb2⟩ := HR.out j hlt
        have hcell := hcell _ HS.out.1
        have HFj := Lib.hid hfirst
        have HT2 := Lib.hid (heads_succ H j (by rw [← HC.out]; exact hlt))
        have hlen2 : (H.take j).length = j := by rw [List.length_take, ← HC.out]; omega
        have glt : decide ((j : Int) < 1) = true := by simp; omega
        have hz := HS.out.size
        generalize partV H j = x at *
        clear hfirst
        go_wp2_with (first | (go_at_call 16; refine (HFj.out _ HS.out.1).mono ?_; rintro e w' ⟨rfl, rfl⟩) | (at_builtin; refine wpList_append_own _ rfl (.tmp 45) (.tmp 48) 36 rfl (w.heap.size + 1 + 1) 3 i0 (.int .i64 0) 1 8 Tryd.underlying36 HI.out HZ0.out HZ1.out HZ2.out rfl (by decide) _ _ _ rfl (World.ownsRow.alloc HO.out _) ⟨wr.heap.size, 0, none⟩ 1 1 [.int .i64 x] rfl rfl ?c1 ?c2 ?c3 ?c4 ?c5 ?_))
        case c1 => exact one_new wr _ _
        case c2 => intro u hu; simp at hu; subst hu; rfl
        case c3 => unfold maxLen; omega
        case c4 => omega
        case c5 => simp; omega
        intro v' w1 hown' hg _
        have HO2 := Lib.hid (show OwnL w1 (w.heap.size + 1 + 1) v' (H.take (j + 1)) from by
          rw [HT2.out]
          unfold OwnL intsV
          rw [List.map_append, List.length_append, hlen2]
          exact hown')
        have HS2 := Lib.hid ((HS.out.below ((Below.refl _ _).alloc (Nat.le_refl _) _)).grown hg (own_ge HO.out))
        clear hown' hg HO HS
        go_wp2
        go_roundw
        case rel => exact ⟨j + 1, by omega, by go_num, HO2, HS2⟩
        case measure => simp [intOf]; omega
      · have hjc : j = cnt := by omega
        have hO := HO.out
        rw [List.take_of_length_le (by rw [← HC.out]; omega)] at hO
        obtain ⟨A2, k2, rfl, hka, hkb, hrow⟩ := own_vals hO HBd.out
        have HVA : Hid (∀ V, Below wr.heap.size wr V → ValsAre V (.slice A2 H.length k2) H) := Lib.hid fun V hV => ⟨A2, k2, rfl, hka, hkb, hrow.below hV⟩
        have glt : decide ((j : Int) < 1) = false := by simp; omega
        have hHl : H.length ≤ 3 := by rw [← HC.out]; omega
        have q0 := q0.out _ HS.out
        have q1 := q1.out _ HS.out
        clear HO hO hrow HR HF HN
        go_wp2_with (go_at_call 25; refine (HT.out _ _ HS.out (HVA.out _ (Below.refl _ _))).mono ?_; rintro e w2 ⟨rfl, j2⟩; obtain ⟨x', y', hb2, z0, z1, f0, f1⟩ := j2.open_)
        have Z := put_two hb2 (.int .u8 (R.kind : Int)) (.int .u32 (R.n : Int))
        refine bodyPost_ret (v := .tuple #[.agg #[.int .u8 R.kind, .int .u32 R.n], .int .i64 ((2 + H.length : Nat) : Int)]) (by simp [results, Tryd.results18, go_sem, Z.1, Z.2]) rfl ⟨rfl, (j2.put _ _).1⟩

set_option maxRecDepth 100000 in
set_option maxHeartbeats 8000000 in
theorem ext_two (c : Co) (p q : List Int) (l : List (List Int)) (A : Option Addr) (n k : Nat) (w : World) (hT : TabL w A (p :: q :: l)) (hn : n = l.length + 2) (hl : n ≤ k) (hk : k ≤ 9223372036854775807) (hp : ¬ 1 < p.length) (hq : partV q 0 = 2) :
    Calls Tryd.prog 18 #[coA c, .slice A n k] w (ExtPost w c p (q :: l)) := by
  obtain ⟨a, A', C, rfl, hc, hm, hC, hR⟩ := hT.row2 (k := 0) (by simp)
  obtain ⟨a', B, D, e', hd, hm2, hD, hR2⟩ := hT.row2 (k := 1) (by simp)
  obtain rfl := Option.some.inj e'
  simp only [List.getD_cons_zero, List.getD_cons_succ] at hc hm hR hd hm2 hR2
  rw [add_zero'] at hc
  rw [add_pos'] at hd
  have HL : Hid (longV p (q :: l) = behindV (q :: l)) := Lib.hid (by unfold longV; rw [if_neg hp])
  have HV := Lib.hid (behind_told2 c q l hq)
  unfold ExtPost ExtV
  rw [HL.out, HV.out.1, HV.out.2]
  obtain ⟨H, hH⟩ : ∃ H, H = headsV l 3 := ⟨_, rfl⟩
  rw [← hH]
  obtain ⟨cnt, hcnt⟩ : ∃ cnt, cnt = H.length := ⟨_, rfl⟩
  have hcl : cnt = min 3 l.length := by rw [hcnt, hH, heads_len]
  have HC := Lib.hid hcnt
  -- each of them in memory, and what its first part is
  have HR : Hid (∀ j, j < cnt → ∃ (B' : Option Addr) (m' D' : Nat), (∀ V, Below w.heap.size w V → V.cell? ⟨a.block, a.off + 2 + j, none⟩ = some (.slice B' m' D')) ∧ (∀ V, Below w.heap.size w V → Calls Tryd.prog 16 #[.slice B' m' D'] V fun e w' => e = .returned (.int .i64 (partV H j)) ∧ V = w') ∧ -9223372036854775808 ≤ partV H j ∧ partV H j ≤ 9223372036854775807) := Lib.hid fun j hj => by
    obtain ⟨a', B', D', e', h1, h2, h3, h4⟩ := hT.row2 (k := j + 2) (by simp; omega)
    obtain rfl := Option.some.inj e'
    simp only [List.getD_cons_succ] at h1 h2 h4
    refine ⟨B', (l.getD j []).length, D', fun V hV => ?_, fun V hV => ?_, ?_⟩
    · have := h1 V hV
      rw [show a.add (j + 2) = ⟨a.block, a.off + 2 + j, none⟩ from by unfold Addr.add; rw [if_neg (by omega)]; congr 1; omega] at this
      exact this
    · rw [hH, heads_at l 3 j (by omega) (by omega)]
      exact first_any _ B' _ D' V (h4.below hV) rfl (by omega)
    · rw [hH, heads_at l 3 j (by omega) (by omega)]
      by_cases h0 : 0 < (l.getD j []).length
      · obtain ⟨_, _, _, hb⟩ := h4 0 h0
        exact hb
      · have : partV (l.getD j []) 0 = 0 := by
          show List.getD _ 0 0 = 0
          rw [List.getD_eq_getElem?_getD, List.getElem?_eq_none (by omega)]; rfl
        rw [this]; decide
  have HBd : Hid (∀ x ∈ H, -9223372036854775808 ≤ x ∧ x ≤ 9223372036854775807) := Lib.hid fun x hx => by
    obtain ⟨j, hj, rfl⟩ := List.getElem_of_mem hx
    obtain ⟨_, _, _, _, _, hb⟩ := HR.out j (by omega)
    unfold partV at hb
    rw [List.getD_eq_getElem?_getD, List.getElem?_eq_getElem hj] at hb
    exact hb
  have HA : Hid (∀ o o', Below w.heap.size w ((w.alloc o).alloc o')) := Lib.hid fun o o' => ((Below.refl _ _).alloc (Nat.le_refl _) _).alloc (by simp) _
  have hcA := hc _ (HA.out (.cells #[.int .u8 (c.kind : Int), .int .u32 (c.n : Int)] 25) (.cells #[.int .u8 0, .int .u32 0] 25))
  have hdA := hd _ (HA.out (.cells #[.int .u8 (c.kind : Int), .int .u32 (c.n : Int)] 25) (.cells #[.int .u8 0, .int .u32 0] 25))
  have g : decide ((p.length : Int) > 1) = false := by simp; omega
  have gn : ((n : Int) == 1) = false := by simp; omega
  have hn1 : 1 < n := by omega
  have HF : Hid (∀ V, Below w.heap.size w V → Calls Tryd.prog 16 #[.slice B q.length D] V fun e w' => e = .returned (.int .i64 (partV q 0)) ∧ V = w') := Lib.hid fun V hV => first_any q B _ D V (hR2.below hV) rfl (by omega)
  have HN := Lib.hid fun V => needs_any (partV q 0) V
  rw [hq] at HF HN
  rw [if_neg (by decide), if_pos rfl] at HN
  have HT : Hid (∀ V v, ExtW w c V → ValsAre V v H → Calls Tryd.prog 25 #[coA c, .int .i64 2, v] V fun e w' => e = .returned (coA (toldV c 2 H)) ∧ ExtW w c w') := Lib.hid fun V v hV hv => by
    obtain ⟨B, k, rfl, h1, h2, h3⟩ := hv
    exact (told_any c H B _ k V h3 rfl h1 h2 2).mono fun _ _ hh => ⟨hh.1, hV.below hh.2⟩
  generalize toldV c 2 H = R at *
  have hcase : cnt = n - 2 ∧ n < 2 + 3 ∨ cnt = 3 ∧ 2 + 3 ≤ n := by omega
  have hS0 := Lib.hid (ExtW.start w c)
  obtain ⟨i0, hi, hz0, hz1, hz2⟩ := info_parts info_int
  have HI := Lib.hid hi; have HZ0 := Lib.hid hz0; have HZ1 := Lib.hid hz1; have HZ2 := Lib.hid hz2
  have q0 : Hid (∀ V, ExtW w c V → V.cell? ⟨w.heap.size, 0, none⟩ = some (.int .u8 (c.kind : Int))) := Lib.hid fun V hV => hV.2.1.kind
  have q1 : Hid (∀ V, ExtW w c V → V.cell? ⟨w.heap.size, 1, none⟩ = some (.int .u32 (c.n : Int))) := Lib.hid fun V hV => hV.2.1.num
  generalize p.length = m at *
  generalize q.length = m2 at *
  clear hT hR hR2 hc hd hn hcl hcnt hH hi hz0 hz1 hz2 hp hq HV HL
  unfold coA at *
  have hcase2 : n = 2 ∧ k = 2 ∧ cnt = 0 ∨ k ≠ 2 ∧ cnt = n - 2 ∧ n < 2 + 3 ∨ k ≠ 2 ∧ cnt = 3 ∧ 2 + 3 ≤ n := by omega
  clear hcase
  rcases hcase2 with ⟨hn2, hk2, hc1⟩ | ⟨hk2, hc1, hc2⟩ | ⟨hk2, hc1, hc2⟩
  · subst hk2
    have gm : decide ((n : Int) < 2 + 3) = true := by simp; omega
    go_enter Tryd.func18, Tryd.ntmps18
    go_wp2_with (first | (go_at_call 16; refine (HF.out _ (HA.out _ _)).mono ?_; rintro e w' ⟨rfl, rfl⟩) | (go_at_call 27; refine (HN.out _).mono ?_; rintro e w' ⟨rfl, rfl⟩))
    go_loopw [8, 41] (fun v i wr => ∃ j : Nat, j ≤ cnt ∧ i = .int .i64 j ∧ Hid (OwnL wr (w.heap.size + 1 + 1) v (H.take j)) ∧ Hid (ExtW w c wr)) (fun _ i _ => cnt - (RowKit.intOf i).toNat)
    case atStart => exact ⟨0, Nat.zero_le _, rfl, Lib.hid ⟨by simp [intsV], Or.inl ⟨rfl, by simp⟩⟩, hS0⟩
    case round =>
      obtain ⟨j, hj, rfl, HO, HS⟩ := hrel
      rename_i wr
      by_cases hlt : j < cnt
      · exfalso; omega
      · have hjc : j = cnt := by omega
        have hO := HO.out
        rw [List.take_of_length_le (by rw [← HC.out]; omega)] at hO
        obtain ⟨A2, k2, rfl, hka, hkb, hrow⟩ := own_vals hO HBd.out
        have HVA : Hid (∀ V, Below wr.heap.size wr V → ValsAre V (.slice A2 H.length k2) H) := Lib.hid fun V hV => ⟨A2, k2, rfl, hka, hkb, hrow.below hV⟩
        have glt : decide ((j : Int) < ((n - 2 : Nat) : Int)) = false := by simp; omega
        have hHl : H.length ≤ 3 := by rw [← HC.out]; omega
        have q0 := q0.out _ HS.out
        have q1 := q1.out _ HS.out
        clear HO hO hrow HR HF HN
        go_wp2_with (go_at_call 25; refine (HT.out _ _ HS.out (HVA.out _ (Below.refl _ _))).mono ?_; rintro e w2 ⟨rfl, j2⟩; obtain ⟨x', y', hb2, z0, z1, f0, f1⟩ := j2.open_)
        have Z := put_two hb2 (.int .u8 (R.kind : Int)) (.int .u32 (R.n : Int))
        refine bodyPost_ret (v := .tuple #[.agg #[.int .u8 R.kind, .int .u32 R.n], .int .i64 ((2 + H.length : Nat) : Int)]) (by simp [results, Tryd.results18, go_sem, Z.1, Z.2]) rfl ⟨rfl, (j2.put _ _).1⟩
  · have gm : decide ((n : Int) < 2 + 3) = true := by simp; omega
    go_enter Tryd.func18, Tryd.ntmps18
    go_wp2_with (first | (go_at_call 16; refine (HF.out _ (HA.out _ _)).mono ?_; rintro e w' ⟨rfl, rfl⟩) | (go_at_call 27; refine (HN.out _).mono ?_; rintro e w' ⟨rfl, rfl⟩))
    go_loopw [8, 41] (fun v i wr => ∃ j : Nat, j ≤ cnt ∧ i = .int .i64 j ∧ Hid (OwnL wr (w.heap.size + 1 + 1) v (H.take j)) ∧ Hid (ExtW w c wr)) (fun _ i _ => cnt - (RowKit.intOf i).toNat)
    case atStart => exact ⟨0, Nat.zero_le _, rfl, Lib.hid ⟨by simp [intsV], Or.inl ⟨rfl, by simp⟩⟩, hS0⟩
    case round =>
      obtain ⟨j, hj, rfl, HO, HS⟩ := hrel
      rename_i wr
      by_cases hlt : j < cnt
      · obtain ⟨B', m', D', hcell, hfirst, hb1, hb2⟩ := HR.out j hlt
        have hcell := hcell _ HS.out.1
        have HFj := Lib.hid hfirst
        have HT2 := Lib.hid (heads_succ H j (by rw [← HC.out]; exact hlt))
        have hlen2 : (H.take j).length = j := by rw [List.length_take, ← HC.out]; omega
        have glt : decide ((j : Int) < ((n - 2 : Nat) : Int)) = true := by simp; omega
        have hz := HS.out.size
        generalize partV H j = x at *
        clear hfirst
        go_wp2_with (first | (go_at_call 16; refine (HFj.out _ HS.out.1).mono ?_; rintro e w' ⟨rfl, rfl⟩) | (at_builtin; refine wpList_append_own _ rfl (.tmp 45) (.tmp 48) 36 rfl (w.heap.size + 1 + 1) 3 i0 (.int .i64 0) 1 8 Tryd.underlying36 HI.out HZ0.out HZ1.out HZ2.out rfl (by decide) _ _ _ rfl (World.ownsRow.alloc HO.out _) ⟨wr.heap.size, 0, none⟩ 1 1 [.int .i64 x] rfl rfl ?c1 ?c2 ?c3 ?c4 ?c5 ?_))
        case c1 => exact one_new wr _ _
        case c2 => intro u hu; simp at hu; subst hu; rfl
        case c3 => unfold maxLen; omega
        case c4 => omega
        case c5 => simp; omega
        intro v' w1 hown' hg _
        have HO2 := Lib.hid (show OwnL w1 (w.heap.size + 1 + 1) v' (H.take (j + 1)) from by
          rw [HT2.out]
          unfold OwnL intsV
          rw [List.map_append, List.length_append, hlen2]
          exact hown')
        have HS2 := Lib.hid ((HS.out.below ((Below.refl _ _).alloc (Nat.le_refl _) _)).grown hg (own_ge HO.out))
        clear hown' hg HO HS
        go_wp2
        go_roundw
        case rel => exact ⟨j + 1, by omega, by go_num, HO2, HS2⟩
        case measure => simp [intOf]; omega
      · have hjc : j = cnt := by omega
        have hO := HO.out
        rw [List.take_of_length_le (by rw [← HC.out]; omega)] at hO
        obtain ⟨A2, k2, rfl, hka, hkb, hrow⟩ := own_vals hO HBd.out
        have HVA : Hid (∀ V, Below wr.heap.size wr V → ValsAre V (.slice A2 H.length k2) H) := Lib.hid fun V hV => ⟨A2, k2, rfl, hka, hkb, hrow.below hV⟩
        have glt : decide ((j : Int) < ((n - 2 : Nat) : Int)) = false := by simp; omega
        have hHl : H.length ≤ 3 := by rw [← HC.out]; omega
        have q0 := q0.out _ HS.out
        have q1 := q1.out _ HS.out
        clear HO hO hrow HR HF HN
        go_wp2_with (go_at_call 25; refine (HT.out _ _ HS.out (HVA.out _ (Below.refl _ _))).mono ?_; rintro e w2 ⟨rfl, j2⟩; obtain ⟨x', y', hb2, z0, z1, f0, f1⟩ := j2.open_)
        have Z := put_two hb2 (.int .u8 (R.kind : Int)) (.int .u32 (R.n : Int))
        refine bodyPost_ret (v := .tuple #[.agg #[.int .u8 R.kind, .int .u32 R.n], .int .i64 ((2 + H.length : Nat) : Int)]) (by simp [results, Tryd.results18, go_sem, Z.1, Z.2]) rfl ⟨rfl, (j2.put _ _).1⟩
  · have gm : decide ((n : Int) < 2 + 3) = false := by simp; omega
    go_enter Tryd.func18, Tryd.ntmps18
    go_wp2_with (first | (go_at_call 16; refine (HF.out _ (HA.out _ _)).mono ?_; rintro e w' ⟨rfl, rfl⟩) | (go_at_call 27; refine (HN.out _).mono ?_; rintro e w' ⟨rfl, rfl⟩))
    go_loopw [8, 41] (fun v i wr => ∃ j : Nat, j ≤ cnt ∧ i = .int .i64 j ∧ Hid (OwnL wr (w.heap.size + 1 + 1) v (H.take j)) ∧ Hid (ExtW w c wr)) (fun _ i _ => cnt - (RowKit.intOf i).toNat)
    case atStart => exact ⟨0, Nat.zero_le _, rfl, Lib.hid ⟨by simp [intsV], Or.inl ⟨rfl, by simp⟩⟩, hS0⟩
    case round =>
      obtain ⟨j, hj, rfl, HO, HS⟩ := hrel
      rename_i wr
      by_cases hlt : j < cnt
      · obtain ⟨B', m', D', hcell, hfirst, hb1, hb2⟩ := HR.out j hlt
        have hcell := hcell _ HS.out.1
        have HFj := Lib.hid hfirst
        have HT2 := Lib.hid (heads_succ H j (by rw [← HC.out]; exact hlt))
        have hlen2 : (H.take j).length = j := by rw [List.length_take, ← HC.out]; omega
        have glt : decide ((j : Int) < 3) = true := by simp; omega
        have hz := HS.out.size
        generalize partV H j = x at *
        clear hfirst
        go_wp2_with (first | (go_at_call 16; refine (HFj.out _ HS.out.1).mono ?_; rintro e w' ⟨rfl, rfl⟩) | (at_builtin; refine wpList_append_own _ rfl (.tmp 45) (.tmp 48) 36 rfl (w.heap.size + 1 + 1) 3 i0 (.int .i64 0) 1 8 Tryd.underlying36 HI.out HZ0.out HZ1.out HZ2.out rfl (by decide) _ _ _ rfl (World.ownsRow.alloc HO.out _) ⟨wr.heap.size, 0, none⟩ 1 1 [.int .i64 x] rfl rfl ?c1 ?c2 ?c3 ?c4 ?c5 ?_))
        case c1 => exact one_new wr _ _
        case c2 => intro u hu; simp at hu; subst hu; rfl
        case c3 => unfold maxLen; omega
        case c4 => omega
        case c5 => simp; omega
        intro v' w1 hown' hg _
        have HO2 := Lib.hid (show OwnL w1 (w.heap.size + 1 + 1) v' (H.take (j + 1)) from by
          rw [HT2.out]
          unfold OwnL intsV
          rw [List.map_append, List.length_append, hlen2]
          exact hown')
        have HS2 := Lib.hid ((HS.out.below ((Below.refl _ _).alloc (Nat.le_refl _) _)).grown hg (own_ge HO.out))
        clear hown' hg HO HS
        go_wp2
        go_roundw
        case rel => exact ⟨j + 1, by omega, by go_num, HO2, HS2⟩
        case measure => simp [intOf]; omega
      · have hjc : j = cnt := by omega
        have hO := HO.out
        rw [List.take_of_length_le (by rw [← HC.out]; omega)] at hO
        obtain ⟨A2, k2, rfl, hka, hkb, hrow⟩ := own_vals hO HBd.out
        have HVA : Hid (∀ V, Below wr.heap.size wr V → ValsAre V (.slice A2 H.length k2) H) := Lib.hid fun V hV => ⟨A2, k2, rfl, hka, hkb, hrow.below hV⟩
        have glt : decide ((j : Int) < 3) = false := by simp; omega
        have hHl : H.length ≤ 3 := by rw [← HC.out]; omega
        have q0 := q0.out _ HS.out
        have q1 := q1.out _ HS.out
        clear HO hO hrow HR HF HN
        go_wp2_with (go_at_call 25; refine (HT.out _ _ HS.out (HVA.out _ (Below.refl _ _))).mono ?_; rintro e w2 ⟨rfl, j2⟩; obtain ⟨x', y', hb2, z0, z1, f0, f1⟩ := j2.open_)
        have Z := put_two hb2 (.int .u8 (R.kind : Int)) (.int .u32 (R.n : Int))
        refine bodyPost_ret (v := .tuple #[.agg #[.int .u8 R.kind, .int .u32 R.n], .int .i64 ((2 + H.length : Nat) : Int)]) (by simp [results, Tryd.results18, go_sem, Z.1, Z.2]) rfl ⟨rfl, (j2.put _ _).1⟩

theorem extended_any (c : Co) (p : List Int) (l : List (List Int)) (A : Option Addr) (n k : Nat) (w : World) (hT : TabL w A (p :: l)) (hn : n = l.length + 1) (hl : n ≤ k) (hk : k ≤ 9223372036854775807) :
    Calls Tryd.prog 18 #[coA c, .slice A n k] w (ExtPost w c p l) := by
  by_cases hp : 1 < p.length
  · exact ext_parts c p l A n k w hT hn hl hk hp
  cases l with
  | nil => exact ext_one c p A n k w hT (by simpa using hn) hl hk hp
  | cons q l =>
    by_cases h5 : partV q 0 = 5
    · exact ext_five c p q l A n k w hT (by simpa using hn) hl hk hp h5
    by_cases h2 : partV q 0 = 2
    · exact ext_two c p q l A n k w hT (by simpa using hn) hl hk hp h2
    · exact ext_other c p q l A n k w hT (by simpa using hn) hl hk hp h5 h2
end Go.Proofs.YtkenaccnmmmooaaDoor.A10
