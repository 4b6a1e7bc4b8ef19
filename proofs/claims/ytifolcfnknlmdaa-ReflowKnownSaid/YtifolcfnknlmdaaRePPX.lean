/- Layer 15: the program's isWidth, counts, fit. Layer 15: the program's cells. -/
import Derived.Test.YtifolcfnknlmdaaReE
import Derived.Test.YtifolcfnknlmdaaReDa
import Derived.Test.YtifolcfnknlmdaaReU
/-! ## Layer 15: the program's isWidth, counts, fit. -/
set_option linter.unusedVariables false
namespace Go.Proofs.Ytifolcfnknlmdaa.Re
open Go.RowKit Go.Proofs.Ytifolcfnknlmdaa.Rw

set_option maxRecDepth 100000 in
set_option maxHeartbeats 1000000 in
theorem pwidth_any (W : Int) (w : World) : Calls Try.prog 21 #[.int .i64 W] w fun e w' => e = .returned (.bool (decide (2 ≤ W ∧ W ≤ 400))) ∧ Below w.heap.size w w' := by
  by_cases h1 : 2 ≤ W
  · have g1 : decide (W ≥ 2) = true := by simpa using h1
    have g1' : decide (2 ≤ W) = true := by simpa using h1
    by_cases h2 : W ≤ 400
    · have g2 : decide (W ≤ 400) = true := by simpa using h2
      rw [show decide (2 ≤ W ∧ W ≤ 400) = true by simp [h1, h2]]
      clear h1 h2
      go_enter Try.func21, Try.ntmps21
      go_wp2
      go_ret
      exact ⟨rfl, Below.refl _ _⟩
    · have g2 : decide (W ≤ 400) = false := by simpa using h2
      rw [show decide (2 ≤ W ∧ W ≤ 400) = false by simp [h2]]
      clear h1 h2
      go_enter Try.func21, Try.ntmps21
      go_wp2
      go_ret
      exact ⟨rfl, Below.refl _ _⟩
  · have g1 : decide (W ≥ 2) = false := by simpa using h1
    have g1' : decide (2 ≤ W) = false := by simpa using h1
    have he : decide (2 ≤ W ∧ W ≤ 400) = false := by simp [h1]
    rw [he]
    clear he h1
    go_enter Try.func21, Try.ntmps21
    go_wp2
    go_ret
    exact ⟨rfl, Below.refl _ _⟩

set_option maxRecDepth 100000 in
set_option maxHeartbeats 1000000 in
theorem counts_any {A : Option Addr} {n c : Nat} (j s : Bool) (w : World) (hn : n ≤ 10000000) : Calls Try.prog 34 #[.agg #[.slice A n c, .bool j, .bool s]] w fun e w' => e = .returned (.int .i64 ((if j && s then n - 1 else n : Nat) : Int)) ∧ Below w.heap.size w w' := by
  have hr : ∀ j s : Bool, ((if j && s then n - 1 else n : Nat) : Int) = if j && s then ((n - 1 : Nat) : Int) else (n : Int) := fun j s => by split <;> rfl
  obtain ⟨q, hq⟩ : ∃ q, q = n - 1 := ⟨_, rfl⟩
  rw [hr, ← hq]
  have z1 : IntKind.i64.wrap ((n : Int) - 1) = (n : Int) - 1 := by rw [IntWalk.i64_in _ (by omega)]
  have z2 : max ((n : Int) - 1) 0 = (q : Int) := by omega
  have z3 : (if (n : Int) - 1 < 0 then (0 : Int) else (n : Int) - 1) = (q : Int) := by split <;> omega
  have HB : Hid (Below w.heap.size w (w.alloc (.cells #[.slice A n c, .bool j, .bool s] 30))) := Lib.hid ((Below.refl _ _).alloc (Nat.le_refl _) _)
  clear hq hr
  cases j <;> cases s
  all_goals
    go_enter Try.func34, Try.ntmps34
    go_wp2
    go_ret
    exact ⟨rfl, HB.out⟩

/-- How many of the cells go into a line. -/
def fitV (W : Nat) (l : List Ce) : Nat := if l.length < W then l.length else if wdC (l.getD (W - 1) blC) then W - 1 else W
theorem fit_le (W : Nat) (l : List Ce) : fitV W l ≤ l.length ∧ fitV W l ≤ W := by
  unfold fitV
  split
  · omega
  · split <;> omega
theorem cell_getD (l : List Ce) (k : Nat) (h : k < l.length) : l.getD k blC = cellV l k := by
  unfold cellV
  rw [List.getD_eq_getElem?_getD, List.getD_eq_getElem?_getD, List.getElem?_eq_getElem h]
  rfl
set_option maxRecDepth 100000 in
set_option maxHeartbeats 1000000 in
theorem fit_any {A : Option Addr} {n c : Nat} {l : List Ce} (W : Nat) (h2 : 2 ≤ W) (h4 : W ≤ 400) (w : World) (h : Lies w (.slice A n c) l) : Calls Try.prog 32 #[.slice A n c, .int .i64 (W : Int)] w fun e w' => e = .returned (.int .i64 (fitV W l : Int)) ∧ Below w.heap.size w w' := by
  obtain ⟨hn, -, -, hR⟩ := h.row
  unfold fitV
  by_cases h1 : l.length < W
  · rw [if_pos h1, ← hn]
    have g1 : decide ((n : Int) < (W : Int)) = true := by simp; omega
    have g1' : decide (n < W) = true := by simp; omega
    clear h hR h1 hn
    go_enter Try.func32, Try.ntmps32
    go_wp2
    go_ret
    exact ⟨rfl, Below.refl _ _⟩
  · rw [if_neg h1]
    obtain ⟨k, rfl⟩ : ∃ k, W = k + 1 := ⟨W - 1, by omega⟩
    have g1 : decide ((n : Int) < ((k + 1 : Nat) : Int)) = false := by simp; omega
    have g1' : decide (n < k + 1) = false := by simp; omega
    have z1 : IntKind.i64.wrap (((k + 1 : Nat) : Int) - 1) = (k : Int) := by rw [IntWalk.i64_in _ (by omega)]; omega
    obtain ⟨b, o, rfl, hb, p0, p1, p2, p3, p4, p5, p6⟩ := hR.at_ (k := k) (by omega)
    have i1 := idx_cell b o n c k (by omega)
    rw [Nat.add_sub_cancel, cell_getD l k (by omega)]
    generalize cellV l k = x at *
    obtain ⟨xr, xw, ⟨xa, xb, xc, xd, xe⟩⟩ := x
    dsimp only at p0 p1 p2 p3 p4 p5 p6 ⊢
    have hwd : wdC ⟨xr, xw, ⟨xa, xb, xc, xd, xe⟩⟩ = decide (xw = 1) := by unfold wdC; dsimp only; by_cases e : xw = 1 <;> simp [e]
    rw [hwd]
    have e1 : ((xw : Int) == (1 : Int)) = decide (xw = 1) := by by_cases e : xw = 1 <;> simp [e]; omega
    obtain ⟨N, hN⟩ : ∃ N, N = k + 1 := ⟨_, rfl⟩
    rw [← hN] at g1 g1' z1 ⊢
    by_cases h3 : xw = 1
    · rw [decide_eq_true h3] at e1 ⊢
      clear h1 hwd h3 h hR hb p0 p2 p3 p4 p5 p6 hN hn
      go_enter Try.func32, Try.ntmps32
      go_wp2
      go_ret
      exact ⟨rfl, Below.refl _ _⟩
    · rw [decide_eq_false h3] at e1 ⊢
      clear h1 hwd h3 h hR hb p0 p2 p3 p4 p5 p6 hN hn
      go_enter Try.func32, Try.ntmps32
      go_wp2
      go_ret
      exact ⟨rfl, Below.refl _ _⟩
end Go.Proofs.Ytifolcfnknlmdaa.Re

/-! ## Layer 15: the program's cells. -/
set_option linter.unusedVariables false
namespace Go.Proofs.Ytifolcfnknlmdaa.Re
open Go.RowKit Go.Proofs.Ytifolcfnknlmdaa.Rw

/-- The cells of a paragraph's lines. -/
def allC (p : List LnC) : List Ce := p.flatMap cnt
theorem allC_take (p : List LnC) (k : Nat) (h : k < p.length) : allC (p.take (k + 1)) = allC (p.take k) ++ cnt (p.getD k noLn) := by
  unfold allC
  rw [List.take_add_one, List.flatMap_append, List.getD_eq_getElem?_getD, List.getElem?_eq_getElem h]
  simp
theorem sumV_le : ∀ (p : List LnC), (allC p).length ≤ sumV p
  | [] => by simp [allC, sumV]
  | a :: r => by
    have h1 := sumV_le r
    have h2 : (cnt a).length ≤ a.cells.length := by rw [cnt_take, List.length_take]; omega
    rw [sum_cons]
    unfold allC at h1 ⊢
    rw [List.flatMap_cons, List.length_append]
    omega
/-- A block of a local variable, beside what came in. -/
structure Loc (w : World) (g : Nat) (a : Array Value) (T : TypeId) (V : World) : Prop where
  bel : Below w.heap.size w V
  blk : V.heap[g]? = some (.cells a T (0, 0))
theorem Loc.lt {w V : World} {g : Nat} {a : Array Value} {T : TypeId} (h : Loc w g a T V) : g < V.heap.size := blk_lt h.blk
theorem Loc.below {w V V' : World} {g : Nat} {a : Array Value} {T : TypeId} (h : Loc w g a T V) (hb : Below V.heap.size V V') : Loc w g a T V' := ⟨h.bel.trans (hb.mono h.bel.size), (hb.block g h.lt).trans h.blk⟩
theorem Loc.drew {w V : World} {g : Nat} {a : Array Value} {T : TypeId} (h : Loc w g a T V) : Loc w g a T V.drew := h.below (below_drew (Below.refl _ _) 1)
theorem Loc.new {w W : World} (h : Below w.heap.size w W) (a : Array Value) (T : TypeId) : Loc w W.heap.size a T (W.alloc (.cells a T)) := ⟨h.alloc h.size _, heap_alloc_new W _⟩
theorem Loc.grown {w V V' : World} {g : Nat} {a : Array Value} {T : TypeId} (h : Loc w g a T V) {r : Option Nat} (hg : V.grownBy V' r) (hr : ∀ q, r = some q → w.heap.size ≤ q ∧ q ≠ g) : Loc w g a T V' := ⟨h.bel.grown hg h.bel.size (fun q e => (hr q e).1), (hg.block g h.lt (fun e => (hr g e.symm).2 rfl)).trans h.blk⟩
theorem Loc.cell {w V : World} {g : Nat} {a : Array Value} {T : TypeId} (h : Loc w g a T V) (i : Nat) : V.cell? ⟨g, i, none⟩ = a[i]? := cell_of h.blk i
set_option maxRecDepth 100000 in
set_option maxHeartbeats 8000000 in
theorem cells_any {F : Nat → Prop} {v : Value} {p : List LnC} {w : World} (h : LinesAt F w v p) (hl : p.length ≤ 100000) (hs : sumV p ≤ 100000) : Calls Try.prog 24 #[v] w fun e w' => ∃ u, e = .returned u ∧ OwnC w' w.heap.size u (trim blC (allC p)) ∧ Below w.heap.size w w' := by
  obtain ⟨A, c, rfl, -⟩ := id h
  obtain ⟨n, hn⟩ : ∃ n, n = p.length := ⟨_, rfl⟩
  rw [← hn] at h hl ⊢
  have HL := Lib.hid h
  have HN := Lib.hid hn
  have HS := Lib.hid hs
  clear h hn hs
  go_enter Try.func24, Try.ntmps24
  go_wp2
  go_loopw [3, 9] (fun vc i wr => ∃ (k : Nat) (wz : World) (vz : Value), wz = wr ∧ vz = vc ∧ k ≤ n ∧ i = .int .i64 k ∧ Hid (OwnC wz w.heap.size vz (allC (p.take k)) ∧ Below w.heap.size w wz)) (fun _ i _ => n - (RowKit.intOf i).toNat)
  case atStart => exact ⟨0, _, _, rfl, rfl, Nat.zero_le _, rfl, Lib.hid ⟨own_none _ _, Below.refl _ _⟩⟩
  case round =>
    obtain ⟨k, W, vc, rfl, rfl, hk, rfl, HO⟩ := hrel
    by_cases hlt : k < n
    · have glt : decide ((k : Int) < (n : Int)) = true := by simp; omega
      obtain ⟨b, o, u, rfl, -, hb, q0, q1, q2, r0⟩ := HL.out.at_ hlt
      obtain ⟨A', c', rfl, -⟩ := id r0.1
      obtain ⟨N, hN⟩ : ∃ N, N = (p.getD k noLn).cells.length := ⟨_, rfl⟩
      obtain ⟨M, hM⟩ : ∃ M, M = cntN (p.getD k noLn) := ⟨_, rfl⟩
      have hMN : M ≤ N := by rw [hM, hN]; exact cntN_le _
      have hNs : N ≤ 100000 := by
        have h1 := sum_drop p k
        rw [drop_at (by rw [← HN.out]; exact hlt), sum_cons, ← hN] at h1
        have := HS.out
        omega
      rw [← hN] at q0 r0
      have i1 := idx_line b o n c k hlt
      have hup := upto_cells r0.1 M hMN
      have i2 := hup.1
      have d0 := (HO.out.2.cell (p := ⟨b, o + k * 3, none⟩) hb).trans q0
      have d1 := (HO.out.2.cell (p := ⟨b, o + k * 3 + 1, none⟩) hb).trans q1
      have d2 := (HO.out.2.cell (p := ⟨b, o + k * 3 + 2, none⟩) hb).trans q2
      obtain ⟨J, hJ⟩ : ∃ J, J = (p.getD k noLn).joined := ⟨_, rfl⟩
      obtain ⟨Sh, hSh⟩ : ∃ J, J = (p.getD k noLn).short := ⟨_, rfl⟩
      rw [← hJ] at d1
      rw [← hSh] at d2
      have HLi := Lib.hid hup.2
      have HLn : Hid ((p.getD k noLn).cells.take M = cnt (p.getD k noLn)) := Lib.hid (by rw [cnt_take, hM])
      have HLl : Hid (((p.getD k noLn).cells.take M).length = M) := Lib.hid (by rw [List.length_take, ← hN]; omega)
      have HAc : Hid ((allC (p.take (k + 1))) = allC (p.take k) ++ cnt (p.getD k noLn)) := Lib.hid (allC_take p k (by rw [← HN.out]; exact hlt))
      have HSm : Hid ((allC (p.take k)).length + M ≤ 100000) := Lib.hid (by
        have h1 := sumV_le (p.take (k + 1))
        have h2 : sumV (p.take (k + 1)) ≤ sumV p := by
          have := sum_append (p.take (k + 1)) (p.drop (k + 1))
          rw [List.take_append_drop] at this
          omega
        rw [HAc.out, ← HLn.out, List.length_append, HLl.out] at h1
        have := HS.out
        omega)
      have KC : Hid (∀ g V, Loc w g #[.slice A' N c', .bool J, .bool Sh] 30 V → Calls Try.prog 34 #[.agg #[.slice A' N c', .bool J, .bool Sh]] V fun e w' => e = .returned (.int .i64 (M : Int)) ∧ Below V.heap.size V w' ∧ Loc w g #[.slice A' N c', .bool J, .bool Sh] 30 w') := Lib.hid (fun g V hV => by
        refine (counts_any (A := A') (c := c') J Sh V (n := N) (by omega)).mono fun e w' ⟨he, hb⟩ => ⟨?_, hb, hV.below hb⟩
        rw [he, hM, cntN, ← hN, hJ, hSh])
      have kd := (Loc.new HO.out.2 #[.slice A' N c', .bool J, .bool Sh] 30).drew
      obtain ⟨acc, hacc⟩ : ∃ acc, acc = allC (p.take k) := ⟨_, rfl⟩
      have HOl : Hid (OwnC (W.alloc (.cells #[.slice A' N c', .bool J, .bool Sh] 30)).drew w.heap.size vc acc ∧ ∀ q, vc.ownBlock = some q → q ≠ W.heap.size) := Lib.hid ⟨own_below (B := W.heap.size) (by rw [hacc]; exact HO.out.1) (below_drew ((Below.refl _ _).alloc (Nat.le_refl _) _) 1) (Nat.le_refl _), fun q e h => by have := own_lt HO.out.1 q e; omega⟩
      rw [← hacc] at HAc HSm
      have HF0 : Hid (∀ g V, Loc w g #[.slice A' N c', .bool J, .bool Sh] 30 V → V.cell? ⟨g, 0, none⟩ = some (.slice A' N c') ∧ V.cell? ⟨g, 1, none⟩ = some (.bool J) ∧ V.cell? ⟨g, 2, none⟩ = some (.bool Sh)) := Lib.hid fun g V hV => ⟨hV.cell 0, hV.cell 1, hV.cell 2⟩
      have Q0 := fun (V : World) (hV : Loc w W.heap.size #[.slice A' N c', .bool J, .bool Sh] 30 V) => (HF0.out _ V hV).1
      have Q1 := fun (V : World) (hV : Loc w W.heap.size #[.slice A' N c', .bool J, .bool Sh] 30 V) => (HF0.out _ V hV).2.1
      have Q2 := fun (V : World) (hV : Loc w W.heap.size #[.slice A' N c', .bool J, .bool Sh] 30 V) => (HF0.out _ V hV).2.2
      have HLb := Lib.hid (fun (V : World) (hV : Below w.heap.size w V) => HLi.out.below hV)
      clear hup q0 q1 q2 r0 hN hM hJ hSh hMN hb hacc HL HLi HF0 HO hNs
      generalize (p.getD k noLn).cells.take M = cs at *
      go_wp2_with fail
      go_region_held3 (fun V => Loc w W.heap.size #[.slice A' N c', .bool J, .bool Sh] 30 V) (assumption)
        (first
          | (go_at_call 34; (with_reducible refine (KC.out _ _ (by assumption)).mono ?_); rintro e v1 ⟨rfl, j1, j2⟩)
          | (refine step_append_cells rfl (.tmp 13) (.tmp 18) rfl w.heap.size _ (.slice A' M c') acc cs (by simp [Act.eval]) (own_below HOl.out.1 j1 (Nat.le_refl _)) (by simp [Act.eval]) (HLb.out _ j2.bel) (by have := HLl.out; have := HSm.out; omega) j2.bel.size ?_; intro A2 R c2 w2 hR0 ho2 gr2; have hRh := Lib.hid hR0; clear hR0; have j3 : Loc w W.heap.size #[.slice A' N c', .bool J, .bool Sh] 30 w2 := j2.grown gr2 (fun q e => ⟨own_ge HOl.out.1 q e, HOl.out.2 q e⟩)))
      have HO2 : Hid (OwnC w2 w.heap.size (.slice A2 R c2) (allC (p.take (k + 1))) ∧ Below w.heap.size w w2) := Lib.hid ⟨by rw [HAc.out, ← HLn.out]; exact ho2, j3.bel⟩
      clear Q0 Q1 Q2 KC HLn HLl HAc HSm HOl HLb hRh ho2 gr2 j1 j2 j3 kd i1 i2 d0 d1 d2
      go_wp2
      go_roundw
      case rel => exact ⟨k + 1, _, _, rfl, rfl, hlt, by go_num, HO2⟩
      case measure => simp [RowKit.intOf]; omega
    · have hkn : k = n := by omega
      have glt : decide ((k : Int) < (n : Int)) = false := by simp; omega
      have hOl := HO.out.1
      have hBl := HO.out.2
      rw [hkn, HN.out, List.take_length] at hOl
      obtain ⟨P, hP⟩ : ∃ P, P = allC p := ⟨_, rfl⟩
      rw [← hP] at hOl
      obtain ⟨A2, c2, rfl, -⟩ := id (own_lies hOl)
      obtain ⟨R, hR⟩ : ∃ R, R = P.length := ⟨_, rfl⟩
      rw [← hR] at hOl
      have hR3 : R ≤ 100000 := by rw [hR, hP]; exact Nat.le_trans (sumV_le p) HS.out
      have HW := Lib.hid (And.intro hOl hBl)
      have HPl := Lib.hid hR
      have HPa := Lib.hid hP
      rw [← hR]
      clear hOl hBl HO hkn hP hR HL HS hk
      go_wp2
      go_loopw [6] (fun ec wr => ∃ m : Nat, W = wr ∧ m ≤ R ∧ ec = .int .i64 m ∧ Hid (trim blC (P.take m) = trim blC P)) (fun ec _ => (RowKit.intOf ec).toNat)
      case atStart => exact ⟨R, rfl, Nat.le_refl _, rfl, Lib.hid (by rw [List.take_of_length_le (by rw [HPl.out]; exact Nat.le_refl _)])⟩
      case round =>
        obtain ⟨m, rfl, hm, rfl, HT⟩ := hrel
        have hli := own_lies HW.out.1
        -- what is answered
        have HE : Hid (P.take m = trim blC P → OwnC W w.heap.size (.slice A2 m c2) (trim blC (allC p)) ∧ Below w.heap.size w W) := Lib.hid (fun e => by
          refine ⟨?_, HW.out.2⟩
          rw [← HPa.out, ← e]
          by_cases hmR : m = R
          · rw [hmR, HPl.out, List.take_length, ← HPl.out]; exact HW.out.1
          · exact ownC_take HW.out.1 m (by rw [← HPl.out]; exact hm) (by omega))
        have s3 := (upto_cells hli m hm).1
        by_cases h0 : m = 0
        · subst h0
          have gt0 : decide (((0 : Nat) : Int) > 0) = false := rfl
          have HE2 := Lib.hid (HE.out (by rw [← HT.out]; rfl))
          clear hli HE HT
          go_wp2
          go_ret
          exact ⟨_, rfl, HE2.out⟩
        · obtain ⟨m1, rfl⟩ : ∃ m1, m = m1 + 1 := ⟨m - 1, by omega⟩
          have gt0 : decide (((m1 + 1 : Nat) : Int) > 0) = true := decide_eq_true (by omega)
          have gt0' : decide (0 < m1 + 1) = true := decide_eq_true (by omega)
          have zm : IntKind.i64.wrap (((m1 + 1 : Nat) : Int) - 1) = (m1 : Int) := by rw [IntWalk.i64_in _ (by omega)]; omega
          obtain ⟨b3, o3, rfl, hb3, p0, p1, p2, p3, p4, p5, p6⟩ := hli.row.2.2.2.at_ (k := m1) (by rw [← HPl.out]; omega)
          have i3 := idx_cell b3 o3 R c2 m1 (by omega)
          have E1 : ∀ V, (binOp .eql 38 (ceV (cellV P m1)) (.agg #[.int .i32 32, .int .u8 0, .int .u16 0, .int .u8 0, .int .u32 0, .int .u8 0, .int .u32 0])).run Try.prog V = .ok (.bool (decide (cellV P m1 = blC))) V := fun V => eq_cell (cellV P m1) blC V
          by_cases hbl : cellV P m1 = blC
          · rw [decide_eq_true hbl] at E1
            have HT2 : Hid (trim blC (P.take m1) = trim blC P) := Lib.hid (by rw [← HT.out, trim_less P m1 (by rw [← HPl.out]; omega) hbl])
            generalize cellV P m1 = x at *
            obtain ⟨xr, xw, ⟨xa, xb, xc, xd, xe⟩⟩ := x
            dsimp only at p0 p1 p2 p3 p4 p5 p6
            obtain ⟨N3, hN3⟩ : ∃ N3, N3 = m1 + 1 := ⟨_, rfl⟩
            have HN3 := Lib.hid hN3
            rw [← hN3] at gt0 gt0' zm s3 ⊢
            clear hli HE HT hbl hN3 hb3
            go_wp2
            go_roundw
            case rel => exact ⟨m1, by trivial, by have := HN3.out; omega, rfl, HT2⟩
            case measure => have := HN3.out; simp [RowKit.intOf]; omega
          · rw [decide_eq_false hbl] at E1
            have HE2 := Lib.hid (HE.out (by rw [← HT.out, trim_keep P m1 (by rw [← HPl.out]; omega) hbl]))
            generalize cellV P m1 = x at *
            obtain ⟨xr, xw, ⟨xa, xb, xc, xd, xe⟩⟩ := x
            dsimp only at p0 p1 p2 p3 p4 p5 p6
            obtain ⟨N3, hN3⟩ : ∃ N3, N3 = m1 + 1 := ⟨_, rfl⟩
            have HN3 := Lib.hid hN3
            rw [← hN3] at gt0 gt0' zm s3 HE2 ⊢
            clear hli HE HT hbl hN3 hb3
            go_wp2
            go_ret
            exact ⟨_, rfl, HE2.out⟩
end Go.Proofs.Ytifolcfnknlmdaa.Re
