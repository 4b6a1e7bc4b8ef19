/- Layer 15: the document's At: a paragraph at a width, and where each cell stands. Written by gen_at.py. -/
import Derived.Test.YtifolcfnknlmdaaReH
import Derived.Test.YtifolcfnknlmdaaRwC
set_option linter.unusedVariables false
namespace Go.Proofs.Ytifolcfnknlmdaa.Re
open Go.RowKit Go.Proofs.Ytifolcfnknlmdaa.Rw

/-- What At answers. -/
def AtPost (w : World) (W : Nat) (cells : List Ce) (e : Ending) (w' : World) : Prop := ∃ o va, e = .returned (.tuple #[o, va]) ∧ LinesAt (fun b => w.heap.size ≤ b) w' o (lay blC wdC W cells) ∧ OwnG 73 2 w' w.heap.size va (pairsOf (posV W cells cells.length)) ∧ Below w.heap.size w w'
theorem idx_open (g n c k : Nat) (hk : k < n) (W : World) : (Instr.indexAt 48 (.slice (some ⟨g, 0, none⟩) n c) (.int .i64 (k : Int))).run Try.prog W = .ok (.pointer (some ⟨g, k * 3, none⟩)) W := by
  have := idx_given g 0 n c k hk W
  rwa [Nat.zero_add] at this
theorem at_start (w : World) : AState w.heap.size (w.alloc (.cells #[.slice none 0 0, .bool false, .bool false] tLine)) w.heap.size 1 1 (.slice none 0 0) [] (w.alloc (.cells #[.slice none 0 0, .bool false, .bool false] tLine)).heap.size (.slice none 0 0) false false [] [] [] :=
  ⟨⟨rfl, Or.inr ⟨_, 1, _, rfl, Nat.le_refl _, heap_alloc_new w _, by decide, by decide, rfl, rfl⟩⟩, rfl, fun k hk => by simp at hk, fun k hk => by simp at hk, own_none _ _, ⟨by simp, Nat.le_refl _⟩, ownG_none _ _⟩
/-- The state between two cells. -/
structure ARel (w wz : World) (W : Nat) (cells : List Ce) (i : Nat) (g c : Nat) (va : Value) (rs : List Raw) (So : Nat) (uo : Value) (done : List LnC) (cur : List Ce) : Prop where
  st : AState w.heap.size wz g (rs.length + 1) c va rs So uo false false done cur (posV W cells i)
  fold : foldV W cells i = (done, cur)
  old : Below w.heap.size w wz
  small : rs.length ≤ i
set_option maxRecDepth 100000 in
set_option maxHeartbeats 8000000 in
theorem at_any {A : Option Addr} {N C : Nat} {cells : List Ce} {w : World} (h : Lies w (.slice A N C) cells) (hN : N ≤ 100000) (W : Nat) (hW2 : 2 ≤ W) (hW4 : W ≤ 400) : Calls Try.prog 30 #[.slice A N C, .int .i64 (W : Int)] w (AtPost w W cells) := by
  have HL := Lib.hid h
  have hNl : N = cells.length := h.row.1
  have HNl := Lib.hid hNl
  obtain ⟨W1, hW1⟩ : ∃ W1, W = W1 + 1 := ⟨W - 1, by omega⟩
  have HW1 := Lib.hid hW1
  have zw : IntKind.i64.wrap ((W : Int) - 1) = (W1 : Int) := by rw [IntWalk.i64_in _ (by omega)]; omega
  have H0 : Hid (ARel w (w.alloc (.cells #[.slice none 0 0, .bool false, .bool false] tLine)) W cells 0 w.heap.size 1 (.slice none 0 0) [] (w.alloc (.cells #[.slice none 0 0, .bool false, .bool false] tLine)).heap.size (.slice none 0 0) [] []) := Lib.hid ⟨at_start w, rfl, (Below.refl _ _).alloc (Nat.le_refl _) _, Nat.le_refl _⟩
  clear h hNl hW1
  go_enter Try.func30, Try.ntmps30
  go_wp2
  go_loopw [6, 7, 8, 9, 10] (fun vo va vi vk vn wr => ∃ (i g c : Nat) (rs : List Raw) (So : Nat) (uo : Value) (done : List LnC) (cur : List Ce) (wz : World) (vz : Value), wz = wr ∧ vz = va ∧ i ≤ N ∧ vi = .int .i64 i ∧ vo = .slice (some ⟨g, 0, none⟩) (rs.length + 1) c ∧ Hid (ARel w wz W cells i g c vz rs So uo done cur)) (fun _ _ vi _ _ _ => N - (RowKit.intOf vi).toNat)
  case atStart => exact ⟨0, _, _, [], _, _, _, _, _, _, rfl, rfl, Nat.zero_le _, rfl, rfl, H0⟩
  case round =>
    obtain ⟨i, g, c, rs, So, uo, done, cur, wr, va, rfl, rfl, hi, rfl, rfl, HR⟩ := hrel
    obtain ⟨m, hm⟩ : ∃ m, m = cur.length := ⟨_, rfl⟩
    obtain ⟨K, hK⟩ : ∃ K, K = rs.length := ⟨_, rfl⟩
    obtain ⟨A0, c0, rfl⟩ : ∃ A0 c0, uo = .slice A0 m c0 := by rw [hm]; exact HR.out.st.slice_
    have hlc := last_cells HR.out.st.out
    rw [← hK] at hlc ⊢
    have HK := Lib.hid hK
    have Hm := Lib.hid hm
    have hKi : K ≤ i := by rw [hK]; exact HR.out.small
    have zk : IntKind.i64.wrap (((K + 1 : Nat) : Int) - 1) = (K : Int) := by rw [IntWalk.i64_in _ (by omega)]; omega
    obtain ⟨n, hn⟩ : ∃ n, n = K + 1 := ⟨_, rfl⟩
    have hx := idx_open g n c K (by omega)
    have l0 := hlc.2.2.2.1
    have l1 := hlc.2.2.2.2.1
    have l2 := hlc.2.2.2.2.2.1
    have lf := hlc.2.2.2.2.2.2
    rw [← hn] at zk ⊢
    have Hn := Lib.hid hn
    have hn5 : n ≤ 100001 := by omega
    have hmW : m ≤ W := by
      have h5 := (fold_open W hW2 cells i).1
      rw [HR.out.fold] at h5
      rw [hm]
      exact h5
    clear hlc hK hm hn
    by_cases hlt : i < N
    · have glt : decide ((i : Int) < (N : Int)) = true := by simp; omega
      obtain ⟨b, o, rfl, hb, p0, p1, p2, p3, p4, p5, p6⟩ := HL.out.row.2.2.2.at_ (k := i) (by rw [← HNl.out]; exact hlt)
      have ix := idx_cell b o N C i hlt
      have P0 := fun (V : World) (hV : Below w.heap.size w V) => (hV.cell hb).trans p0
      have P1 := fun (V : World) (hV : Below w.heap.size w V) => (hV.cell hb).trans p1
      have P2 := fun (V : World) (hV : Below w.heap.size w V) => (hV.cell hb).trans p2
      have P3 := fun (V : World) (hV : Below w.heap.size w V) => (hV.cell hb).trans p3
      have P4 := fun (V : World) (hV : Below w.heap.size w V) => (hV.cell hb).trans p4
      have P5 := fun (V : World) (hV : Below w.heap.size w V) => (hV.cell hb).trans p5
      have P6 := fun (V : World) (hV : Below w.heap.size w V) => (hV.cell hb).trans p6
      have q1 := P1 wr HR.out.old
      have HC : Hid (foldV W cells (i + 1) = step blC wdC W (done, cur) (cellV cells i)) := Lib.hid (by rw [← HR.out.fold]; exact fold_next W cells i (by rw [← HNl.out]; exact hlt))
      have HCl : Hid (i < cells.length) := Lib.hid (by rw [← HNl.out]; exact hlt)
      generalize cellV cells i = x at *
      obtain ⟨xr, xw, ⟨xa, xb, xc, xd, xe⟩⟩ := x
      dsimp only at q1 P0 P1 P2 P3 P4 P5 P6
      clear p0 p1 p2 p3 p4 p5 p6 hb
      have hways : (m = W1 ∧ xw = 1) ∨ m = W ∨ (m ≠ W ∧ (m ≠ W1 ∨ (m = W1 ∧ xw ≠ 1))) := by
        by_cases e1 : m = W1
        · by_cases e2 : xw = 1
          · exact Or.inl ⟨e1, e2⟩
          · exact Or.inr (Or.inr ⟨by have := HW1.out; omega, Or.inr ⟨e1, e2⟩⟩)
        · by_cases e3 : m = W
          · exact Or.inr (Or.inl e3)
          · exact Or.inr (Or.inr ⟨e3, Or.inl e1⟩)
      rcases hways with ⟨e1, e2⟩ | e1 | ⟨e1, e2⟩
      · have HSt : Hid (step blC wdC W (done, cur) ⟨xr, xw, ⟨xa, xb, xc, xd, xe⟩⟩ = (done ++ [⟨cur ++ [⟨32, 0, zeroAa⟩], true, true⟩], [] ++ [⟨xr, xw, ⟨xa, xb, xc, xd, xe⟩⟩])) := Lib.hid (by
          unfold step
          rw [if_pos ⟨by have := Hm.out; have := HW1.out; dsimp only; omega, by simp [wdC, e2]⟩]
          rfl)
        have g1 : ((m : Int) == (W1 : Int)) = true := by simp; omega
        have g3 : ((xw : Int) == 1) = true := by simp; omega
        have HOA := Lib.hid (own_below (w' := wr.alloc (.cells (cellsC ⟨32, 0, zeroAa⟩).toArray 38)) HR.out.st.opn ((Below.refl _ _).alloc (Nat.le_refl _) _) (Nat.le_refl _))
        have HOne := Lib.hid (one_lies wr ⟨32, 0, zeroAa⟩)
        have hcb : cur.length ≤ 100000 := by have := Hm.out; omega
        have hsb : So ≤ wr.heap.size := HR.out.st.bs.2
        clear e1 e2
        go_wp2_with (at_builtin; refine append_cells _ rfl (.tmp 47) (.tmp 49) rfl So _ _ cur [⟨32, 0, zeroAa⟩] rfl HOA.out rfl HOne.out (by simp; omega) (by simp; omega) ?_)
        intro v' w2 ho2 gr2
        obtain ⟨A2, N2, c2, rfl⟩ : ∃ A2 N2 c2, v' = .slice A2 N2 c2 := by obtain ⟨A', c', e, -⟩ := own_lies ho2; exact ⟨_, _, _, e⟩
        have R2 := HR.out.st.grow ho2 gr2
        have hB2 := HR.out.st.grown_at gr2 HR.out.old HR.out.old.size
        have l0 := R2.2.1
        have l1 := R2.2.2.1
        have l2 := R2.2.2.2.1
        have lf := R2.2.2.2.2
        have hg := HR.out.st.gt.1
        have St2 := R2.1.store 2 (.bool true) (by omega) (uo' := .slice A2 N2 c2) (j' := false) (s' := true) rfl R2.1.opn
        have St1 := St2.store 1 (.bool true) (by omega) (uo' := .slice A2 N2 c2) (j' := true) (s' := true) rfl St2.opn
        have HB1 : Hid (Below w.heap.size w (((w2.setCell ⟨g, K * 3, none⟩ (.slice A2 N2 c2)).setCell ⟨g, K * 3 + 2, none⟩ (.bool true)).setCell ⟨g, K * 3 + 1, none⟩ (.bool true))) := Lib.hid (((hB2.setCell (p := ⟨g, K * 3, none⟩) hg _).setCell (p := ⟨g, K * 3 + 2, none⟩) hg _).setCell (p := ⟨g, K * 3 + 1, none⟩) hg _)
        have eK := HK.out
        rw [← eK] at l0 l1 l2
        have St1 : AState w.heap.size (((w2.setCell ⟨g, K * 3, none⟩ (.slice A2 N2 c2)).setCell ⟨g, K * 3 + 2, none⟩ (.bool true)).setCell ⟨g, K * 3 + 1, none⟩ (.bool true)) g (rs.length + 1) c va rs So (.slice A2 N2 c2) true true done (cur ++ [⟨32, 0, zeroAa⟩]) (posV W cells i) := by rw [eK]; exact St1
        clear ho2 gr2 R2 hB2 St2 eK HOA HOne
        have hal1 : Below (((w2.setCell ⟨g, K * 3, none⟩ (.slice A2 N2 c2)).setCell ⟨g, K * 3 + 2, none⟩ (.bool true)).setCell ⟨g, K * 3 + 1, none⟩ (.bool true)).heap.size (((w2.setCell ⟨g, K * 3, none⟩ (.slice A2 N2 c2)).setCell ⟨g, K * 3 + 2, none⟩ (.bool true)).setCell ⟨g, K * 3 + 1, none⟩ (.bool true)) ((((w2.setCell ⟨g, K * 3, none⟩ (.slice A2 N2 c2)).setCell ⟨g, K * 3 + 2, none⟩ (.bool true)).setCell ⟨g, K * 3 + 1, none⟩ (.bool true)).alloc (.cells #[.slice none 0 0, .bool false, .bool false] tLine)) := (Below.refl _ _).alloc (Nat.le_refl _) _
        have HSt1 := Lib.hid St1
        have HOut : Hid (OwnL tLine ((((w2.setCell ⟨g, K * 3, none⟩ (.slice A2 N2 c2)).setCell ⟨g, K * 3 + 2, none⟩ (.bool true)).setCell ⟨g, K * 3 + 1, none⟩ (.bool true)).alloc (.cells #[.slice none 0 0, .bool false, .bool false] tLine)) w.heap.size (.slice (some ⟨g, 0, none⟩) n c) (rs ++ [⟨(.slice A2 N2 c2), true, true⟩])) := Lib.hid (by
          have h0 := (St1.below hal1).out
          rwa [show rs.length + 1 = n from by rw [Hn.out, HK.out]] at h0)
        have HBs := Lib.hid (HB1.out.alloc HB1.out.size (.cells #[.slice none 0 0, .bool false, .bool false] tLine))
        have HRw := Lib.hid (one_raw (T := tLine) (((w2.setCell ⟨g, K * 3, none⟩ (.slice A2 N2 c2)).setCell ⟨g, K * 3 + 2, none⟩ (.bool true)).setCell ⟨g, K * 3 + 1, none⟩ (.bool true)) ⟨.slice none 0 0, false, false⟩)
        have hl14 : (rs ++ [(⟨(.slice A2 N2 c2), true, true⟩ : Raw)]).length ≤ 1000000 := by rw [List.length_append, List.length_singleton, ← HK.out]; omega
        obtain ⟨K9, hK9⟩ : ∃ K9, K9 = K + 1 := ⟨_, rfl⟩
        have zk9 : IntKind.i64.wrap ((K : Int) + 1) = (K9 : Int) := by rw [IntWalk.i64_in _ (by omega)]; omega
        have HK9 : Hid (K9 = (rs ++ [(⟨(.slice A2 N2 c2), true, true⟩ : Raw)]).length) := Lib.hid (by rw [List.length_append, List.length_singleton, ← HK.out, hK9])
        have Hs9 : Hid ((rs ++ [(⟨(.slice A2 N2 c2), true, true⟩ : Raw)]).length ≤ i + 1) := Lib.hid (by rw [List.length_append, List.length_singleton, ← HK.out]; omega)
        have hK9i : K9 ≤ i + 1 := by omega
        clear hal1 St1 hK9 HB1 HR
        go_wp2_with (at_builtin; refine append_line lineDoc _ rfl (.tmp 65) (.tmp 67) rfl w.heap.size (.slice (some ⟨g, 0, none⟩) n c) (rs ++ [(⟨(.slice A2 N2 c2), true, true⟩ : Raw)]) (⟨.slice none 0 0, false, false⟩ : Raw) ⟨((((w2.setCell ⟨g, K * 3, none⟩ (.slice A2 N2 c2)).setCell ⟨g, K * 3 + 2, none⟩ (.bool true)).setCell ⟨g, K * 3 + 1, none⟩ (.bool true))).heap.size, 0, none⟩ (by simp [Act.eval]) HOut.out (by simp [Act.eval]) HRw.out rfl hl14 HBs.out.size ?_)
        intro g9 c9 V9 o9 gr9
        have HB9 : Hid (Below w.heap.size w V9) := Lib.hid (HBs.out.grown gr9 HBs.out.size fun b e => (ownL_ge HOut.out b e).1)
        have o9' : OwnL tLine V9 w.heap.size (.slice (some ⟨g9, 0, none⟩) (rs.length + 1 + 1) c9) ((rs ++ [⟨(.slice A2 N2 c2), true, true⟩]) ++ [⟨.slice none 0 0, false, false⟩]) := by
          have h0 := o9
          simpa using h0
        have S9 := HSt1.out.next o9' gr9
        have hl9 : (rs ++ [(⟨(.slice A2 N2 c2), true, true⟩ : Raw)]).length = rs.length + 1 := by rw [List.length_append, List.length_singleton]
        obtain ⟨rs9, hrs9⟩ : ∃ r9, r9 = rs ++ [(⟨(.slice A2 N2 c2), true, true⟩ : Raw)] := ⟨_, rfl⟩
        rw [← hrs9] at S9 HK9 Hs9 hl9
        obtain ⟨n9, hn9⟩ : ∃ n9, rs.length + 1 + 1 = n9 := ⟨_, rfl⟩
        rw [hn9] at S9 ⊢
        have hn9' : n9 = rs9.length + 1 := by rw [hl9]; exact hn9.symm
        have Hn9 := Lib.hid hn9'
        have hgo := S9.gt
        obtain ⟨So9, hSo9⟩ : ∃ S9, S9 = V9.heap.size := ⟨_, rfl⟩
        rw [← hSo9] at S9
        have HSt9 := Lib.hid S9
        have hlc9 := last_cells S9.out
        have e9 := HK9.out
        rw [← e9] at hlc9
        have l90 := hlc9.2.2.2.1
        have l9f := hlc9.2.2.2.2.2.2
        have hx9 := idx_open g9 n9 c9 K9 (by rw [hn9', e9]; omega)
        have hcl9 : ([] : List Ce).length ≤ 100000 := by simp
        have Hc9 : Hid (([] : List Ce).length ≤ W) := Lib.hid (Nat.zero_le _)
        have Hm9 : Hid (0 = ([] : List Ce).length) := Lib.hid rfl
        obtain ⟨done9, hd9⟩ : ∃ d9, d9 = done ++ [(⟨(cur ++ [⟨32, 0, zeroAa⟩]), true, true⟩ : LnC)] := ⟨_, rfl⟩
        rw [← hd9] at HSt9 HSt
        clear o9 gr9 o9' hl9 hrs9 hn9 hn9' hgo hSo9 S9 hlc9 e9 hd9 HOut HBs HRw hl14 HSt1 l0 l1 l2 lf hx
        go_wp2
        have HSd := Lib.hid (HSt9.out.below (below_drew (Below.refl _ _) 1))
        have hk0 := HK9.out
        have dl := last_cells HSd.out.out
        rw [← hk0] at dl
        have d0 := dl.2.2.2.1
        have hg9 := HSd.out.gt
        have d0' : (V9.alloc (.cells #[.int .i32 xr, .int .u8 (xw : Int), .int .u16 (xa : Int), .int .u8 (xb : Int), .int .u32 (xc : Int), .int .u8 (xd : Int), .int .u32 (xe : Int)] 38)).drew.cell? ⟨g9, K9 * 3, none⟩ = some (.slice none 0 0) := (((Below.refl _ _).alloc (Nat.le_refl _) _ : Below V9.drew.heap.size V9.drew _).cell (p := ⟨g9, K9 * 3, none⟩) hg9.2).trans d0
        have kd := below_drew HB9.out 1
        have HOA := Lib.hid (own_below (w' := V9.drew.alloc (.cells (cellsC ⟨xr, xw, ⟨xa, xb, xc, xd, xe⟩⟩).toArray 38)) HSd.out.opn ((Below.refl _ _).alloc (Nat.le_refl _) _) (Nat.le_refl _))
        have HOne := Lib.hid (one_lies V9.drew ⟨xr, xw, ⟨xa, xb, xc, xd, xe⟩⟩)
        have Hg9 := Lib.hid hg9
        have hcl9 : ([] : List Ce).length ≤ 100000 := by have := Hc9.out; omega
        have hSo9 : So9 ≤ V9.drew.heap.size := HSd.out.bs.2
        clear dl hg9 hk0
        refine wp_region_held_drew (S := fun V => Below w.heap.size w V) (by kernel_rfl) ?_ (fun hHeld => ?_)
        · exact kd
        refine wpAnyH_take (i := 0) (oi := { dst := some 71, op := Op.move (Operand.tmp 6), type := 48, pos := "ref.go:67", after := #[], guard := none }) (v := ?_) rfl (by kernel_rfl) (by kernel_rfl) (by kernel_rfl) (fun _ _ _ h => h) (Or.inl ⟨by rfl, ?_⟩) (by assumption) ?_
        rotate_left
        · intro w hSw
          try dsimp only at hSw
          go_simp <;> with_reducible rfl
        try simp only [Act.put, List.setIfInBounds_toArray, List.set_cons_zero, List.set_cons_succ]
        refine wpAnyH_take (i := 1) (oi := { dst := some 72, op := Op.move (Operand.tmp 9), type := 3, pos := "ref.go:67", after := #[], guard := none }) (v := ?_) rfl (by kernel_rfl) (by kernel_rfl) (by kernel_rfl) (fun _ _ _ h => h) (Or.inl ⟨by rfl, ?_⟩) (by assumption) ?_
        rotate_left
        · intro w hSw
          try dsimp only at hSw
          go_simp <;> with_reducible rfl
        try simp only [Act.put, List.setIfInBounds_toArray, List.set_cons_zero, List.set_cons_succ]
        refine wpAnyH_take (i := 2) (oi := { dst := some 73, op := Op.move (Operand.tmp 6), type := 48, pos := "ref.go:67", after := #[], guard := none }) (v := ?_) rfl (by kernel_rfl) (by kernel_rfl) (by kernel_rfl) (fun _ _ _ h => h) (Or.inl ⟨by rfl, ?_⟩) (by assumption) ?_
        rotate_left
        · intro w hSw
          try dsimp only at hSw
          go_simp <;> with_reducible rfl
        try simp only [Act.put, List.setIfInBounds_toArray, List.set_cons_zero, List.set_cons_succ]
        refine wpAnyH_take (i := 3) (oi := { dst := some 74, op := Op.move (Operand.tmp 9), type := 3, pos := "ref.go:67", after := #[], guard := none }) (v := ?_) rfl (by kernel_rfl) (by kernel_rfl) (by kernel_rfl) (fun _ _ _ h => h) (Or.inl ⟨by rfl, ?_⟩) (by assumption) ?_
        rotate_left
        · intro w hSw
          try dsimp only at hSw
          go_simp <;> with_reducible rfl
        try simp only [Act.put, List.setIfInBounds_toArray, List.set_cons_zero, List.set_cons_succ]
        refine wpAnyH_take (i := 4) (oi := { dst := some 75, op := Op.indexAddr 48 (Operand.tmp 73) (Operand.tmp 74), type := 0, pos := "ref.go:67", after := #[{ on := 2, ground := Ground.data }, { on := 3, ground := Ground.data }], guard := none }) (v := ?_) rfl (by kernel_rfl) (by kernel_rfl) (by kernel_rfl) (fun _ _ _ h => h) (Or.inl ⟨by rfl, ?_⟩) (by assumption) ?_
        rotate_left
        · intro w hSw
          try dsimp only at hSw
          go_simp <;> with_reducible rfl
        try simp only [Act.put, List.setIfInBounds_toArray, List.set_cons_zero, List.set_cons_succ]
        refine wpAnyH_take (i := 5) (oi := { dst := some 76, op := Op.fieldAddr 71 (Operand.tmp 75) 0, type := 0, pos := "ref.go:67", after := #[{ on := 4, ground := Ground.data }], guard := none }) (v := ?_) rfl (by kernel_rfl) (by kernel_rfl) (by kernel_rfl) (fun _ _ _ h => h) (Or.inl ⟨by rfl, ?_⟩) (by assumption) ?_
        rotate_left
        · intro w hSw
          try dsimp only at hSw
          go_simp <;> with_reducible rfl
        try simp only [Act.put, List.setIfInBounds_toArray, List.set_cons_zero, List.set_cons_succ]
        refine wpAnyH_take (i := 7) (oi := { dst := some 78, op := Op.move (Operand.tmp 0), type := 28, pos := "ref.go:67", after := #[], guard := none }) (v := ?_) rfl (by kernel_rfl) (by kernel_rfl) (by kernel_rfl) (fun _ _ _ h => h) (Or.inl ⟨by rfl, ?_⟩) (by assumption) ?_
        rotate_left
        · intro w hSw
          try dsimp only at hSw
          go_simp <;> with_reducible rfl
        try simp only [Act.put, List.setIfInBounds_toArray, List.set_cons_zero, List.set_cons_succ]
        refine wpAnyH_take (i := 8) (oi := { dst := some 79, op := Op.move (Operand.tmp 8), type := 3, pos := "ref.go:67", after := #[], guard := none }) (v := ?_) rfl (by kernel_rfl) (by kernel_rfl) (by kernel_rfl) (fun _ _ _ h => h) (Or.inl ⟨by rfl, ?_⟩) (by assumption) ?_
        rotate_left
        · intro w hSw
          try dsimp only at hSw
          go_simp <;> with_reducible rfl
        try simp only [Act.put, List.setIfInBounds_toArray, List.set_cons_zero, List.set_cons_succ]
        refine wpAnyH_take (i := 9) (oi := { dst := some 80, op := Op.indexAddr 28 (Operand.tmp 78) (Operand.tmp 79), type := 0, pos := "ref.go:67", after := #[{ on := 7, ground := Ground.data }, { on := 8, ground := Ground.data }], guard := none }) (v := ?_) rfl (by kernel_rfl) (by kernel_rfl) (by kernel_rfl) (fun _ _ _ h => h) (Or.inl ⟨by rfl, ?_⟩) (by assumption) ?_
        rotate_left
        · intro w hSw
          try dsimp only at hSw
          go_simp <;> with_reducible rfl
        try simp only [Act.put, List.setIfInBounds_toArray, List.set_cons_zero, List.set_cons_succ]
        refine wpAnyH_take (i := 10) (oi := { dst := some 81, op := Op.load 38 (Operand.tmp 80), type := 38, pos := "ref.go:67", after := #[{ on := 9, ground := Ground.data }], guard := none }) (v := ?_) rfl (by kernel_rfl) (by kernel_rfl) (by kernel_rfl) (fun _ _ _ h => h) (Or.inl ⟨by rfl, ?_⟩) (by assumption) ?_
        rotate_left
        · intro w hSw
          try dsimp only at hSw
          go_simp <;> with_reducible rfl
        try simp only [Act.put, List.setIfInBounds_toArray, List.set_cons_zero, List.set_cons_succ]
        refine wpAnyH_ready (rs := [6, 11]) (by kernel_rfl) (by simp) ?_
        refine AllReadyH.cons (o := { dst := some 77, op := Op.load 28 (Operand.tmp 76), type := 28, pos := "ref.go:67", after := #[{ on := 5, ground := Ground.data }], guard := none }) rfl (fun Kq hKq => ?_) ?_
        · skip
          go_simp
          refine hKq.out _ _ ?_ (fun hHeld => ?_)
          · assumption
          clear hKq Kq
          try simp only [Act.put, List.setIfInBounds_toArray, List.set_cons_zero, List.set_cons_succ]
          refine wpAnyH_ready (rs := [11]) (by kernel_rfl) (by simp) ?_
          refine AllReadyH.cons (o := { dst := some 82, op := Op.buildSlice 28 1 #[(0, Operand.tmp 81)], type := 28, pos := "ref.go:67", after := #[{ on := 10, ground := Ground.data }], guard := none }) rfl (fun Kq hKq => ?_) AllReadyH.nil
          go_simp
          refine hKq.out _ _ ?_ (fun hHeld => ?_)
          · exact Below.alloc (by assumption) (Below.size (by assumption)) _
          clear hKq Kq
          try simp only [Act.put, List.setIfInBounds_toArray, List.set_cons_zero, List.set_cons_succ]
          refine wpAnyH_ready (rs := [12]) (by kernel_rfl) (by simp) ?_
          refine AllReadyH.cons (o := { dst := some 83, op := Op.call { callee := Callee.builtin Builtin.append, args := #[Operand.tmp 77, Operand.tmp 82], argTypes := #[28, 28] }, type := 28, pos := "ref.go:67", after := #[{ on := 6, ground := Ground.data }, { on := 11, ground := Ground.data }], guard := none }) rfl (fun Kq hKq => ?_) AllReadyH.nil
          refine step_append_cells rfl (.tmp 77) (.tmp 82) rfl So9 _ (.slice (some ⟨V9.drew.heap.size, 0, none⟩) 1 1) ([] : List Ce) [⟨xr, xw, ⟨xa, xb, xc, xd, xe⟩⟩] (by simp [Act.eval]) HOA.out (by simp [Act.eval]) HOne.out (by rw [List.length_singleton]; omega) (by simp; exact Nat.le_trans hSo9 (Nat.le_succ _)) ?_
          intro A5 N5 c5 w5 hN5 ho5 gr5
          have hNh := Lib.hid hN5
          have R5 := HSd.out.grow ho5 gr5
          rw [← HK9.out] at R5
          have j5 := HSd.out.grown_at gr5 kd kd.size
          have k0 := R5.2.1
          have kf := R5.2.2.2.2
          have HR5 := Lib.hid R5.1
          clear hN5 ho5 gr5 R5
          refine hKq.out _ _ ?_ (fun hHeld => ?_)
          · exact j5
          clear hKq Kq
          try simp only [Act.put, List.setIfInBounds_toArray, List.set_cons_zero, List.set_cons_succ]
          refine wpAnyH_take (i := 13) (oi := { dst := some 84, op := Op.indexAddr 48 (Operand.tmp 71) (Operand.tmp 72), type := 0, pos := "ref.go:67", after := #[{ on := 0, ground := Ground.data }, { on := 1, ground := Ground.data }, { on := 0, ground := Ground.phase }, { on := 1, ground := Ground.phase }, { on := 2, ground := Ground.phase }, { on := 3, ground := Ground.phase }, { on := 4, ground := Ground.phase }, { on := 5, ground := Ground.phase }, { on := 6, ground := Ground.phase }, { on := 7, ground := Ground.phase }, { on := 8, ground := Ground.phase }, { on := 9, ground := Ground.phase }, { on := 10, ground := Ground.phase }, { on := 11, ground := Ground.phase }, { on := 12, ground := Ground.phase }], guard := none }) (v := ?_) rfl (by kernel_rfl) (by kernel_rfl) (by kernel_rfl) (fun _ _ _ h => h) (Or.inl ⟨by rfl, ?_⟩) (by assumption) ?_
          rotate_left
          · intro w hSw
            try dsimp only at hSw
            go_simp <;> with_reducible rfl
          try simp only [Act.put, List.setIfInBounds_toArray, List.set_cons_zero, List.set_cons_succ]
          refine wpAnyH_take (i := 14) (oi := { dst := some 85, op := Op.fieldAddr 71 (Operand.tmp 84) 0, type := 0, pos := "ref.go:67", after := #[{ on := 13, ground := Ground.data }, { on := 0, ground := Ground.phase }, { on := 1, ground := Ground.phase }, { on := 2, ground := Ground.phase }, { on := 3, ground := Ground.phase }, { on := 4, ground := Ground.phase }, { on := 5, ground := Ground.phase }, { on := 6, ground := Ground.phase }, { on := 7, ground := Ground.phase }, { on := 8, ground := Ground.phase }, { on := 9, ground := Ground.phase }, { on := 10, ground := Ground.phase }, { on := 11, ground := Ground.phase }, { on := 12, ground := Ground.phase }], guard := none }) (v := ?_) rfl (by kernel_rfl) (by kernel_rfl) (by kernel_rfl) (fun _ _ _ h => h) (Or.inl ⟨by rfl, ?_⟩) (by assumption) ?_
          rotate_left
          · intro w hSw
            try dsimp only at hSw
            go_simp <;> with_reducible rfl
          try simp only [Act.put, List.setIfInBounds_toArray, List.set_cons_zero, List.set_cons_succ]
          refine wpAnyH_ready (rs := [15]) (by kernel_rfl) (by simp) ?_
          refine AllReadyH.cons (o := { dst := none, op := Op.store 28 (Operand.tmp 85) (Operand.tmp 83), type := 0, pos := "ref.go:67", after := #[{ on := 14, ground := Ground.data }, { on := 12, ground := Ground.data }, { on := 12, ground := Ground.chain }, { on := 0, ground := Ground.phase }, { on := 1, ground := Ground.phase }, { on := 2, ground := Ground.phase }, { on := 3, ground := Ground.phase }, { on := 4, ground := Ground.phase }, { on := 5, ground := Ground.phase }, { on := 6, ground := Ground.phase }, { on := 7, ground := Ground.phase }, { on := 8, ground := Ground.phase }, { on := 9, ground := Ground.phase }, { on := 10, ground := Ground.phase }, { on := 11, ground := Ground.phase }, { on := 12, ground := Ground.phase }], guard := none }) rfl (fun Kq hKq => ?_) AllReadyH.nil
          go_simp
          refine hKq.out _ _ ?_ (fun hHeld => ?_)
          · exact j5.setCell (p := ⟨g9, K9 * 3, none⟩) Hg9.out.1 _
          clear hKq Kq
          try simp only [Act.put, List.setIfInBounds_toArray, List.set_cons_zero, List.set_cons_succ]
          refine wpAnyH_done (by kernel_rfl) ?_ _
          have HBe := Lib.hid hHeld
          obtain ⟨V7, hV7⟩ : ∃ V7, w5.setCell ⟨g9, K9 * 3, none⟩ (.slice A5 N5 c5) = V7 := ⟨_, rfl⟩
          rw [hV7] at HR5 HBe
          rw [hV7]
          have hal7 : Below V7.heap.size V7 (V7.alloc (.cells #[.int .i64 (0 : Int), .int .i64 (K9 : Int)] 73)) := (Below.refl _ _).alloc (Nat.le_refl _) _
          have HR6 := Lib.hid (HR5.out.below hal7)
          have HB6 := Lib.hid (HBe.out.alloc HBe.out.size (.cells #[.int .i64 (0 : Int), .int .i64 (K9 : Int)] 73))
          have H6 := Lib.hid (one_el (T := 73) V7 (pairC (0, K9)))
          have hpl : (pairsOf (posV W cells i)).length ≤ 1000000 := by simp [pairsOf, posV]; omega
          clear hHeld hal7 hV7 HSd HOA HOne d0 d0' kd k0 kf j5 HB9 HSt9
          go_wp2_with (at_builtin; refine append_el elPair _ rfl (.tmp 86) (.tmp 90) rfl w.heap.size _ (pairsOf (posV W cells i)) (pairC (0, K9)) ⟨V7.heap.size, 0, none⟩ rfl HR6.out.pos rfl H6.out rfl (by intro u hu; simp only [pairC, List.mem_cons, List.not_mem_nil, or_false] at hu; rcases hu with rfl | rfl <;> rfl) hpl HB6.out.size ?_)
          intro g8 c8 w8 o8 gr8
          have hKd : K9 = done9.length := by rw [HK9.out]; exact HR5.out.len
          have hpn : posV W cells (i + 1) = posV W cells i ++ [(0, K9)] := by
            have h0 := pos_next W hW2 cells i HCl.out (HC.out.trans HSt.out)
            rw [h0, ← Hm9.out, ← hKd]
          have HRel : Hid (ARel w w8 W cells (i + 1) g9 c9 (.slice (some ⟨g8, 0, none⟩) ((pairsOf (posV W cells i)).length + 1) c8) rs9 So9 (.slice A5 N5 c5) done9 (([] : List Ce) ++ [⟨xr, xw, ⟨xa, xb, xc, xd, xe⟩⟩])) := Lib.hid ⟨by
            rw [hpn]
            have h0 := HR5.out.place (q := (0, K9)) (by rw [pairs_snoc]; exact o8) gr8
            rw [HK9.out] at h0 ⊢
            first
              | exact h0
              | (rw [Hn9.out] at h0; exact h0), HC.out.trans HSt.out, grownG HB6.out gr8 HR6.out.pos HB6.out.size (Nat.le_refl _), Hs9.out⟩
          generalize Value.slice (some ⟨g8, 0, none⟩) ((pairsOf (posV W cells i)).length + 1) c8 = va8 at *
          clear o8 gr8 hpn hKd HR5 HR6 HB6 H6 hpl HBe
          go_wp2
          go_roundw
          case rel => exact ⟨i + 1, _, _, _, _, _, _, _, _, _, rfl, rfl, by omega, by go_num, by rw [Hn9.out], HRel⟩
          case measure => simp [RowKit.intOf]; omega
        refine AllReadyH.cons (o := { dst := some 82, op := Op.buildSlice 28 1 #[(0, Operand.tmp 81)], type := 28, pos := "ref.go:67", after := #[{ on := 10, ground := Ground.data }], guard := none }) rfl (fun Kq hKq => ?_) ?_
        · skip
          go_simp
          refine hKq.out _ _ ?_ (fun hHeld => ?_)
          · exact Below.alloc (by assumption) (Below.size (by assumption)) _
          clear hKq Kq
          try simp only [Act.put, List.setIfInBounds_toArray, List.set_cons_zero, List.set_cons_succ]
          refine wpAnyH_ready (rs := [6]) (by kernel_rfl) (by simp) ?_
          refine AllReadyH.cons (o := { dst := some 77, op := Op.load 28 (Operand.tmp 76), type := 28, pos := "ref.go:67", after := #[{ on := 5, ground := Ground.data }], guard := none }) rfl (fun Kq hKq => ?_) AllReadyH.nil
          go_simp
          refine hKq.out _ _ ?_ (fun hHeld => ?_)
          · assumption
          clear hKq Kq
          try simp only [Act.put, List.setIfInBounds_toArray, List.set_cons_zero, List.set_cons_succ]
          refine wpAnyH_ready (rs := [12]) (by kernel_rfl) (by simp) ?_
          refine AllReadyH.cons (o := { dst := some 83, op := Op.call { callee := Callee.builtin Builtin.append, args := #[Operand.tmp 77, Operand.tmp 82], argTypes := #[28, 28] }, type := 28, pos := "ref.go:67", after := #[{ on := 6, ground := Ground.data }, { on := 11, ground := Ground.data }], guard := none }) rfl (fun Kq hKq => ?_) AllReadyH.nil
          refine step_append_cells rfl (.tmp 77) (.tmp 82) rfl So9 _ (.slice (some ⟨V9.drew.heap.size, 0, none⟩) 1 1) ([] : List Ce) [⟨xr, xw, ⟨xa, xb, xc, xd, xe⟩⟩] (by simp [Act.eval]) HOA.out (by simp [Act.eval]) HOne.out (by rw [List.length_singleton]; omega) (by simp; exact Nat.le_trans hSo9 (Nat.le_succ _)) ?_
          intro A5 N5 c5 w5 hN5 ho5 gr5
          have hNh := Lib.hid hN5
          have R5 := HSd.out.grow ho5 gr5
          rw [← HK9.out] at R5
          have j5 := HSd.out.grown_at gr5 kd kd.size
          have k0 := R5.2.1
          have kf := R5.2.2.2.2
          have HR5 := Lib.hid R5.1
          clear hN5 ho5 gr5 R5
          refine hKq.out _ _ ?_ (fun hHeld => ?_)
          · exact j5
          clear hKq Kq
          try simp only [Act.put, List.setIfInBounds_toArray, List.set_cons_zero, List.set_cons_succ]
          refine wpAnyH_take (i := 13) (oi := { dst := some 84, op := Op.indexAddr 48 (Operand.tmp 71) (Operand.tmp 72), type := 0, pos := "ref.go:67", after := #[{ on := 0, ground := Ground.data }, { on := 1, ground := Ground.data }, { on := 0, ground := Ground.phase }, { on := 1, ground := Ground.phase }, { on := 2, ground := Ground.phase }, { on := 3, ground := Ground.phase }, { on := 4, ground := Ground.phase }, { on := 5, ground := Ground.phase }, { on := 6, ground := Ground.phase }, { on := 7, ground := Ground.phase }, { on := 8, ground := Ground.phase }, { on := 9, ground := Ground.phase }, { on := 10, ground := Ground.phase }, { on := 11, ground := Ground.phase }, { on := 12, ground := Ground.phase }], guard := none }) (v := ?_) rfl (by kernel_rfl) (by kernel_rfl) (by kernel_rfl) (fun _ _ _ h => h) (Or.inl ⟨by rfl, ?_⟩) (by assumption) ?_
          rotate_left
          · intro w hSw
            try dsimp only at hSw
            go_simp <;> with_reducible rfl
          try simp only [Act.put, List.setIfInBounds_toArray, List.set_cons_zero, List.set_cons_succ]
          refine wpAnyH_take (i := 14) (oi := { dst := some 85, op := Op.fieldAddr 71 (Operand.tmp 84) 0, type := 0, pos := "ref.go:67", after := #[{ on := 13, ground := Ground.data }, { on := 0, ground := Ground.phase }, { on := 1, ground := Ground.phase }, { on := 2, ground := Ground.phase }, { on := 3, ground := Ground.phase }, { on := 4, ground := Ground.phase }, { on := 5, ground := Ground.phase }, { on := 6, ground := Ground.phase }, { on := 7, ground := Ground.phase }, { on := 8, ground := Ground.phase }, { on := 9, ground := Ground.phase }, { on := 10, ground := Ground.phase }, { on := 11, ground := Ground.phase }, { on := 12, ground := Ground.phase }], guard := none }) (v := ?_) rfl (by kernel_rfl) (by kernel_rfl) (by kernel_rfl) (fun _ _ _ h => h) (Or.inl ⟨by rfl, ?_⟩) (by assumption) ?_
          rotate_left
          · intro w hSw
            try dsimp only at hSw
            go_simp <;> with_reducible rfl
          try simp only [Act.put, List.setIfInBounds_toArray, List.set_cons_zero, List.set_cons_succ]
          refine wpAnyH_ready (rs := [15]) (by kernel_rfl) (by simp) ?_
          refine AllReadyH.cons (o := { dst := none, op := Op.store 28 (Operand.tmp 85) (Operand.tmp 83), type := 0, pos := "ref.go:67", after := #[{ on := 14, ground := Ground.data }, { on := 12, ground := Ground.data }, { on := 12, ground := Ground.chain }, { on := 0, ground := Ground.phase }, { on := 1, ground := Ground.phase }, { on := 2, ground := Ground.phase }, { on := 3, ground := Ground.phase }, { on := 4, ground := Ground.phase }, { on := 5, ground := Ground.phase }, { on := 6, ground := Ground.phase }, { on := 7, ground := Ground.phase }, { on := 8, ground := Ground.phase }, { on := 9, ground := Ground.phase }, { on := 10, ground := Ground.phase }, { on := 11, ground := Ground.phase }, { on := 12, ground := Ground.phase }], guard := none }) rfl (fun Kq hKq => ?_) AllReadyH.nil
          go_simp
          refine hKq.out _ _ ?_ (fun hHeld => ?_)
          · exact j5.setCell (p := ⟨g9, K9 * 3, none⟩) Hg9.out.1 _
          clear hKq Kq
          try simp only [Act.put, List.setIfInBounds_toArray, List.set_cons_zero, List.set_cons_succ]
          refine wpAnyH_done (by kernel_rfl) ?_ _
          have HBe := Lib.hid hHeld
          obtain ⟨V7, hV7⟩ : ∃ V7, w5.setCell ⟨g9, K9 * 3, none⟩ (.slice A5 N5 c5) = V7 := ⟨_, rfl⟩
          rw [hV7] at HR5 HBe
          rw [hV7]
          have hal7 : Below V7.heap.size V7 (V7.alloc (.cells #[.int .i64 (0 : Int), .int .i64 (K9 : Int)] 73)) := (Below.refl _ _).alloc (Nat.le_refl _) _
          have HR6 := Lib.hid (HR5.out.below hal7)
          have HB6 := Lib.hid (HBe.out.alloc HBe.out.size (.cells #[.int .i64 (0 : Int), .int .i64 (K9 : Int)] 73))
          have H6 := Lib.hid (one_el (T := 73) V7 (pairC (0, K9)))
          have hpl : (pairsOf (posV W cells i)).length ≤ 1000000 := by simp [pairsOf, posV]; omega
          clear hHeld hal7 hV7 HSd HOA HOne d0 d0' kd k0 kf j5 HB9 HSt9
          go_wp2_with (at_builtin; refine append_el elPair _ rfl (.tmp 86) (.tmp 90) rfl w.heap.size _ (pairsOf (posV W cells i)) (pairC (0, K9)) ⟨V7.heap.size, 0, none⟩ rfl HR6.out.pos rfl H6.out rfl (by intro u hu; simp only [pairC, List.mem_cons, List.not_mem_nil, or_false] at hu; rcases hu with rfl | rfl <;> rfl) hpl HB6.out.size ?_)
          intro g8 c8 w8 o8 gr8
          have hKd : K9 = done9.length := by rw [HK9.out]; exact HR5.out.len
          have hpn : posV W cells (i + 1) = posV W cells i ++ [(0, K9)] := by
            have h0 := pos_next W hW2 cells i HCl.out (HC.out.trans HSt.out)
            rw [h0, ← Hm9.out, ← hKd]
          have HRel : Hid (ARel w w8 W cells (i + 1) g9 c9 (.slice (some ⟨g8, 0, none⟩) ((pairsOf (posV W cells i)).length + 1) c8) rs9 So9 (.slice A5 N5 c5) done9 (([] : List Ce) ++ [⟨xr, xw, ⟨xa, xb, xc, xd, xe⟩⟩])) := Lib.hid ⟨by
            rw [hpn]
            have h0 := HR5.out.place (q := (0, K9)) (by rw [pairs_snoc]; exact o8) gr8
            rw [HK9.out] at h0 ⊢
            first
              | exact h0
              | (rw [Hn9.out] at h0; exact h0), HC.out.trans HSt.out, grownG HB6.out gr8 HR6.out.pos HB6.out.size (Nat.le_refl _), Hs9.out⟩
          generalize Value.slice (some ⟨g8, 0, none⟩) ((pairsOf (posV W cells i)).length + 1) c8 = va8 at *
          clear o8 gr8 hpn hKd HR5 HR6 HB6 H6 hpl HBe
          go_wp2
          go_roundw
          case rel => exact ⟨i + 1, _, _, _, _, _, _, _, _, _, rfl, rfl, by omega, by go_num, by rw [Hn9.out], HRel⟩
          case measure => simp [RowKit.intOf]; omega
        exact AllReadyH.nil
      · have HSt : Hid (step blC wdC W (done, cur) ⟨xr, xw, ⟨xa, xb, xc, xd, xe⟩⟩ = (done ++ [⟨cur, true, false⟩], [] ++ [⟨xr, xw, ⟨xa, xb, xc, xd, xe⟩⟩])) := Lib.hid (by
          unfold step
          rw [if_neg (by have := Hm.out; have := HW1.out; dsimp only; omega), if_pos (by dsimp only; rw [← Hm.out]; exact e1)]
          rfl)
        have g1 : ((m : Int) == (W1 : Int)) = false := by have := HW1.out; simp; omega
        have g2 : ((m : Int) == (W : Int)) = true := by simp; omega
        have hg := HR.out.st.gt.1
        have St0 := HR.out.st.store 1 (.bool true) (by omega) (uo' := .slice A0 m c0) (j' := true) (s' := false) rfl HR.out.st.opn
        have HB1 : Hid (Below w.heap.size w (wr.setCell ⟨g, K * 3 + 1, none⟩ (.bool true))) := Lib.hid (HR.out.old.setCell (p := ⟨g, K * 3 + 1, none⟩) hg _)
        have eK := HK.out
        have St1 : AState w.heap.size (wr.setCell ⟨g, K * 3 + 1, none⟩ (.bool true)) g (rs.length + 1) c va rs So (.slice A0 m c0) true false done cur (posV W cells i) := by rw [eK]; exact St0
        clear e1 St0 eK
        have hal1 : Below (wr.setCell ⟨g, K * 3 + 1, none⟩ (.bool true)).heap.size (wr.setCell ⟨g, K * 3 + 1, none⟩ (.bool true)) ((wr.setCell ⟨g, K * 3 + 1, none⟩ (.bool true)).alloc (.cells #[.slice none 0 0, .bool false, .bool false] tLine)) := (Below.refl _ _).alloc (Nat.le_refl _) _
        have HSt1 := Lib.hid St1
        have HOut : Hid (OwnL tLine ((wr.setCell ⟨g, K * 3 + 1, none⟩ (.bool true)).alloc (.cells #[.slice none 0 0, .bool false, .bool false] tLine)) w.heap.size (.slice (some ⟨g, 0, none⟩) n c) (rs ++ [⟨(.slice A0 m c0), true, false⟩])) := Lib.hid (by
          have h0 := (St1.below hal1).out
          rwa [show rs.length + 1 = n from by rw [Hn.out, HK.out]] at h0)
        have HBs := Lib.hid (HB1.out.alloc HB1.out.size (.cells #[.slice none 0 0, .bool false, .bool false] tLine))
        have HRw := Lib.hid (one_raw (T := tLine) (wr.setCell ⟨g, K * 3 + 1, none⟩ (.bool true)) ⟨.slice none 0 0, false, false⟩)
        have hl14 : (rs ++ [(⟨(.slice A0 m c0), true, false⟩ : Raw)]).length ≤ 1000000 := by rw [List.length_append, List.length_singleton, ← HK.out]; omega
        obtain ⟨K9, hK9⟩ : ∃ K9, K9 = K + 1 := ⟨_, rfl⟩
        have zk9 : IntKind.i64.wrap ((K : Int) + 1) = (K9 : Int) := by rw [IntWalk.i64_in _ (by omega)]; omega
        have HK9 : Hid (K9 = (rs ++ [(⟨(.slice A0 m c0), true, false⟩ : Raw)]).length) := Lib.hid (by rw [List.length_append, List.length_singleton, ← HK.out, hK9])
        have Hs9 : Hid ((rs ++ [(⟨(.slice A0 m c0), true, false⟩ : Raw)]).length ≤ i + 1) := Lib.hid (by rw [List.length_append, List.length_singleton, ← HK.out]; omega)
        have hK9i : K9 ≤ i + 1 := by omega
        clear hal1 St1 hK9 HB1 HR
        go_wp2_with (at_builtin; refine append_line lineDoc _ rfl (.tmp 65) (.tmp 67) rfl w.heap.size (.slice (some ⟨g, 0, none⟩) n c) (rs ++ [(⟨(.slice A0 m c0), true, false⟩ : Raw)]) (⟨.slice none 0 0, false, false⟩ : Raw) ⟨((wr.setCell ⟨g, K * 3 + 1, none⟩ (.bool true))).heap.size, 0, none⟩ (by simp [Act.eval]) HOut.out (by simp [Act.eval]) HRw.out rfl hl14 HBs.out.size ?_)
        intro g9 c9 V9 o9 gr9
        have HB9 : Hid (Below w.heap.size w V9) := Lib.hid (HBs.out.grown gr9 HBs.out.size fun b e => (ownL_ge HOut.out b e).1)
        have o9' : OwnL tLine V9 w.heap.size (.slice (some ⟨g9, 0, none⟩) (rs.length + 1 + 1) c9) ((rs ++ [⟨(.slice A0 m c0), true, false⟩]) ++ [⟨.slice none 0 0, false, false⟩]) := by
          have h0 := o9
          simpa using h0
        have S9 := HSt1.out.next o9' gr9
        have hl9 : (rs ++ [(⟨(.slice A0 m c0), true, false⟩ : Raw)]).length = rs.length + 1 := by rw [List.length_append, List.length_singleton]
        obtain ⟨rs9, hrs9⟩ : ∃ r9, r9 = rs ++ [(⟨(.slice A0 m c0), true, false⟩ : Raw)] := ⟨_, rfl⟩
        rw [← hrs9] at S9 HK9 Hs9 hl9
        obtain ⟨n9, hn9⟩ : ∃ n9, rs.length + 1 + 1 = n9 := ⟨_, rfl⟩
        rw [hn9] at S9 ⊢
        have hn9' : n9 = rs9.length + 1 := by rw [hl9]; exact hn9.symm
        have Hn9 := Lib.hid hn9'
        have hgo := S9.gt
        obtain ⟨So9, hSo9⟩ : ∃ S9, S9 = V9.heap.size := ⟨_, rfl⟩
        rw [← hSo9] at S9
        have HSt9 := Lib.hid S9
        have hlc9 := last_cells S9.out
        have e9 := HK9.out
        rw [← e9] at hlc9
        have l90 := hlc9.2.2.2.1
        have l9f := hlc9.2.2.2.2.2.2
        have hx9 := idx_open g9 n9 c9 K9 (by rw [hn9', e9]; omega)
        have hcl9 : ([] : List Ce).length ≤ 100000 := by simp
        have Hc9 : Hid (([] : List Ce).length ≤ W) := Lib.hid (Nat.zero_le _)
        have Hm9 : Hid (0 = ([] : List Ce).length) := Lib.hid rfl
        obtain ⟨done9, hd9⟩ : ∃ d9, d9 = done ++ [(⟨cur, true, false⟩ : LnC)] := ⟨_, rfl⟩
        rw [← hd9] at HSt9 HSt
        clear o9 gr9 o9' hl9 hrs9 hn9 hn9' hgo hSo9 S9 hlc9 e9 hd9 HOut HBs HRw hl14 HSt1 l0 l1 l2 lf hx
        go_wp2
        have HSd := Lib.hid (HSt9.out.below (below_drew (Below.refl _ _) 1))
        have hk0 := HK9.out
        have dl := last_cells HSd.out.out
        rw [← hk0] at dl
        have d0 := dl.2.2.2.1
        have hg9 := HSd.out.gt
        have d0' : (V9.alloc (.cells #[.int .i32 xr, .int .u8 (xw : Int), .int .u16 (xa : Int), .int .u8 (xb : Int), .int .u32 (xc : Int), .int .u8 (xd : Int), .int .u32 (xe : Int)] 38)).drew.cell? ⟨g9, K9 * 3, none⟩ = some (.slice none 0 0) := (((Below.refl _ _).alloc (Nat.le_refl _) _ : Below V9.drew.heap.size V9.drew _).cell (p := ⟨g9, K9 * 3, none⟩) hg9.2).trans d0
        have kd := below_drew HB9.out 1
        have HOA := Lib.hid (own_below (w' := V9.drew.alloc (.cells (cellsC ⟨xr, xw, ⟨xa, xb, xc, xd, xe⟩⟩).toArray 38)) HSd.out.opn ((Below.refl _ _).alloc (Nat.le_refl _) _) (Nat.le_refl _))
        have HOne := Lib.hid (one_lies V9.drew ⟨xr, xw, ⟨xa, xb, xc, xd, xe⟩⟩)
        have Hg9 := Lib.hid hg9
        have hcl9 : ([] : List Ce).length ≤ 100000 := by have := Hc9.out; omega
        have hSo9 : So9 ≤ V9.drew.heap.size := HSd.out.bs.2
        clear dl hg9 hk0
        refine wp_region_held_drew (S := fun V => Below w.heap.size w V) (by kernel_rfl) ?_ (fun hHeld => ?_)
        · exact kd
        refine wpAnyH_take (i := 0) (oi := { dst := some 71, op := Op.move (Operand.tmp 6), type := 48, pos := "ref.go:67", after := #[], guard := none }) (v := ?_) rfl (by kernel_rfl) (by kernel_rfl) (by kernel_rfl) (fun _ _ _ h => h) (Or.inl ⟨by rfl, ?_⟩) (by assumption) ?_
        rotate_left
        · intro w hSw
          try dsimp only at hSw
          go_simp <;> with_reducible rfl
        try simp only [Act.put, List.setIfInBounds_toArray, List.set_cons_zero, List.set_cons_succ]
        refine wpAnyH_take (i := 1) (oi := { dst := some 72, op := Op.move (Operand.tmp 9), type := 3, pos := "ref.go:67", after := #[], guard := none }) (v := ?_) rfl (by kernel_rfl) (by kernel_rfl) (by kernel_rfl) (fun _ _ _ h => h) (Or.inl ⟨by rfl, ?_⟩) (by assumption) ?_
        rotate_left
        · intro w hSw
          try dsimp only at hSw
          go_simp <;> with_reducible rfl
        try simp only [Act.put, List.setIfInBounds_toArray, List.set_cons_zero, List.set_cons_succ]
        refine wpAnyH_take (i := 2) (oi := { dst := some 73, op := Op.move (Operand.tmp 6), type := 48, pos := "ref.go:67", after := #[], guard := none }) (v := ?_) rfl (by kernel_rfl) (by kernel_rfl) (by kernel_rfl) (fun _ _ _ h => h) (Or.inl ⟨by rfl, ?_⟩) (by assumption) ?_
        rotate_left
        · intro w hSw
          try dsimp only at hSw
          go_simp <;> with_reducible rfl
        try simp only [Act.put, List.setIfInBounds_toArray, List.set_cons_zero, List.set_cons_succ]
        refine wpAnyH_take (i := 3) (oi := { dst := some 74, op := Op.move (Operand.tmp 9), type := 3, pos := "ref.go:67", after := #[], guard := none }) (v := ?_) rfl (by kernel_rfl) (by kernel_rfl) (by kernel_rfl) (fun _ _ _ h => h) (Or.inl ⟨by rfl, ?_⟩) (by assumption) ?_
        rotate_left
        · intro w hSw
          try dsimp only at hSw
          go_simp <;> with_reducible rfl
        try simp only [Act.put, List.setIfInBounds_toArray, List.set_cons_zero, List.set_cons_succ]
        refine wpAnyH_take (i := 4) (oi := { dst := some 75, op := Op.indexAddr 48 (Operand.tmp 73) (Operand.tmp 74), type := 0, pos := "ref.go:67", after := #[{ on := 2, ground := Ground.data }, { on := 3, ground := Ground.data }], guard := none }) (v := ?_) rfl (by kernel_rfl) (by kernel_rfl) (by kernel_rfl) (fun _ _ _ h => h) (Or.inl ⟨by rfl, ?_⟩) (by assumption) ?_
        rotate_left
        · intro w hSw
          try dsimp only at hSw
          go_simp <;> with_reducible rfl
        try simp only [Act.put, List.setIfInBounds_toArray, List.set_cons_zero, List.set_cons_succ]
        refine wpAnyH_take (i := 5) (oi := { dst := some 76, op := Op.fieldAddr 71 (Operand.tmp 75) 0, type := 0, pos := "ref.go:67", after := #[{ on := 4, ground := Ground.data }], guard := none }) (v := ?_) rfl (by kernel_rfl) (by kernel_rfl) (by kernel_rfl) (fun _ _ _ h => h) (Or.inl ⟨by rfl, ?_⟩) (by assumption) ?_
        rotate_left
        · intro w hSw
          try dsimp only at hSw
          go_simp <;> with_reducible rfl
        try simp only [Act.put, List.setIfInBounds_toArray, List.set_cons_zero, List.set_cons_succ]
        refine wpAnyH_take (i := 7) (oi := { dst := some 78, op := Op.move (Operand.tmp 0), type := 28, pos := "ref.go:67", after := #[], guard := none }) (v := ?_) rfl (by kernel_rfl) (by kernel_rfl) (by kernel_rfl) (fun _ _ _ h => h) (Or.inl ⟨by rfl, ?_⟩) (by assumption) ?_
        rotate_left
        · intro w hSw
          try dsimp only at hSw
          go_simp <;> with_reducible rfl
        try simp only [Act.put, List.setIfInBounds_toArray, List.set_cons_zero, List.set_cons_succ]
        refine wpAnyH_take (i := 8) (oi := { dst := some 79, op := Op.move (Operand.tmp 8), type := 3, pos := "ref.go:67", after := #[], guard := none }) (v := ?_) rfl (by kernel_rfl) (by kernel_rfl) (by kernel_rfl) (fun _ _ _ h => h) (Or.inl ⟨by rfl, ?_⟩) (by assumption) ?_
        rotate_left
        · intro w hSw
          try dsimp only at hSw
          go_simp <;> with_reducible rfl
        try simp only [Act.put, List.setIfInBounds_toArray, List.set_cons_zero, List.set_cons_succ]
        refine wpAnyH_take (i := 9) (oi := { dst := some 80, op := Op.indexAddr 28 (Operand.tmp 78) (Operand.tmp 79), type := 0, pos := "ref.go:67", after := #[{ on := 7, ground := Ground.data }, { on := 8, ground := Ground.data }], guard := none }) (v := ?_) rfl (by kernel_rfl) (by kernel_rfl) (by kernel_rfl) (fun _ _ _ h => h) (Or.inl ⟨by rfl, ?_⟩) (by assumption) ?_
        rotate_left
        · intro w hSw
          try dsimp only at hSw
          go_simp <;> with_reducible rfl
        try simp only [Act.put, List.setIfInBounds_toArray, List.set_cons_zero, List.set_cons_succ]
        refine wpAnyH_take (i := 10) (oi := { dst := some 81, op := Op.load 38 (Operand.tmp 80), type := 38, pos := "ref.go:67", after := #[{ on := 9, ground := Ground.data }], guard := none }) (v := ?_) rfl (by kernel_rfl) (by kernel_rfl) (by kernel_rfl) (fun _ _ _ h => h) (Or.inl ⟨by rfl, ?_⟩) (by assumption) ?_
        rotate_left
        · intro w hSw
          try dsimp only at hSw
          go_simp <;> with_reducible rfl
        try simp only [Act.put, List.setIfInBounds_toArray, List.set_cons_zero, List.set_cons_succ]
        refine wpAnyH_ready (rs := [6, 11]) (by kernel_rfl) (by simp) ?_
        refine AllReadyH.cons (o := { dst := some 77, op := Op.load 28 (Operand.tmp 76), type := 28, pos := "ref.go:67", after := #[{ on := 5, ground := Ground.data }], guard := none }) rfl (fun Kq hKq => ?_) ?_
        · skip
          go_simp
          refine hKq.out _ _ ?_ (fun hHeld => ?_)
          · assumption
          clear hKq Kq
          try simp only [Act.put, List.setIfInBounds_toArray, List.set_cons_zero, List.set_cons_succ]
          refine wpAnyH_ready (rs := [11]) (by kernel_rfl) (by simp) ?_
          refine AllReadyH.cons (o := { dst := some 82, op := Op.buildSlice 28 1 #[(0, Operand.tmp 81)], type := 28, pos := "ref.go:67", after := #[{ on := 10, ground := Ground.data }], guard := none }) rfl (fun Kq hKq => ?_) AllReadyH.nil
          go_simp
          refine hKq.out _ _ ?_ (fun hHeld => ?_)
          · exact Below.alloc (by assumption) (Below.size (by assumption)) _
          clear hKq Kq
          try simp only [Act.put, List.setIfInBounds_toArray, List.set_cons_zero, List.set_cons_succ]
          refine wpAnyH_ready (rs := [12]) (by kernel_rfl) (by simp) ?_
          refine AllReadyH.cons (o := { dst := some 83, op := Op.call { callee := Callee.builtin Builtin.append, args := #[Operand.tmp 77, Operand.tmp 82], argTypes := #[28, 28] }, type := 28, pos := "ref.go:67", after := #[{ on := 6, ground := Ground.data }, { on := 11, ground := Ground.data }], guard := none }) rfl (fun Kq hKq => ?_) AllReadyH.nil
          refine step_append_cells rfl (.tmp 77) (.tmp 82) rfl So9 _ (.slice (some ⟨V9.drew.heap.size, 0, none⟩) 1 1) ([] : List Ce) [⟨xr, xw, ⟨xa, xb, xc, xd, xe⟩⟩] (by simp [Act.eval]) HOA.out (by simp [Act.eval]) HOne.out (by rw [List.length_singleton]; omega) (by simp; exact Nat.le_trans hSo9 (Nat.le_succ _)) ?_
          intro A5 N5 c5 w5 hN5 ho5 gr5
          have hNh := Lib.hid hN5
          have R5 := HSd.out.grow ho5 gr5
          rw [← HK9.out] at R5
          have j5 := HSd.out.grown_at gr5 kd kd.size
          have k0 := R5.2.1
          have kf := R5.2.2.2.2
          have HR5 := Lib.hid R5.1
          clear hN5 ho5 gr5 R5
          refine hKq.out _ _ ?_ (fun hHeld => ?_)
          · exact j5
          clear hKq Kq
          try simp only [Act.put, List.setIfInBounds_toArray, List.set_cons_zero, List.set_cons_succ]
          refine wpAnyH_take (i := 13) (oi := { dst := some 84, op := Op.indexAddr 48 (Operand.tmp 71) (Operand.tmp 72), type := 0, pos := "ref.go:67", after := #[{ on := 0, ground := Ground.data }, { on := 1, ground := Ground.data }, { on := 0, ground := Ground.phase }, { on := 1, ground := Ground.phase }, { on := 2, ground := Ground.phase }, { on := 3, ground := Ground.phase }, { on := 4, ground := Ground.phase }, { on := 5, ground := Ground.phase }, { on := 6, ground := Ground.phase }, { on := 7, ground := Ground.phase }, { on := 8, ground := Ground.phase }, { on := 9, ground := Ground.phase }, { on := 10, ground := Ground.phase }, { on := 11, ground := Ground.phase }, { on := 12, ground := Ground.phase }], guard := none }) (v := ?_) rfl (by kernel_rfl) (by kernel_rfl) (by kernel_rfl) (fun _ _ _ h => h) (Or.inl ⟨by rfl, ?_⟩) (by assumption) ?_
          rotate_left
          · intro w hSw
            try dsimp only at hSw
            go_simp <;> with_reducible rfl
          try simp only [Act.put, List.setIfInBounds_toArray, List.set_cons_zero, List.set_cons_succ]
          refine wpAnyH_take (i := 14) (oi := { dst := some 85, op := Op.fieldAddr 71 (Operand.tmp 84) 0, type := 0, pos := "ref.go:67", after := #[{ on := 13, ground := Ground.data }, { on := 0, ground := Ground.phase }, { on := 1, ground := Ground.phase }, { on := 2, ground := Ground.phase }, { on := 3, ground := Ground.phase }, { on := 4, ground := Ground.phase }, { on := 5, ground := Ground.phase }, { on := 6, ground := Ground.phase }, { on := 7, ground := Ground.phase }, { on := 8, ground := Ground.phase }, { on := 9, ground := Ground.phase }, { on := 10, ground := Ground.phase }, { on := 11, ground := Ground.phase }, { on := 12, ground := Ground.phase }], guard := none }) (v := ?_) rfl (by kernel_rfl) (by kernel_rfl) (by kernel_rfl) (fun _ _ _ h => h) (Or.inl ⟨by rfl, ?_⟩) (by assumption) ?_
          rotate_left
          · intro w hSw
            try dsimp only at hSw
            go_simp <;> with_reducible rfl
          try simp only [Act.put, List.setIfInBounds_toArray, List.set_cons_zero, List.set_cons_succ]
          refine wpAnyH_ready (rs := [15]) (by kernel_rfl) (by simp) ?_
          refine AllReadyH.cons (o := { dst := none, op := Op.store 28 (Operand.tmp 85) (Operand.tmp 83), type := 0, pos := "ref.go:67", after := #[{ on := 14, ground := Ground.data }, { on := 12, ground := Ground.data }, { on := 12, ground := Ground.chain }, { on := 0, ground := Ground.phase }, { on := 1, ground := Ground.phase }, { on := 2, ground := Ground.phase }, { on := 3, ground := Ground.phase }, { on := 4, ground := Ground.phase }, { on := 5, ground := Ground.phase }, { on := 6, ground := Ground.phase }, { on := 7, ground := Ground.phase }, { on := 8, ground := Ground.phase }, { on := 9, ground := Ground.phase }, { on := 10, ground := Ground.phase }, { on := 11, ground := Ground.phase }, { on := 12, ground := Ground.phase }], guard := none }) rfl (fun Kq hKq => ?_) AllReadyH.nil
          go_simp
          refine hKq.out _ _ ?_ (fun hHeld => ?_)
          · exact j5.setCell (p := ⟨g9, K9 * 3, none⟩) Hg9.out.1 _
          clear hKq Kq
          try simp only [Act.put, List.setIfInBounds_toArray, List.set_cons_zero, List.set_cons_succ]
          refine wpAnyH_done (by kernel_rfl) ?_ _
          have HBe := Lib.hid hHeld
          obtain ⟨V7, hV7⟩ : ∃ V7, w5.setCell ⟨g9, K9 * 3, none⟩ (.slice A5 N5 c5) = V7 := ⟨_, rfl⟩
          rw [hV7] at HR5 HBe
          rw [hV7]
          have hal7 : Below V7.heap.size V7 (V7.alloc (.cells #[.int .i64 (0 : Int), .int .i64 (K9 : Int)] 73)) := (Below.refl _ _).alloc (Nat.le_refl _) _
          have HR6 := Lib.hid (HR5.out.below hal7)
          have HB6 := Lib.hid (HBe.out.alloc HBe.out.size (.cells #[.int .i64 (0 : Int), .int .i64 (K9 : Int)] 73))
          have H6 := Lib.hid (one_el (T := 73) V7 (pairC (0, K9)))
          have hpl : (pairsOf (posV W cells i)).length ≤ 1000000 := by simp [pairsOf, posV]; omega
          clear hHeld hal7 hV7 HSd HOA HOne d0 d0' kd k0 kf j5 HB9 HSt9
          go_wp2_with (at_builtin; refine append_el elPair _ rfl (.tmp 86) (.tmp 90) rfl w.heap.size _ (pairsOf (posV W cells i)) (pairC (0, K9)) ⟨V7.heap.size, 0, none⟩ rfl HR6.out.pos rfl H6.out rfl (by intro u hu; simp only [pairC, List.mem_cons, List.not_mem_nil, or_false] at hu; rcases hu with rfl | rfl <;> rfl) hpl HB6.out.size ?_)
          intro g8 c8 w8 o8 gr8
          have hKd : K9 = done9.length := by rw [HK9.out]; exact HR5.out.len
          have hpn : posV W cells (i + 1) = posV W cells i ++ [(0, K9)] := by
            have h0 := pos_next W hW2 cells i HCl.out (HC.out.trans HSt.out)
            rw [h0, ← Hm9.out, ← hKd]
          have HRel : Hid (ARel w w8 W cells (i + 1) g9 c9 (.slice (some ⟨g8, 0, none⟩) ((pairsOf (posV W cells i)).length + 1) c8) rs9 So9 (.slice A5 N5 c5) done9 (([] : List Ce) ++ [⟨xr, xw, ⟨xa, xb, xc, xd, xe⟩⟩])) := Lib.hid ⟨by
            rw [hpn]
            have h0 := HR5.out.place (q := (0, K9)) (by rw [pairs_snoc]; exact o8) gr8
            rw [HK9.out] at h0 ⊢
            first
              | exact h0
              | (rw [Hn9.out] at h0; exact h0), HC.out.trans HSt.out, grownG HB6.out gr8 HR6.out.pos HB6.out.size (Nat.le_refl _), Hs9.out⟩
          generalize Value.slice (some ⟨g8, 0, none⟩) ((pairsOf (posV W cells i)).length + 1) c8 = va8 at *
          clear o8 gr8 hpn hKd HR5 HR6 HB6 H6 hpl HBe
          go_wp2
          go_roundw
          case rel => exact ⟨i + 1, _, _, _, _, _, _, _, _, _, rfl, rfl, by omega, by go_num, by rw [Hn9.out], HRel⟩
          case measure => simp [RowKit.intOf]; omega
        refine AllReadyH.cons (o := { dst := some 82, op := Op.buildSlice 28 1 #[(0, Operand.tmp 81)], type := 28, pos := "ref.go:67", after := #[{ on := 10, ground := Ground.data }], guard := none }) rfl (fun Kq hKq => ?_) ?_
        · skip
          go_simp
          refine hKq.out _ _ ?_ (fun hHeld => ?_)
          · exact Below.alloc (by assumption) (Below.size (by assumption)) _
          clear hKq Kq
          try simp only [Act.put, List.setIfInBounds_toArray, List.set_cons_zero, List.set_cons_succ]
          refine wpAnyH_ready (rs := [6]) (by kernel_rfl) (by simp) ?_
          refine AllReadyH.cons (o := { dst := some 77, op := Op.load 28 (Operand.tmp 76), type := 28, pos := "ref.go:67", after := #[{ on := 5, ground := Ground.data }], guard := none }) rfl (fun Kq hKq => ?_) AllReadyH.nil
          go_simp
          refine hKq.out _ _ ?_ (fun hHeld => ?_)
          · assumption
          clear hKq Kq
          try simp only [Act.put, List.setIfInBounds_toArray, List.set_cons_zero, List.set_cons_succ]
          refine wpAnyH_ready (rs := [12]) (by kernel_rfl) (by simp) ?_
          refine AllReadyH.cons (o := { dst := some 83, op := Op.call { callee := Callee.builtin Builtin.append, args := #[Operand.tmp 77, Operand.tmp 82], argTypes := #[28, 28] }, type := 28, pos := "ref.go:67", after := #[{ on := 6, ground := Ground.data }, { on := 11, ground := Ground.data }], guard := none }) rfl (fun Kq hKq => ?_) AllReadyH.nil
          refine step_append_cells rfl (.tmp 77) (.tmp 82) rfl So9 _ (.slice (some ⟨V9.drew.heap.size, 0, none⟩) 1 1) ([] : List Ce) [⟨xr, xw, ⟨xa, xb, xc, xd, xe⟩⟩] (by simp [Act.eval]) HOA.out (by simp [Act.eval]) HOne.out (by rw [List.length_singleton]; omega) (by simp; exact Nat.le_trans hSo9 (Nat.le_succ _)) ?_
          intro A5 N5 c5 w5 hN5 ho5 gr5
          have hNh := Lib.hid hN5
          have R5 := HSd.out.grow ho5 gr5
          rw [← HK9.out] at R5
          have j5 := HSd.out.grown_at gr5 kd kd.size
          have k0 := R5.2.1
          have kf := R5.2.2.2.2
          have HR5 := Lib.hid R5.1
          clear hN5 ho5 gr5 R5
          refine hKq.out _ _ ?_ (fun hHeld => ?_)
          · exact j5
          clear hKq Kq
          try simp only [Act.put, List.setIfInBounds_toArray, List.set_cons_zero, List.set_cons_succ]
          refine wpAnyH_take (i := 13) (oi := { dst := some 84, op := Op.indexAddr 48 (Operand.tmp 71) (Operand.tmp 72), type := 0, pos := "ref.go:67", after := #[{ on := 0, ground := Ground.data }, { on := 1, ground := Ground.data }, { on := 0, ground := Ground.phase }, { on := 1, ground := Ground.phase }, { on := 2, ground := Ground.phase }, { on := 3, ground := Ground.phase }, { on := 4, ground := Ground.phase }, { on := 5, ground := Ground.phase }, { on := 6, ground := Ground.phase }, { on := 7, ground := Ground.phase }, { on := 8, ground := Ground.phase }, { on := 9, ground := Ground.phase }, { on := 10, ground := Ground.phase }, { on := 11, ground := Ground.phase }, { on := 12, ground := Ground.phase }], guard := none }) (v := ?_) rfl (by kernel_rfl) (by kernel_rfl) (by kernel_rfl) (fun _ _ _ h => h) (Or.inl ⟨by rfl, ?_⟩) (by assumption) ?_
          rotate_left
          · intro w hSw
            try dsimp only at hSw
            go_simp <;> with_reducible rfl
          try simp only [Act.put, List.setIfInBounds_toArray, List.set_cons_zero, List.set_cons_succ]
          refine wpAnyH_take (i := 14) (oi := { dst := some 85, op := Op.fieldAddr 71 (Operand.tmp 84) 0, type := 0, pos := "ref.go:67", after := #[{ on := 13, ground := Ground.data }, { on := 0, ground := Ground.phase }, { on := 1, ground := Ground.phase }, { on := 2, ground := Ground.phase }, { on := 3, ground := Ground.phase }, { on := 4, ground := Ground.phase }, { on := 5, ground := Ground.phase }, { on := 6, ground := Ground.phase }, { on := 7, ground := Ground.phase }, { on := 8, ground := Ground.phase }, { on := 9, ground := Ground.phase }, { on := 10, ground := Ground.phase }, { on := 11, ground := Ground.phase }, { on := 12, ground := Ground.phase }], guard := none }) (v := ?_) rfl (by kernel_rfl) (by kernel_rfl) (by kernel_rfl) (fun _ _ _ h => h) (Or.inl ⟨by rfl, ?_⟩) (by assumption) ?_
          rotate_left
          · intro w hSw
            try dsimp only at hSw
            go_simp <;> with_reducible rfl
          try simp only [Act.put, List.setIfInBounds_toArray, List.set_cons_zero, List.set_cons_succ]
          refine wpAnyH_ready (rs := [15]) (by kernel_rfl) (by simp) ?_
          refine AllReadyH.cons (o := { dst := none, op := Op.store 28 (Operand.tmp 85) (Operand.tmp 83), type := 0, pos := "ref.go:67", after := #[{ on := 14, ground := Ground.data }, { on := 12, ground := Ground.data }, { on := 12, ground := Ground.chain }, { on := 0, ground := Ground.phase }, { on := 1, ground := Ground.phase }, { on := 2, ground := Ground.phase }, { on := 3, ground := Ground.phase }, { on := 4, ground := Ground.phase }, { on := 5, ground := Ground.phase }, { on := 6, ground := Ground.phase }, { on := 7, ground := Ground.phase }, { on := 8, ground := Ground.phase }, { on := 9, ground := Ground.phase }, { on := 10, ground := Ground.phase }, { on := 11, ground := Ground.phase }, { on := 12, ground := Ground.phase }], guard := none }) rfl (fun Kq hKq => ?_) AllReadyH.nil
          go_simp
          refine hKq.out _ _ ?_ (fun hHeld => ?_)
          · exact j5.setCell (p := ⟨g9, K9 * 3, none⟩) Hg9.out.1 _
          clear hKq Kq
          try simp only [Act.put, List.setIfInBounds_toArray, List.set_cons_zero, List.set_cons_succ]
          refine wpAnyH_done (by kernel_rfl) ?_ _
          have HBe := Lib.hid hHeld
          obtain ⟨V7, hV7⟩ : ∃ V7, w5.setCell ⟨g9, K9 * 3, none⟩ (.slice A5 N5 c5) = V7 := ⟨_, rfl⟩
          rw [hV7] at HR5 HBe
          rw [hV7]
          have hal7 : Below V7.heap.size V7 (V7.alloc (.cells #[.int .i64 (0 : Int), .int .i64 (K9 : Int)] 73)) := (Below.refl _ _).alloc (Nat.le_refl _) _
          have HR6 := Lib.hid (HR5.out.below hal7)
          have HB6 := Lib.hid (HBe.out.alloc HBe.out.size (.cells #[.int .i64 (0 : Int), .int .i64 (K9 : Int)] 73))
          have H6 := Lib.hid (one_el (T := 73) V7 (pairC (0, K9)))
          have hpl : (pairsOf (posV W cells i)).length ≤ 1000000 := by simp [pairsOf, posV]; omega
          clear hHeld hal7 hV7 HSd HOA HOne d0 d0' kd k0 kf j5 HB9 HSt9
          go_wp2_with (at_builtin; refine append_el elPair _ rfl (.tmp 86) (.tmp 90) rfl w.heap.size _ (pairsOf (posV W cells i)) (pairC (0, K9)) ⟨V7.heap.size, 0, none⟩ rfl HR6.out.pos rfl H6.out rfl (by intro u hu; simp only [pairC, List.mem_cons, List.not_mem_nil, or_false] at hu; rcases hu with rfl | rfl <;> rfl) hpl HB6.out.size ?_)
          intro g8 c8 w8 o8 gr8
          have hKd : K9 = done9.length := by rw [HK9.out]; exact HR5.out.len
          have hpn : posV W cells (i + 1) = posV W cells i ++ [(0, K9)] := by
            have h0 := pos_next W hW2 cells i HCl.out (HC.out.trans HSt.out)
            rw [h0, ← Hm9.out, ← hKd]
          have HRel : Hid (ARel w w8 W cells (i + 1) g9 c9 (.slice (some ⟨g8, 0, none⟩) ((pairsOf (posV W cells i)).length + 1) c8) rs9 So9 (.slice A5 N5 c5) done9 (([] : List Ce) ++ [⟨xr, xw, ⟨xa, xb, xc, xd, xe⟩⟩])) := Lib.hid ⟨by
            rw [hpn]
            have h0 := HR5.out.place (q := (0, K9)) (by rw [pairs_snoc]; exact o8) gr8
            rw [HK9.out] at h0 ⊢
            first
              | exact h0
              | (rw [Hn9.out] at h0; exact h0), HC.out.trans HSt.out, grownG HB6.out gr8 HR6.out.pos HB6.out.size (Nat.le_refl _), Hs9.out⟩
          generalize Value.slice (some ⟨g8, 0, none⟩) ((pairsOf (posV W cells i)).length + 1) c8 = va8 at *
          clear o8 gr8 hpn hKd HR5 HR6 HB6 H6 hpl HBe
          go_wp2
          go_roundw
          case rel => exact ⟨i + 1, _, _, _, _, _, _, _, _, _, rfl, rfl, by omega, by go_num, by rw [Hn9.out], HRel⟩
          case measure => simp [RowKit.intOf]; omega
        exact AllReadyH.nil
      · have HSt : Hid (step blC wdC W (done, cur) ⟨xr, xw, ⟨xa, xb, xc, xd, xe⟩⟩ = (done, cur ++ [⟨xr, xw, ⟨xa, xb, xc, xd, xe⟩⟩])) := Lib.hid (by
          have h1 : ¬ (cur.length = W - 1 ∧ wdC ⟨xr, xw, ⟨xa, xb, xc, xd, xe⟩⟩ = true) := by
            rintro ⟨h1, h2⟩
            have h3 : xw = 1 := by simpa [wdC] using h2
            have h4 : m = W1 := by have := Hm.out; have := HW1.out; omega
            rcases e2 with e2 | ⟨_, e2⟩
            · exact e2 h4
            · exact e2 h3
          unfold step
          rw [if_neg h1, if_neg (by rw [← Hm.out]; exact e1)])
        have g2 : ((m : Int) == (W : Int)) = false := by simp; omega
        rcases e2 with e2 | ⟨e2, e3⟩
        · have g1 : ((m : Int) == (W1 : Int)) = false := by simp; omega
          have HSt9 := Lib.hid HR.out.st
          have HB9 := Lib.hid HR.out.old
          have HK9 := Lib.hid HK.out
          have Hc9 : Hid (cur.length ≤ W) := Lib.hid (by have := Hm.out; omega)
          have Hm9 := Lib.hid Hm.out
          have Hn9 : Hid (n = rs.length + 1) := Lib.hid (by rw [Hn.out, HK.out])
          have Hs9 : Hid (rs.length ≤ i + 1) := Lib.hid (Nat.le_succ_of_le HR.out.small)
          clear HR
          go_wp2
          have HSd := Lib.hid (HSt9.out.below (below_drew (Below.refl _ _) 1))
          have hk0 := HK9.out
          have dl := last_cells HSd.out.out
          rw [← hk0] at dl
          have d0 := dl.2.2.2.1
          have hg9 := HSd.out.gt
          have d0' : (wr.alloc (.cells #[.int .i32 xr, .int .u8 (xw : Int), .int .u16 (xa : Int), .int .u8 (xb : Int), .int .u32 (xc : Int), .int .u8 (xd : Int), .int .u32 (xe : Int)] 38)).drew.cell? ⟨g, K * 3, none⟩ = some (.slice A0 m c0) := (((Below.refl _ _).alloc (Nat.le_refl _) _ : Below wr.drew.heap.size wr.drew _).cell (p := ⟨g, K * 3, none⟩) hg9.2).trans d0
          have kd := below_drew HB9.out 1
          have HOA := Lib.hid (own_below (w' := wr.drew.alloc (.cells (cellsC ⟨xr, xw, ⟨xa, xb, xc, xd, xe⟩⟩).toArray 38)) HSd.out.opn ((Below.refl _ _).alloc (Nat.le_refl _) _) (Nat.le_refl _))
          have HOne := Lib.hid (one_lies wr.drew ⟨xr, xw, ⟨xa, xb, xc, xd, xe⟩⟩)
          have Hg9 := Lib.hid hg9
          have hcl9 : cur.length ≤ 100000 := by have := Hc9.out; omega
          have hSo9 : So ≤ wr.drew.heap.size := HSd.out.bs.2
          clear dl hg9 hk0
          refine wp_region_held_drew (S := fun V => Below w.heap.size w V) (by kernel_rfl) ?_ (fun hHeld => ?_)
          · exact kd
          refine wpAnyH_take (i := 0) (oi := { dst := some 71, op := Op.move (Operand.tmp 6), type := 48, pos := "ref.go:67", after := #[], guard := none }) (v := ?_) rfl (by kernel_rfl) (by kernel_rfl) (by kernel_rfl) (fun _ _ _ h => h) (Or.inl ⟨by rfl, ?_⟩) (by assumption) ?_
          rotate_left
          · intro w hSw
            try dsimp only at hSw
            go_simp <;> with_reducible rfl
          try simp only [Act.put, List.setIfInBounds_toArray, List.set_cons_zero, List.set_cons_succ]
          refine wpAnyH_take (i := 1) (oi := { dst := some 72, op := Op.move (Operand.tmp 9), type := 3, pos := "ref.go:67", after := #[], guard := none }) (v := ?_) rfl (by kernel_rfl) (by kernel_rfl) (by kernel_rfl) (fun _ _ _ h => h) (Or.inl ⟨by rfl, ?_⟩) (by assumption) ?_
          rotate_left
          · intro w hSw
            try dsimp only at hSw
            go_simp <;> with_reducible rfl
          try simp only [Act.put, List.setIfInBounds_toArray, List.set_cons_zero, List.set_cons_succ]
          refine wpAnyH_take (i := 2) (oi := { dst := some 73, op := Op.move (Operand.tmp 6), type := 48, pos := "ref.go:67", after := #[], guard := none }) (v := ?_) rfl (by kernel_rfl) (by kernel_rfl) (by kernel_rfl) (fun _ _ _ h => h) (Or.inl ⟨by rfl, ?_⟩) (by assumption) ?_
          rotate_left
          · intro w hSw
            try dsimp only at hSw
            go_simp <;> with_reducible rfl
          try simp only [Act.put, List.setIfInBounds_toArray, List.set_cons_zero, List.set_cons_succ]
          refine wpAnyH_take (i := 3) (oi := { dst := some 74, op := Op.move (Operand.tmp 9), type := 3, pos := "ref.go:67", after := #[], guard := none }) (v := ?_) rfl (by kernel_rfl) (by kernel_rfl) (by kernel_rfl) (fun _ _ _ h => h) (Or.inl ⟨by rfl, ?_⟩) (by assumption) ?_
          rotate_left
          · intro w hSw
            try dsimp only at hSw
            go_simp <;> with_reducible rfl
          try simp only [Act.put, List.setIfInBounds_toArray, List.set_cons_zero, List.set_cons_succ]
          refine wpAnyH_take (i := 4) (oi := { dst := some 75, op := Op.indexAddr 48 (Operand.tmp 73) (Operand.tmp 74), type := 0, pos := "ref.go:67", after := #[{ on := 2, ground := Ground.data }, { on := 3, ground := Ground.data }], guard := none }) (v := ?_) rfl (by kernel_rfl) (by kernel_rfl) (by kernel_rfl) (fun _ _ _ h => h) (Or.inl ⟨by rfl, ?_⟩) (by assumption) ?_
          rotate_left
          · intro w hSw
            try dsimp only at hSw
            go_simp <;> with_reducible rfl
          try simp only [Act.put, List.setIfInBounds_toArray, List.set_cons_zero, List.set_cons_succ]
          refine wpAnyH_take (i := 5) (oi := { dst := some 76, op := Op.fieldAddr 71 (Operand.tmp 75) 0, type := 0, pos := "ref.go:67", after := #[{ on := 4, ground := Ground.data }], guard := none }) (v := ?_) rfl (by kernel_rfl) (by kernel_rfl) (by kernel_rfl) (fun _ _ _ h => h) (Or.inl ⟨by rfl, ?_⟩) (by assumption) ?_
          rotate_left
          · intro w hSw
            try dsimp only at hSw
            go_simp <;> with_reducible rfl
          try simp only [Act.put, List.setIfInBounds_toArray, List.set_cons_zero, List.set_cons_succ]
          refine wpAnyH_take (i := 7) (oi := { dst := some 78, op := Op.move (Operand.tmp 0), type := 28, pos := "ref.go:67", after := #[], guard := none }) (v := ?_) rfl (by kernel_rfl) (by kernel_rfl) (by kernel_rfl) (fun _ _ _ h => h) (Or.inl ⟨by rfl, ?_⟩) (by assumption) ?_
          rotate_left
          · intro w hSw
            try dsimp only at hSw
            go_simp <;> with_reducible rfl
          try simp only [Act.put, List.setIfInBounds_toArray, List.set_cons_zero, List.set_cons_succ]
          refine wpAnyH_take (i := 8) (oi := { dst := some 79, op := Op.move (Operand.tmp 8), type := 3, pos := "ref.go:67", after := #[], guard := none }) (v := ?_) rfl (by kernel_rfl) (by kernel_rfl) (by kernel_rfl) (fun _ _ _ h => h) (Or.inl ⟨by rfl, ?_⟩) (by assumption) ?_
          rotate_left
          · intro w hSw
            try dsimp only at hSw
            go_simp <;> with_reducible rfl
          try simp only [Act.put, List.setIfInBounds_toArray, List.set_cons_zero, List.set_cons_succ]
          refine wpAnyH_take (i := 9) (oi := { dst := some 80, op := Op.indexAddr 28 (Operand.tmp 78) (Operand.tmp 79), type := 0, pos := "ref.go:67", after := #[{ on := 7, ground := Ground.data }, { on := 8, ground := Ground.data }], guard := none }) (v := ?_) rfl (by kernel_rfl) (by kernel_rfl) (by kernel_rfl) (fun _ _ _ h => h) (Or.inl ⟨by rfl, ?_⟩) (by assumption) ?_
          rotate_left
          · intro w hSw
            try dsimp only at hSw
            go_simp <;> with_reducible rfl
          try simp only [Act.put, List.setIfInBounds_toArray, List.set_cons_zero, List.set_cons_succ]
          refine wpAnyH_take (i := 10) (oi := { dst := some 81, op := Op.load 38 (Operand.tmp 80), type := 38, pos := "ref.go:67", after := #[{ on := 9, ground := Ground.data }], guard := none }) (v := ?_) rfl (by kernel_rfl) (by kernel_rfl) (by kernel_rfl) (fun _ _ _ h => h) (Or.inl ⟨by rfl, ?_⟩) (by assumption) ?_
          rotate_left
          · intro w hSw
            try dsimp only at hSw
            go_simp <;> with_reducible rfl
          try simp only [Act.put, List.setIfInBounds_toArray, List.set_cons_zero, List.set_cons_succ]
          refine wpAnyH_ready (rs := [6, 11]) (by kernel_rfl) (by simp) ?_
          refine AllReadyH.cons (o := { dst := some 77, op := Op.load 28 (Operand.tmp 76), type := 28, pos := "ref.go:67", after := #[{ on := 5, ground := Ground.data }], guard := none }) rfl (fun Kq hKq => ?_) ?_
          · skip
            go_simp
            refine hKq.out _ _ ?_ (fun hHeld => ?_)
            · assumption
            clear hKq Kq
            try simp only [Act.put, List.setIfInBounds_toArray, List.set_cons_zero, List.set_cons_succ]
            refine wpAnyH_ready (rs := [11]) (by kernel_rfl) (by simp) ?_
            refine AllReadyH.cons (o := { dst := some 82, op := Op.buildSlice 28 1 #[(0, Operand.tmp 81)], type := 28, pos := "ref.go:67", after := #[{ on := 10, ground := Ground.data }], guard := none }) rfl (fun Kq hKq => ?_) AllReadyH.nil
            go_simp
            refine hKq.out _ _ ?_ (fun hHeld => ?_)
            · exact Below.alloc (by assumption) (Below.size (by assumption)) _
            clear hKq Kq
            try simp only [Act.put, List.setIfInBounds_toArray, List.set_cons_zero, List.set_cons_succ]
            refine wpAnyH_ready (rs := [12]) (by kernel_rfl) (by simp) ?_
            refine AllReadyH.cons (o := { dst := some 83, op := Op.call { callee := Callee.builtin Builtin.append, args := #[Operand.tmp 77, Operand.tmp 82], argTypes := #[28, 28] }, type := 28, pos := "ref.go:67", after := #[{ on := 6, ground := Ground.data }, { on := 11, ground := Ground.data }], guard := none }) rfl (fun Kq hKq => ?_) AllReadyH.nil
            refine step_append_cells rfl (.tmp 77) (.tmp 82) rfl So _ (.slice (some ⟨wr.drew.heap.size, 0, none⟩) 1 1) cur [⟨xr, xw, ⟨xa, xb, xc, xd, xe⟩⟩] (by simp [Act.eval]) HOA.out (by simp [Act.eval]) HOne.out (by rw [List.length_singleton]; omega) (by simp; exact Nat.le_trans hSo9 (Nat.le_succ _)) ?_
            intro A5 N5 c5 w5 hN5 ho5 gr5
            have hNh := Lib.hid hN5
            have R5 := HSd.out.grow ho5 gr5
            rw [← HK9.out] at R5
            have j5 := HSd.out.grown_at gr5 kd kd.size
            have k0 := R5.2.1
            have kf := R5.2.2.2.2
            have HR5 := Lib.hid R5.1
            clear hN5 ho5 gr5 R5
            refine hKq.out _ _ ?_ (fun hHeld => ?_)
            · exact j5
            clear hKq Kq
            try simp only [Act.put, List.setIfInBounds_toArray, List.set_cons_zero, List.set_cons_succ]
            refine wpAnyH_take (i := 13) (oi := { dst := some 84, op := Op.indexAddr 48 (Operand.tmp 71) (Operand.tmp 72), type := 0, pos := "ref.go:67", after := #[{ on := 0, ground := Ground.data }, { on := 1, ground := Ground.data }, { on := 0, ground := Ground.phase }, { on := 1, ground := Ground.phase }, { on := 2, ground := Ground.phase }, { on := 3, ground := Ground.phase }, { on := 4, ground := Ground.phase }, { on := 5, ground := Ground.phase }, { on := 6, ground := Ground.phase }, { on := 7, ground := Ground.phase }, { on := 8, ground := Ground.phase }, { on := 9, ground := Ground.phase }, { on := 10, ground := Ground.phase }, { on := 11, ground := Ground.phase }, { on := 12, ground := Ground.phase }], guard := none }) (v := ?_) rfl (by kernel_rfl) (by kernel_rfl) (by kernel_rfl) (fun _ _ _ h => h) (Or.inl ⟨by rfl, ?_⟩) (by assumption) ?_
            rotate_left
            · intro w hSw
              try dsimp only at hSw
              go_simp <;> with_reducible rfl
            try simp only [Act.put, List.setIfInBounds_toArray, List.set_cons_zero, List.set_cons_succ]
            refine wpAnyH_take (i := 14) (oi := { dst := some 85, op := Op.fieldAddr 71 (Operand.tmp 84) 0, type := 0, pos := "ref.go:67", after := #[{ on := 13, ground := Ground.data }, { on := 0, ground := Ground.phase }, { on := 1, ground := Ground.phase }, { on := 2, ground := Ground.phase }, { on := 3, ground := Ground.phase }, { on := 4, ground := Ground.phase }, { on := 5, ground := Ground.phase }, { on := 6, ground := Ground.phase }, { on := 7, ground := Ground.phase }, { on := 8, ground := Ground.phase }, { on := 9, ground := Ground.phase }, { on := 10, ground := Ground.phase }, { on := 11, ground := Ground.phase }, { on := 12, ground := Ground.phase }], guard := none }) (v := ?_) rfl (by kernel_rfl) (by kernel_rfl) (by kernel_rfl) (fun _ _ _ h => h) (Or.inl ⟨by rfl, ?_⟩) (by assumption) ?_
            rotate_left
            · intro w hSw
              try dsimp only at hSw
              go_simp <;> with_reducible rfl
            try simp only [Act.put, List.setIfInBounds_toArray, List.set_cons_zero, List.set_cons_succ]
            refine wpAnyH_ready (rs := [15]) (by kernel_rfl) (by simp) ?_
            refine AllReadyH.cons (o := { dst := none, op := Op.store 28 (Operand.tmp 85) (Operand.tmp 83), type := 0, pos := "ref.go:67", after := #[{ on := 14, ground := Ground.data }, { on := 12, ground := Ground.data }, { on := 12, ground := Ground.chain }, { on := 0, ground := Ground.phase }, { on := 1, ground := Ground.phase }, { on := 2, ground := Ground.phase }, { on := 3, ground := Ground.phase }, { on := 4, ground := Ground.phase }, { on := 5, ground := Ground.phase }, { on := 6, ground := Ground.phase }, { on := 7, ground := Ground.phase }, { on := 8, ground := Ground.phase }, { on := 9, ground := Ground.phase }, { on := 10, ground := Ground.phase }, { on := 11, ground := Ground.phase }, { on := 12, ground := Ground.phase }], guard := none }) rfl (fun Kq hKq => ?_) AllReadyH.nil
            go_simp
            refine hKq.out _ _ ?_ (fun hHeld => ?_)
            · exact j5.setCell (p := ⟨g, K * 3, none⟩) Hg9.out.1 _
            clear hKq Kq
            try simp only [Act.put, List.setIfInBounds_toArray, List.set_cons_zero, List.set_cons_succ]
            refine wpAnyH_done (by kernel_rfl) ?_ _
            have HBe := Lib.hid hHeld
            obtain ⟨V7, hV7⟩ : ∃ V7, w5.setCell ⟨g, K * 3, none⟩ (.slice A5 N5 c5) = V7 := ⟨_, rfl⟩
            rw [hV7] at HR5 HBe
            rw [hV7]
            have hal7 : Below V7.heap.size V7 (V7.alloc (.cells #[.int .i64 (m : Int), .int .i64 (K : Int)] 73)) := (Below.refl _ _).alloc (Nat.le_refl _) _
            have HR6 := Lib.hid (HR5.out.below hal7)
            have HB6 := Lib.hid (HBe.out.alloc HBe.out.size (.cells #[.int .i64 (m : Int), .int .i64 (K : Int)] 73))
            have H6 := Lib.hid (one_el (T := 73) V7 (pairC (m, K)))
            have hpl : (pairsOf (posV W cells i)).length ≤ 1000000 := by simp [pairsOf, posV]; omega
            clear hHeld hal7 hV7 HSd HOA HOne d0 d0' kd k0 kf j5 HB9 HSt9
            go_wp2_with (at_builtin; refine append_el elPair _ rfl (.tmp 86) (.tmp 90) rfl w.heap.size _ (pairsOf (posV W cells i)) (pairC (m, K)) ⟨V7.heap.size, 0, none⟩ rfl HR6.out.pos rfl H6.out rfl (by intro u hu; simp only [pairC, List.mem_cons, List.not_mem_nil, or_false] at hu; rcases hu with rfl | rfl <;> rfl) hpl HB6.out.size ?_)
            intro g8 c8 w8 o8 gr8
            have hKd : K = done.length := by rw [HK9.out]; exact HR5.out.len
            have hpn : posV W cells (i + 1) = posV W cells i ++ [(m, K)] := by
              have h0 := pos_next W hW2 cells i HCl.out (HC.out.trans HSt.out)
              rw [h0, ← Hm9.out, ← hKd]
            have HRel : Hid (ARel w w8 W cells (i + 1) g c (.slice (some ⟨g8, 0, none⟩) ((pairsOf (posV W cells i)).length + 1) c8) rs So (.slice A5 N5 c5) done (cur ++ [⟨xr, xw, ⟨xa, xb, xc, xd, xe⟩⟩])) := Lib.hid ⟨by
              rw [hpn]
              have h0 := HR5.out.place (q := (m, K)) (by rw [pairs_snoc]; exact o8) gr8
              rw [HK9.out] at h0 ⊢
              first
                | exact h0
                | (rw [Hn9.out] at h0; exact h0), HC.out.trans HSt.out, grownG HB6.out gr8 HR6.out.pos HB6.out.size (Nat.le_refl _), Hs9.out⟩
            generalize Value.slice (some ⟨g8, 0, none⟩) ((pairsOf (posV W cells i)).length + 1) c8 = va8 at *
            clear o8 gr8 hpn hKd HR5 HR6 HB6 H6 hpl HBe
            go_wp2
            go_roundw
            case rel => exact ⟨i + 1, _, _, _, _, _, _, _, _, _, rfl, rfl, by omega, by go_num, by rw [Hn9.out], HRel⟩
            case measure => simp [RowKit.intOf]; omega
          refine AllReadyH.cons (o := { dst := some 82, op := Op.buildSlice 28 1 #[(0, Operand.tmp 81)], type := 28, pos := "ref.go:67", after := #[{ on := 10, ground := Ground.data }], guard := none }) rfl (fun Kq hKq => ?_) ?_
          · skip
            go_simp
            refine hKq.out _ _ ?_ (fun hHeld => ?_)
            · exact Below.alloc (by assumption) (Below.size (by assumption)) _
            clear hKq Kq
            try simp only [Act.put, List.setIfInBounds_toArray, List.set_cons_zero, List.set_cons_succ]
            refine wpAnyH_ready (rs := [6]) (by kernel_rfl) (by simp) ?_
            refine AllReadyH.cons (o := { dst := some 77, op := Op.load 28 (Operand.tmp 76), type := 28, pos := "ref.go:67", after := #[{ on := 5, ground := Ground.data }], guard := none }) rfl (fun Kq hKq => ?_) AllReadyH.nil
            go_simp
            refine hKq.out _ _ ?_ (fun hHeld => ?_)
            · assumption
            clear hKq Kq
            try simp only [Act.put, List.setIfInBounds_toArray, List.set_cons_zero, List.set_cons_succ]
            refine wpAnyH_ready (rs := [12]) (by kernel_rfl) (by simp) ?_
            refine AllReadyH.cons (o := { dst := some 83, op := Op.call { callee := Callee.builtin Builtin.append, args := #[Operand.tmp 77, Operand.tmp 82], argTypes := #[28, 28] }, type := 28, pos := "ref.go:67", after := #[{ on := 6, ground := Ground.data }, { on := 11, ground := Ground.data }], guard := none }) rfl (fun Kq hKq => ?_) AllReadyH.nil
            refine step_append_cells rfl (.tmp 77) (.tmp 82) rfl So _ (.slice (some ⟨wr.drew.heap.size, 0, none⟩) 1 1) cur [⟨xr, xw, ⟨xa, xb, xc, xd, xe⟩⟩] (by simp [Act.eval]) HOA.out (by simp [Act.eval]) HOne.out (by rw [List.length_singleton]; omega) (by simp; exact Nat.le_trans hSo9 (Nat.le_succ _)) ?_
            intro A5 N5 c5 w5 hN5 ho5 gr5
            have hNh := Lib.hid hN5
            have R5 := HSd.out.grow ho5 gr5
            rw [← HK9.out] at R5
            have j5 := HSd.out.grown_at gr5 kd kd.size
            have k0 := R5.2.1
            have kf := R5.2.2.2.2
            have HR5 := Lib.hid R5.1
            clear hN5 ho5 gr5 R5
            refine hKq.out _ _ ?_ (fun hHeld => ?_)
            · exact j5
            clear hKq Kq
            try simp only [Act.put, List.setIfInBounds_toArray, List.set_cons_zero, List.set_cons_succ]
            refine wpAnyH_take (i := 13) (oi := { dst := some 84, op := Op.indexAddr 48 (Operand.tmp 71) (Operand.tmp 72), type := 0, pos := "ref.go:67", after := #[{ on := 0, ground := Ground.data }, { on := 1, ground := Ground.data }, { on := 0, ground := Ground.phase }, { on := 1, ground := Ground.phase }, { on := 2, ground := Ground.phase }, { on := 3, ground := Ground.phase }, { on := 4, ground := Ground.phase }, { on := 5, ground := Ground.phase }, { on := 6, ground := Ground.phase }, { on := 7, ground := Ground.phase }, { on := 8, ground := Ground.phase }, { on := 9, ground := Ground.phase }, { on := 10, ground := Ground.phase }, { on := 11, ground := Ground.phase }, { on := 12, ground := Ground.phase }], guard := none }) (v := ?_) rfl (by kernel_rfl) (by kernel_rfl) (by kernel_rfl) (fun _ _ _ h => h) (Or.inl ⟨by rfl, ?_⟩) (by assumption) ?_
            rotate_left
            · intro w hSw
              try dsimp only at hSw
              go_simp <;> with_reducible rfl
            try simp only [Act.put, List.setIfInBounds_toArray, List.set_cons_zero, List.set_cons_succ]
            refine wpAnyH_take (i := 14) (oi := { dst := some 85, op := Op.fieldAddr 71 (Operand.tmp 84) 0, type := 0, pos := "ref.go:67", after := #[{ on := 13, ground := Ground.data }, { on := 0, ground := Ground.phase }, { on := 1, ground := Ground.phase }, { on := 2, ground := Ground.phase }, { on := 3, ground := Ground.phase }, { on := 4, ground := Ground.phase }, { on := 5, ground := Ground.phase }, { on := 6, ground := Ground.phase }, { on := 7, ground := Ground.phase }, { on := 8, ground := Ground.phase }, { on := 9, ground := Ground.phase }, { on := 10, ground := Ground.phase }, { on := 11, ground := Ground.phase }, { on := 12, ground := Ground.phase }], guard := none }) (v := ?_) rfl (by kernel_rfl) (by kernel_rfl) (by kernel_rfl) (fun _ _ _ h => h) (Or.inl ⟨by rfl, ?_⟩) (by assumption) ?_
            rotate_left
            · intro w hSw
              try dsimp only at hSw
              go_simp <;> with_reducible rfl
            try simp only [Act.put, List.setIfInBounds_toArray, List.set_cons_zero, List.set_cons_succ]
            refine wpAnyH_ready (rs := [15]) (by kernel_rfl) (by simp) ?_
            refine AllReadyH.cons (o := { dst := none, op := Op.store 28 (Operand.tmp 85) (Operand.tmp 83), type := 0, pos := "ref.go:67", after := #[{ on := 14, ground := Ground.data }, { on := 12, ground := Ground.data }, { on := 12, ground := Ground.chain }, { on := 0, ground := Ground.phase }, { on := 1, ground := Ground.phase }, { on := 2, ground := Ground.phase }, { on := 3, ground := Ground.phase }, { on := 4, ground := Ground.phase }, { on := 5, ground := Ground.phase }, { on := 6, ground := Ground.phase }, { on := 7, ground := Ground.phase }, { on := 8, ground := Ground.phase }, { on := 9, ground := Ground.phase }, { on := 10, ground := Ground.phase }, { on := 11, ground := Ground.phase }, { on := 12, ground := Ground.phase }], guard := none }) rfl (fun Kq hKq => ?_) AllReadyH.nil
            go_simp
            refine hKq.out _ _ ?_ (fun hHeld => ?_)
            · exact j5.setCell (p := ⟨g, K * 3, none⟩) Hg9.out.1 _
            clear hKq Kq
            try simp only [Act.put, List.setIfInBounds_toArray, List.set_cons_zero, List.set_cons_succ]
            refine wpAnyH_done (by kernel_rfl) ?_ _
            have HBe := Lib.hid hHeld
            obtain ⟨V7, hV7⟩ : ∃ V7, w5.setCell ⟨g, K * 3, none⟩ (.slice A5 N5 c5) = V7 := ⟨_, rfl⟩
            rw [hV7] at HR5 HBe
            rw [hV7]
            have hal7 : Below V7.heap.size V7 (V7.alloc (.cells #[.int .i64 (m : Int), .int .i64 (K : Int)] 73)) := (Below.refl _ _).alloc (Nat.le_refl _) _
            have HR6 := Lib.hid (HR5.out.below hal7)
            have HB6 := Lib.hid (HBe.out.alloc HBe.out.size (.cells #[.int .i64 (m : Int), .int .i64 (K : Int)] 73))
            have H6 := Lib.hid (one_el (T := 73) V7 (pairC (m, K)))
            have hpl : (pairsOf (posV W cells i)).length ≤ 1000000 := by simp [pairsOf, posV]; omega
            clear hHeld hal7 hV7 HSd HOA HOne d0 d0' kd k0 kf j5 HB9 HSt9
            go_wp2_with (at_builtin; refine append_el elPair _ rfl (.tmp 86) (.tmp 90) rfl w.heap.size _ (pairsOf (posV W cells i)) (pairC (m, K)) ⟨V7.heap.size, 0, none⟩ rfl HR6.out.pos rfl H6.out rfl (by intro u hu; simp only [pairC, List.mem_cons, List.not_mem_nil, or_false] at hu; rcases hu with rfl | rfl <;> rfl) hpl HB6.out.size ?_)
            intro g8 c8 w8 o8 gr8
            have hKd : K = done.length := by rw [HK9.out]; exact HR5.out.len
            have hpn : posV W cells (i + 1) = posV W cells i ++ [(m, K)] := by
              have h0 := pos_next W hW2 cells i HCl.out (HC.out.trans HSt.out)
              rw [h0, ← Hm9.out, ← hKd]
            have HRel : Hid (ARel w w8 W cells (i + 1) g c (.slice (some ⟨g8, 0, none⟩) ((pairsOf (posV W cells i)).length + 1) c8) rs So (.slice A5 N5 c5) done (cur ++ [⟨xr, xw, ⟨xa, xb, xc, xd, xe⟩⟩])) := Lib.hid ⟨by
              rw [hpn]
              have h0 := HR5.out.place (q := (m, K)) (by rw [pairs_snoc]; exact o8) gr8
              rw [HK9.out] at h0 ⊢
              first
                | exact h0
                | (rw [Hn9.out] at h0; exact h0), HC.out.trans HSt.out, grownG HB6.out gr8 HR6.out.pos HB6.out.size (Nat.le_refl _), Hs9.out⟩
            generalize Value.slice (some ⟨g8, 0, none⟩) ((pairsOf (posV W cells i)).length + 1) c8 = va8 at *
            clear o8 gr8 hpn hKd HR5 HR6 HB6 H6 hpl HBe
            go_wp2
            go_roundw
            case rel => exact ⟨i + 1, _, _, _, _, _, _, _, _, _, rfl, rfl, by omega, by go_num, by rw [Hn9.out], HRel⟩
            case measure => simp [RowKit.intOf]; omega
          exact AllReadyH.nil
        · have g1 : ((m : Int) == (W1 : Int)) = true := by simp; omega
          have g3 : ((xw : Int) == 1) = false := by simp; omega
          clear e1 e2 e3
          have HSt9 := Lib.hid HR.out.st
          have HB9 := Lib.hid HR.out.old
          have HK9 := Lib.hid HK.out
          have Hc9 : Hid (cur.length ≤ W) := Lib.hid (by have := Hm.out; omega)
          have Hm9 := Lib.hid Hm.out
          have Hn9 : Hid (n = rs.length + 1) := Lib.hid (by rw [Hn.out, HK.out])
          have Hs9 : Hid (rs.length ≤ i + 1) := Lib.hid (Nat.le_succ_of_le HR.out.small)
          clear HR
          go_wp2
          have HSd := Lib.hid (HSt9.out.below (below_drew (Below.refl _ _) 1))
          have hk0 := HK9.out
          have dl := last_cells HSd.out.out
          rw [← hk0] at dl
          have d0 := dl.2.2.2.1
          have hg9 := HSd.out.gt
          have d0' : (wr.alloc (.cells #[.int .i32 xr, .int .u8 (xw : Int), .int .u16 (xa : Int), .int .u8 (xb : Int), .int .u32 (xc : Int), .int .u8 (xd : Int), .int .u32 (xe : Int)] 38)).drew.cell? ⟨g, K * 3, none⟩ = some (.slice A0 m c0) := (((Below.refl _ _).alloc (Nat.le_refl _) _ : Below wr.drew.heap.size wr.drew _).cell (p := ⟨g, K * 3, none⟩) hg9.2).trans d0
          have kd := below_drew HB9.out 1
          have HOA := Lib.hid (own_below (w' := wr.drew.alloc (.cells (cellsC ⟨xr, xw, ⟨xa, xb, xc, xd, xe⟩⟩).toArray 38)) HSd.out.opn ((Below.refl _ _).alloc (Nat.le_refl _) _) (Nat.le_refl _))
          have HOne := Lib.hid (one_lies wr.drew ⟨xr, xw, ⟨xa, xb, xc, xd, xe⟩⟩)
          have Hg9 := Lib.hid hg9
          have hcl9 : cur.length ≤ 100000 := by have := Hc9.out; omega
          have hSo9 : So ≤ wr.drew.heap.size := HSd.out.bs.2
          clear dl hg9 hk0
          refine wp_region_held_drew (S := fun V => Below w.heap.size w V) (by kernel_rfl) ?_ (fun hHeld => ?_)
          · exact kd
          refine wpAnyH_take (i := 0) (oi := { dst := some 71, op := Op.move (Operand.tmp 6), type := 48, pos := "ref.go:67", after := #[], guard := none }) (v := ?_) rfl (by kernel_rfl) (by kernel_rfl) (by kernel_rfl) (fun _ _ _ h => h) (Or.inl ⟨by rfl, ?_⟩) (by assumption) ?_
          rotate_left
          · intro w hSw
            try dsimp only at hSw
            go_simp <;> with_reducible rfl
          try simp only [Act.put, List.setIfInBounds_toArray, List.set_cons_zero, List.set_cons_succ]
          refine wpAnyH_take (i := 1) (oi := { dst := some 72, op := Op.move (Operand.tmp 9), type := 3, pos := "ref.go:67", after := #[], guard := none }) (v := ?_) rfl (by kernel_rfl) (by kernel_rfl) (by kernel_rfl) (fun _ _ _ h => h) (Or.inl ⟨by rfl, ?_⟩) (by assumption) ?_
          rotate_left
          · intro w hSw
            try dsimp only at hSw
            go_simp <;> with_reducible rfl
          try simp only [Act.put, List.setIfInBounds_toArray, List.set_cons_zero, List.set_cons_succ]
          refine wpAnyH_take (i := 2) (oi := { dst := some 73, op := Op.move (Operand.tmp 6), type := 48, pos := "ref.go:67", after := #[], guard := none }) (v := ?_) rfl (by kernel_rfl) (by kernel_rfl) (by kernel_rfl) (fun _ _ _ h => h) (Or.inl ⟨by rfl, ?_⟩) (by assumption) ?_
          rotate_left
          · intro w hSw
            try dsimp only at hSw
            go_simp <;> with_reducible rfl
          try simp only [Act.put, List.setIfInBounds_toArray, List.set_cons_zero, List.set_cons_succ]
          refine wpAnyH_take (i := 3) (oi := { dst := some 74, op := Op.move (Operand.tmp 9), type := 3, pos := "ref.go:67", after := #[], guard := none }) (v := ?_) rfl (by kernel_rfl) (by kernel_rfl) (by kernel_rfl) (fun _ _ _ h => h) (Or.inl ⟨by rfl, ?_⟩) (by assumption) ?_
          rotate_left
          · intro w hSw
            try dsimp only at hSw
            go_simp <;> with_reducible rfl
          try simp only [Act.put, List.setIfInBounds_toArray, List.set_cons_zero, List.set_cons_succ]
          refine wpAnyH_take (i := 4) (oi := { dst := some 75, op := Op.indexAddr 48 (Operand.tmp 73) (Operand.tmp 74), type := 0, pos := "ref.go:67", after := #[{ on := 2, ground := Ground.data }, { on := 3, ground := Ground.data }], guard := none }) (v := ?_) rfl (by kernel_rfl) (by kernel_rfl) (by kernel_rfl) (fun _ _ _ h => h) (Or.inl ⟨by rfl, ?_⟩) (by assumption) ?_
          rotate_left
          · intro w hSw
            try dsimp only at hSw
            go_simp <;> with_reducible rfl
          try simp only [Act.put, List.setIfInBounds_toArray, List.set_cons_zero, List.set_cons_succ]
          refine wpAnyH_take (i := 5) (oi := { dst := some 76, op := Op.fieldAddr 71 (Operand.tmp 75) 0, type := 0, pos := "ref.go:67", after := #[{ on := 4, ground := Ground.data }], guard := none }) (v := ?_) rfl (by kernel_rfl) (by kernel_rfl) (by kernel_rfl) (fun _ _ _ h => h) (Or.inl ⟨by rfl, ?_⟩) (by assumption) ?_
          rotate_left
          · intro w hSw
            try dsimp only at hSw
            go_simp <;> with_reducible rfl
          try simp only [Act.put, List.setIfInBounds_toArray, List.set_cons_zero, List.set_cons_succ]
          refine wpAnyH_take (i := 7) (oi := { dst := some 78, op := Op.move (Operand.tmp 0), type := 28, pos := "ref.go:67", after := #[], guard := none }) (v := ?_) rfl (by kernel_rfl) (by kernel_rfl) (by kernel_rfl) (fun _ _ _ h => h) (Or.inl ⟨by rfl, ?_⟩) (by assumption) ?_
          rotate_left
          · intro w hSw
            try dsimp only at hSw
            go_simp <;> with_reducible rfl
          try simp only [Act.put, List.setIfInBounds_toArray, List.set_cons_zero, List.set_cons_succ]
          refine wpAnyH_take (i := 8) (oi := { dst := some 79, op := Op.move (Operand.tmp 8), type := 3, pos := "ref.go:67", after := #[], guard := none }) (v := ?_) rfl (by kernel_rfl) (by kernel_rfl) (by kernel_rfl) (fun _ _ _ h => h) (Or.inl ⟨by rfl, ?_⟩) (by assumption) ?_
          rotate_left
          · intro w hSw
            try dsimp only at hSw
            go_simp <;> with_reducible rfl
          try simp only [Act.put, List.setIfInBounds_toArray, List.set_cons_zero, List.set_cons_succ]
          refine wpAnyH_take (i := 9) (oi := { dst := some 80, op := Op.indexAddr 28 (Operand.tmp 78) (Operand.tmp 79), type := 0, pos := "ref.go:67", after := #[{ on := 7, ground := Ground.data }, { on := 8, ground := Ground.data }], guard := none }) (v := ?_) rfl (by kernel_rfl) (by kernel_rfl) (by kernel_rfl) (fun _ _ _ h => h) (Or.inl ⟨by rfl, ?_⟩) (by assumption) ?_
          rotate_left
          · intro w hSw
            try dsimp only at hSw
            go_simp <;> with_reducible rfl
          try simp only [Act.put, List.setIfInBounds_toArray, List.set_cons_zero, List.set_cons_succ]
          refine wpAnyH_take (i := 10) (oi := { dst := some 81, op := Op.load 38 (Operand.tmp 80), type := 38, pos := "ref.go:67", after := #[{ on := 9, ground := Ground.data }], guard := none }) (v := ?_) rfl (by kernel_rfl) (by kernel_rfl) (by kernel_rfl) (fun _ _ _ h => h) (Or.inl ⟨by rfl, ?_⟩) (by assumption) ?_
          rotate_left
          · intro w hSw
            try dsimp only at hSw
            go_simp <;> with_reducible rfl
          try simp only [Act.put, List.setIfInBounds_toArray, List.set_cons_zero, List.set_cons_succ]
          refine wpAnyH_ready (rs := [6, 11]) (by kernel_rfl) (by simp) ?_
          refine AllReadyH.cons (o := { dst := some 77, op := Op.load 28 (Operand.tmp 76), type := 28, pos := "ref.go:67", after := #[{ on := 5, ground := Ground.data }], guard := none }) rfl (fun Kq hKq => ?_) ?_
          · skip
            go_simp
            refine hKq.out _ _ ?_ (fun hHeld => ?_)
            · assumption
            clear hKq Kq
            try simp only [Act.put, List.setIfInBounds_toArray, List.set_cons_zero, List.set_cons_succ]
            refine wpAnyH_ready (rs := [11]) (by kernel_rfl) (by simp) ?_
            refine AllReadyH.cons (o := { dst := some 82, op := Op.buildSlice 28 1 #[(0, Operand.tmp 81)], type := 28, pos := "ref.go:67", after := #[{ on := 10, ground := Ground.data }], guard := none }) rfl (fun Kq hKq => ?_) AllReadyH.nil
            go_simp
            refine hKq.out _ _ ?_ (fun hHeld => ?_)
            · exact Below.alloc (by assumption) (Below.size (by assumption)) _
            clear hKq Kq
            try simp only [Act.put, List.setIfInBounds_toArray, List.set_cons_zero, List.set_cons_succ]
            refine wpAnyH_ready (rs := [12]) (by kernel_rfl) (by simp) ?_
            refine AllReadyH.cons (o := { dst := some 83, op := Op.call { callee := Callee.builtin Builtin.append, args := #[Operand.tmp 77, Operand.tmp 82], argTypes := #[28, 28] }, type := 28, pos := "ref.go:67", after := #[{ on := 6, ground := Ground.data }, { on := 11, ground := Ground.data }], guard := none }) rfl (fun Kq hKq => ?_) AllReadyH.nil
            refine step_append_cells rfl (.tmp 77) (.tmp 82) rfl So _ (.slice (some ⟨wr.drew.heap.size, 0, none⟩) 1 1) cur [⟨xr, xw, ⟨xa, xb, xc, xd, xe⟩⟩] (by simp [Act.eval]) HOA.out (by simp [Act.eval]) HOne.out (by rw [List.length_singleton]; omega) (by simp; exact Nat.le_trans hSo9 (Nat.le_succ _)) ?_
            intro A5 N5 c5 w5 hN5 ho5 gr5
            have hNh := Lib.hid hN5
            have R5 := HSd.out.grow ho5 gr5
            rw [← HK9.out] at R5
            have j5 := HSd.out.grown_at gr5 kd kd.size
            have k0 := R5.2.1
            have kf := R5.2.2.2.2
            have HR5 := Lib.hid R5.1
            clear hN5 ho5 gr5 R5
            refine hKq.out _ _ ?_ (fun hHeld => ?_)
            · exact j5
            clear hKq Kq
            try simp only [Act.put, List.setIfInBounds_toArray, List.set_cons_zero, List.set_cons_succ]
            refine wpAnyH_take (i := 13) (oi := { dst := some 84, op := Op.indexAddr 48 (Operand.tmp 71) (Operand.tmp 72), type := 0, pos := "ref.go:67", after := #[{ on := 0, ground := Ground.data }, { on := 1, ground := Ground.data }, { on := 0, ground := Ground.phase }, { on := 1, ground := Ground.phase }, { on := 2, ground := Ground.phase }, { on := 3, ground := Ground.phase }, { on := 4, ground := Ground.phase }, { on := 5, ground := Ground.phase }, { on := 6, ground := Ground.phase }, { on := 7, ground := Ground.phase }, { on := 8, ground := Ground.phase }, { on := 9, ground := Ground.phase }, { on := 10, ground := Ground.phase }, { on := 11, ground := Ground.phase }, { on := 12, ground := Ground.phase }], guard := none }) (v := ?_) rfl (by kernel_rfl) (by kernel_rfl) (by kernel_rfl) (fun _ _ _ h => h) (Or.inl ⟨by rfl, ?_⟩) (by assumption) ?_
            rotate_left
            · intro w hSw
              try dsimp only at hSw
              go_simp <;> with_reducible rfl
            try simp only [Act.put, List.setIfInBounds_toArray, List.set_cons_zero, List.set_cons_succ]
            refine wpAnyH_take (i := 14) (oi := { dst := some 85, op := Op.fieldAddr 71 (Operand.tmp 84) 0, type := 0, pos := "ref.go:67", after := #[{ on := 13, ground := Ground.data }, { on := 0, ground := Ground.phase }, { on := 1, ground := Ground.phase }, { on := 2, ground := Ground.phase }, { on := 3, ground := Ground.phase }, { on := 4, ground := Ground.phase }, { on := 5, ground := Ground.phase }, { on := 6, ground := Ground.phase }, { on := 7, ground := Ground.phase }, { on := 8, ground := Ground.phase }, { on := 9, ground := Ground.phase }, { on := 10, ground := Ground.phase }, { on := 11, ground := Ground.phase }, { on := 12, ground := Ground.phase }], guard := none }) (v := ?_) rfl (by kernel_rfl) (by kernel_rfl) (by kernel_rfl) (fun _ _ _ h => h) (Or.inl ⟨by rfl, ?_⟩) (by assumption) ?_
            rotate_left
            · intro w hSw
              try dsimp only at hSw
              go_simp <;> with_reducible rfl
            try simp only [Act.put, List.setIfInBounds_toArray, List.set_cons_zero, List.set_cons_succ]
            refine wpAnyH_ready (rs := [15]) (by kernel_rfl) (by simp) ?_
            refine AllReadyH.cons (o := { dst := none, op := Op.store 28 (Operand.tmp 85) (Operand.tmp 83), type := 0, pos := "ref.go:67", after := #[{ on := 14, ground := Ground.data }, { on := 12, ground := Ground.data }, { on := 12, ground := Ground.chain }, { on := 0, ground := Ground.phase }, { on := 1, ground := Ground.phase }, { on := 2, ground := Ground.phase }, { on := 3, ground := Ground.phase }, { on := 4, ground := Ground.phase }, { on := 5, ground := Ground.phase }, { on := 6, ground := Ground.phase }, { on := 7, ground := Ground.phase }, { on := 8, ground := Ground.phase }, { on := 9, ground := Ground.phase }, { on := 10, ground := Ground.phase }, { on := 11, ground := Ground.phase }, { on := 12, ground := Ground.phase }], guard := none }) rfl (fun Kq hKq => ?_) AllReadyH.nil
            go_simp
            refine hKq.out _ _ ?_ (fun hHeld => ?_)
            · exact j5.setCell (p := ⟨g, K * 3, none⟩) Hg9.out.1 _
            clear hKq Kq
            try simp only [Act.put, List.setIfInBounds_toArray, List.set_cons_zero, List.set_cons_succ]
            refine wpAnyH_done (by kernel_rfl) ?_ _
            have HBe := Lib.hid hHeld
            obtain ⟨V7, hV7⟩ : ∃ V7, w5.setCell ⟨g, K * 3, none⟩ (.slice A5 N5 c5) = V7 := ⟨_, rfl⟩
            rw [hV7] at HR5 HBe
            rw [hV7]
            have hal7 : Below V7.heap.size V7 (V7.alloc (.cells #[.int .i64 (m : Int), .int .i64 (K : Int)] 73)) := (Below.refl _ _).alloc (Nat.le_refl _) _
            have HR6 := Lib.hid (HR5.out.below hal7)
            have HB6 := Lib.hid (HBe.out.alloc HBe.out.size (.cells #[.int .i64 (m : Int), .int .i64 (K : Int)] 73))
            have H6 := Lib.hid (one_el (T := 73) V7 (pairC (m, K)))
            have hpl : (pairsOf (posV W cells i)).length ≤ 1000000 := by simp [pairsOf, posV]; omega
            clear hHeld hal7 hV7 HSd HOA HOne d0 d0' kd k0 kf j5 HB9 HSt9
            go_wp2_with (at_builtin; refine append_el elPair _ rfl (.tmp 86) (.tmp 90) rfl w.heap.size _ (pairsOf (posV W cells i)) (pairC (m, K)) ⟨V7.heap.size, 0, none⟩ rfl HR6.out.pos rfl H6.out rfl (by intro u hu; simp only [pairC, List.mem_cons, List.not_mem_nil, or_false] at hu; rcases hu with rfl | rfl <;> rfl) hpl HB6.out.size ?_)
            intro g8 c8 w8 o8 gr8
            have hKd : K = done.length := by rw [HK9.out]; exact HR5.out.len
            have hpn : posV W cells (i + 1) = posV W cells i ++ [(m, K)] := by
              have h0 := pos_next W hW2 cells i HCl.out (HC.out.trans HSt.out)
              rw [h0, ← Hm9.out, ← hKd]
            have HRel : Hid (ARel w w8 W cells (i + 1) g c (.slice (some ⟨g8, 0, none⟩) ((pairsOf (posV W cells i)).length + 1) c8) rs So (.slice A5 N5 c5) done (cur ++ [⟨xr, xw, ⟨xa, xb, xc, xd, xe⟩⟩])) := Lib.hid ⟨by
              rw [hpn]
              have h0 := HR5.out.place (q := (m, K)) (by rw [pairs_snoc]; exact o8) gr8
              rw [HK9.out] at h0 ⊢
              first
                | exact h0
                | (rw [Hn9.out] at h0; exact h0), HC.out.trans HSt.out, grownG HB6.out gr8 HR6.out.pos HB6.out.size (Nat.le_refl _), Hs9.out⟩
            generalize Value.slice (some ⟨g8, 0, none⟩) ((pairsOf (posV W cells i)).length + 1) c8 = va8 at *
            clear o8 gr8 hpn hKd HR5 HR6 HB6 H6 hpl HBe
            go_wp2
            go_roundw
            case rel => exact ⟨i + 1, _, _, _, _, _, _, _, _, _, rfl, rfl, by omega, by go_num, by rw [Hn9.out], HRel⟩
            case measure => simp [RowKit.intOf]; omega
          refine AllReadyH.cons (o := { dst := some 82, op := Op.buildSlice 28 1 #[(0, Operand.tmp 81)], type := 28, pos := "ref.go:67", after := #[{ on := 10, ground := Ground.data }], guard := none }) rfl (fun Kq hKq => ?_) ?_
          · skip
            go_simp
            refine hKq.out _ _ ?_ (fun hHeld => ?_)
            · exact Below.alloc (by assumption) (Below.size (by assumption)) _
            clear hKq Kq
            try simp only [Act.put, List.setIfInBounds_toArray, List.set_cons_zero, List.set_cons_succ]
            refine wpAnyH_ready (rs := [6]) (by kernel_rfl) (by simp) ?_
            refine AllReadyH.cons (o := { dst := some 77, op := Op.load 28 (Operand.tmp 76), type := 28, pos := "ref.go:67", after := #[{ on := 5, ground := Ground.data }], guard := none }) rfl (fun Kq hKq => ?_) AllReadyH.nil
            go_simp
            refine hKq.out _ _ ?_ (fun hHeld => ?_)
            · assumption
            clear hKq Kq
            try simp only [Act.put, List.setIfInBounds_toArray, List.set_cons_zero, List.set_cons_succ]
            refine wpAnyH_ready (rs := [12]) (by kernel_rfl) (by simp) ?_
            refine AllReadyH.cons (o := { dst := some 83, op := Op.call { callee := Callee.builtin Builtin.append, args := #[Operand.tmp 77, Operand.tmp 82], argTypes := #[28, 28] }, type := 28, pos := "ref.go:67", after := #[{ on := 6, ground := Ground.data }, { on := 11, ground := Ground.data }], guard := none }) rfl (fun Kq hKq => ?_) AllReadyH.nil
            refine step_append_cells rfl (.tmp 77) (.tmp 82) rfl So _ (.slice (some ⟨wr.drew.heap.size, 0, none⟩) 1 1) cur [⟨xr, xw, ⟨xa, xb, xc, xd, xe⟩⟩] (by simp [Act.eval]) HOA.out (by simp [Act.eval]) HOne.out (by rw [List.length_singleton]; omega) (by simp; exact Nat.le_trans hSo9 (Nat.le_succ _)) ?_
            intro A5 N5 c5 w5 hN5 ho5 gr5
            have hNh := Lib.hid hN5
            have R5 := HSd.out.grow ho5 gr5
            rw [← HK9.out] at R5
            have j5 := HSd.out.grown_at gr5 kd kd.size
            have k0 := R5.2.1
            have kf := R5.2.2.2.2
            have HR5 := Lib.hid R5.1
            clear hN5 ho5 gr5 R5
            refine hKq.out _ _ ?_ (fun hHeld => ?_)
            · exact j5
            clear hKq Kq
            try simp only [Act.put, List.setIfInBounds_toArray, List.set_cons_zero, List.set_cons_succ]
            refine wpAnyH_take (i := 13) (oi := { dst := some 84, op := Op.indexAddr 48 (Operand.tmp 71) (Operand.tmp 72), type := 0, pos := "ref.go:67", after := #[{ on := 0, ground := Ground.data }, { on := 1, ground := Ground.data }, { on := 0, ground := Ground.phase }, { on := 1, ground := Ground.phase }, { on := 2, ground := Ground.phase }, { on := 3, ground := Ground.phase }, { on := 4, ground := Ground.phase }, { on := 5, ground := Ground.phase }, { on := 6, ground := Ground.phase }, { on := 7, ground := Ground.phase }, { on := 8, ground := Ground.phase }, { on := 9, ground := Ground.phase }, { on := 10, ground := Ground.phase }, { on := 11, ground := Ground.phase }, { on := 12, ground := Ground.phase }], guard := none }) (v := ?_) rfl (by kernel_rfl) (by kernel_rfl) (by kernel_rfl) (fun _ _ _ h => h) (Or.inl ⟨by rfl, ?_⟩) (by assumption) ?_
            rotate_left
            · intro w hSw
              try dsimp only at hSw
              go_simp <;> with_reducible rfl
            try simp only [Act.put, List.setIfInBounds_toArray, List.set_cons_zero, List.set_cons_succ]
            refine wpAnyH_take (i := 14) (oi := { dst := some 85, op := Op.fieldAddr 71 (Operand.tmp 84) 0, type := 0, pos := "ref.go:67", after := #[{ on := 13, ground := Ground.data }, { on := 0, ground := Ground.phase }, { on := 1, ground := Ground.phase }, { on := 2, ground := Ground.phase }, { on := 3, ground := Ground.phase }, { on := 4, ground := Ground.phase }, { on := 5, ground := Ground.phase }, { on := 6, ground := Ground.phase }, { on := 7, ground := Ground.phase }, { on := 8, ground := Ground.phase }, { on := 9, ground := Ground.phase }, { on := 10, ground := Ground.phase }, { on := 11, ground := Ground.phase }, { on := 12, ground := Ground.phase }], guard := none }) (v := ?_) rfl (by kernel_rfl) (by kernel_rfl) (by kernel_rfl) (fun _ _ _ h => h) (Or.inl ⟨by rfl, ?_⟩) (by assumption) ?_
            rotate_left
            · intro w hSw
              try dsimp only at hSw
              go_simp <;> with_reducible rfl
            try simp only [Act.put, List.setIfInBounds_toArray, List.set_cons_zero, List.set_cons_succ]
            refine wpAnyH_ready (rs := [15]) (by kernel_rfl) (by simp) ?_
            refine AllReadyH.cons (o := { dst := none, op := Op.store 28 (Operand.tmp 85) (Operand.tmp 83), type := 0, pos := "ref.go:67", after := #[{ on := 14, ground := Ground.data }, { on := 12, ground := Ground.data }, { on := 12, ground := Ground.chain }, { on := 0, ground := Ground.phase }, { on := 1, ground := Ground.phase }, { on := 2, ground := Ground.phase }, { on := 3, ground := Ground.phase }, { on := 4, ground := Ground.phase }, { on := 5, ground := Ground.phase }, { on := 6, ground := Ground.phase }, { on := 7, ground := Ground.phase }, { on := 8, ground := Ground.phase }, { on := 9, ground := Ground.phase }, { on := 10, ground := Ground.phase }, { on := 11, ground := Ground.phase }, { on := 12, ground := Ground.phase }], guard := none }) rfl (fun Kq hKq => ?_) AllReadyH.nil
            go_simp
            refine hKq.out _ _ ?_ (fun hHeld => ?_)
            · exact j5.setCell (p := ⟨g, K * 3, none⟩) Hg9.out.1 _
            clear hKq Kq
            try simp only [Act.put, List.setIfInBounds_toArray, List.set_cons_zero, List.set_cons_succ]
            refine wpAnyH_done (by kernel_rfl) ?_ _
            have HBe := Lib.hid hHeld
            obtain ⟨V7, hV7⟩ : ∃ V7, w5.setCell ⟨g, K * 3, none⟩ (.slice A5 N5 c5) = V7 := ⟨_, rfl⟩
            rw [hV7] at HR5 HBe
            rw [hV7]
            have hal7 : Below V7.heap.size V7 (V7.alloc (.cells #[.int .i64 (m : Int), .int .i64 (K : Int)] 73)) := (Below.refl _ _).alloc (Nat.le_refl _) _
            have HR6 := Lib.hid (HR5.out.below hal7)
            have HB6 := Lib.hid (HBe.out.alloc HBe.out.size (.cells #[.int .i64 (m : Int), .int .i64 (K : Int)] 73))
            have H6 := Lib.hid (one_el (T := 73) V7 (pairC (m, K)))
            have hpl : (pairsOf (posV W cells i)).length ≤ 1000000 := by simp [pairsOf, posV]; omega
            clear hHeld hal7 hV7 HSd HOA HOne d0 d0' kd k0 kf j5 HB9 HSt9
            go_wp2_with (at_builtin; refine append_el elPair _ rfl (.tmp 86) (.tmp 90) rfl w.heap.size _ (pairsOf (posV W cells i)) (pairC (m, K)) ⟨V7.heap.size, 0, none⟩ rfl HR6.out.pos rfl H6.out rfl (by intro u hu; simp only [pairC, List.mem_cons, List.not_mem_nil, or_false] at hu; rcases hu with rfl | rfl <;> rfl) hpl HB6.out.size ?_)
            intro g8 c8 w8 o8 gr8
            have hKd : K = done.length := by rw [HK9.out]; exact HR5.out.len
            have hpn : posV W cells (i + 1) = posV W cells i ++ [(m, K)] := by
              have h0 := pos_next W hW2 cells i HCl.out (HC.out.trans HSt.out)
              rw [h0, ← Hm9.out, ← hKd]
            have HRel : Hid (ARel w w8 W cells (i + 1) g c (.slice (some ⟨g8, 0, none⟩) ((pairsOf (posV W cells i)).length + 1) c8) rs So (.slice A5 N5 c5) done (cur ++ [⟨xr, xw, ⟨xa, xb, xc, xd, xe⟩⟩])) := Lib.hid ⟨by
              rw [hpn]
              have h0 := HR5.out.place (q := (m, K)) (by rw [pairs_snoc]; exact o8) gr8
              rw [HK9.out] at h0 ⊢
              first
                | exact h0
                | (rw [Hn9.out] at h0; exact h0), HC.out.trans HSt.out, grownG HB6.out gr8 HR6.out.pos HB6.out.size (Nat.le_refl _), Hs9.out⟩
            generalize Value.slice (some ⟨g8, 0, none⟩) ((pairsOf (posV W cells i)).length + 1) c8 = va8 at *
            clear o8 gr8 hpn hKd HR5 HR6 HB6 H6 hpl HBe
            go_wp2
            go_roundw
            case rel => exact ⟨i + 1, _, _, _, _, _, _, _, _, _, rfl, rfl, by omega, by go_num, by rw [Hn9.out], HRel⟩
            case measure => simp [RowKit.intOf]; omega
          exact AllReadyH.nil
    · have hiN : i = N := by omega
      have glt : decide ((i : Int) < (N : Int)) = false := by simp; omega
      obtain ⟨D, hD⟩ : ∃ D, D = W - m := ⟨_, rfl⟩
      have zD : IntKind.i64.wrap ((W : Int) - (m : Int)) = (D : Int) := by rw [IntWalk.i64_in _ (by omega)]; omega
      have HEnd : Hid (done ++ [⟨cur ++ List.replicate D blC, false, false⟩] = lay blC wdC W cells ∧ posV W cells i = posV W cells cells.length) := Lib.hid (by
        have h0 := fold_end W hW2 cells
        rw [← HNl.out, ← hiN, HR.out.fold] at h0
        exact ⟨by rw [hD, Hm.out]; exact h0, by rw [hiN, HNl.out]⟩)
      have HSd := Lib.hid (HR.out.st.below (below_drew (Below.refl _ _) 1))
      have kd := below_drew HR.out.old 1
      have hg := HSd.out.gt
      have Hg := Lib.hid hg
      have d0 : wr.drew.cell? ⟨g, K * 3, none⟩ = some (.slice A0 m c0) := l0
      have KB : Hid (Calls Try.prog 38 #[.int .i64 (D : Int), .agg #[.int .u16 0, .int .u8 0, .int .u32 0, .int .u8 0, .int .u32 0]] wr.drew fun e w' => ∃ v, e = .returned v ∧ Lies w' v (List.replicate D blC) ∧ Below wr.drew.heap.size wr.drew w' ∧ Below w.heap.size w w') := Lib.hid ((blanks_any (D : Int) zeroAa wr.drew (by omega)).mono fun e w' ⟨v, he, ho, hb⟩ => ⟨v, he, by have h0 := own_lies ho; rwa [Int.toNat_natCast] at h0, hb, kd.trans (hb.mono kd.size)⟩)
      have hDl : D ≤ 400 := by omega
      have hcl : cur.length ≤ 400 := by have := Hm.out; omega
      have HD := Lib.hid hD
      have hSo : So ≤ wr.drew.heap.size := HSd.out.bs.2
      clear hiN hg HR hD
      go_wp2
      refine wp_region_held_drew (S := fun V => Below w.heap.size w V) (by kernel_rfl) ?_ (fun hHeld => ?_)
      · exact kd
      refine wpAnyH_take (i := 0) (oi := { dst := some 95, op := Op.move (Operand.tmp 6), type := 48, pos := "ref.go:71", after := #[], guard := none }) (v := ?_) rfl (by kernel_rfl) (by kernel_rfl) (by kernel_rfl) (fun _ _ _ h => h) (Or.inl ⟨by rfl, ?_⟩) (by assumption) ?_
      rotate_left
      · intro w hSw
        try dsimp only at hSw
        go_simp <;> with_reducible rfl
      try simp only [Act.put, List.setIfInBounds_toArray, List.set_cons_zero, List.set_cons_succ]
      refine wpAnyH_take (i := 1) (oi := { dst := some 96, op := Op.move (Operand.tmp 11), type := 3, pos := "ref.go:71", after := #[], guard := none }) (v := ?_) rfl (by kernel_rfl) (by kernel_rfl) (by kernel_rfl) (fun _ _ _ h => h) (Or.inl ⟨by rfl, ?_⟩) (by assumption) ?_
      rotate_left
      · intro w hSw
        try dsimp only at hSw
        go_simp <;> with_reducible rfl
      try simp only [Act.put, List.setIfInBounds_toArray, List.set_cons_zero, List.set_cons_succ]
      refine wpAnyH_take (i := 2) (oi := { dst := some 97, op := Op.move (Operand.tmp 6), type := 48, pos := "ref.go:71", after := #[], guard := none }) (v := ?_) rfl (by kernel_rfl) (by kernel_rfl) (by kernel_rfl) (fun _ _ _ h => h) (Or.inl ⟨by rfl, ?_⟩) (by assumption) ?_
      rotate_left
      · intro w hSw
        try dsimp only at hSw
        go_simp <;> with_reducible rfl
      try simp only [Act.put, List.setIfInBounds_toArray, List.set_cons_zero, List.set_cons_succ]
      refine wpAnyH_take (i := 3) (oi := { dst := some 98, op := Op.move (Operand.tmp 11), type := 3, pos := "ref.go:71", after := #[], guard := none }) (v := ?_) rfl (by kernel_rfl) (by kernel_rfl) (by kernel_rfl) (fun _ _ _ h => h) (Or.inl ⟨by rfl, ?_⟩) (by assumption) ?_
      rotate_left
      · intro w hSw
        try dsimp only at hSw
        go_simp <;> with_reducible rfl
      try simp only [Act.put, List.setIfInBounds_toArray, List.set_cons_zero, List.set_cons_succ]
      refine wpAnyH_take (i := 4) (oi := { dst := some 99, op := Op.indexAddr 48 (Operand.tmp 97) (Operand.tmp 98), type := 0, pos := "ref.go:71", after := #[{ on := 2, ground := Ground.data }, { on := 3, ground := Ground.data }], guard := none }) (v := ?_) rfl (by kernel_rfl) (by kernel_rfl) (by kernel_rfl) (fun _ _ _ h => h) (Or.inl ⟨by rfl, ?_⟩) (by assumption) ?_
      rotate_left
      · intro w hSw
        try dsimp only at hSw
        go_simp <;> with_reducible rfl
      try simp only [Act.put, List.setIfInBounds_toArray, List.set_cons_zero, List.set_cons_succ]
      refine wpAnyH_take (i := 5) (oi := { dst := some 100, op := Op.fieldAddr 71 (Operand.tmp 99) 0, type := 0, pos := "ref.go:71", after := #[{ on := 4, ground := Ground.data }], guard := none }) (v := ?_) rfl (by kernel_rfl) (by kernel_rfl) (by kernel_rfl) (fun _ _ _ h => h) (Or.inl ⟨by rfl, ?_⟩) (by assumption) ?_
      rotate_left
      · intro w hSw
        try dsimp only at hSw
        go_simp <;> with_reducible rfl
      try simp only [Act.put, List.setIfInBounds_toArray, List.set_cons_zero, List.set_cons_succ]
      refine wpAnyH_take (i := 7) (oi := { dst := some 102, op := Op.move (Operand.tmp 1), type := 3, pos := "ref.go:71", after := #[], guard := none }) (v := ?_) rfl (by kernel_rfl) (by kernel_rfl) (by kernel_rfl) (fun _ _ _ h => h) (Or.inl ⟨by rfl, ?_⟩) (by assumption) ?_
      rotate_left
      · intro w hSw
        try dsimp only at hSw
        go_simp <;> with_reducible rfl
      try simp only [Act.put, List.setIfInBounds_toArray, List.set_cons_zero, List.set_cons_succ]
      refine wpAnyH_take (i := 8) (oi := { dst := some 103, op := Op.move (Operand.tmp 6), type := 48, pos := "ref.go:71", after := #[], guard := none }) (v := ?_) rfl (by kernel_rfl) (by kernel_rfl) (by kernel_rfl) (fun _ _ _ h => h) (Or.inl ⟨by rfl, ?_⟩) (by assumption) ?_
      rotate_left
      · intro w hSw
        try dsimp only at hSw
        go_simp <;> with_reducible rfl
      try simp only [Act.put, List.setIfInBounds_toArray, List.set_cons_zero, List.set_cons_succ]
      refine wpAnyH_take (i := 9) (oi := { dst := some 104, op := Op.move (Operand.tmp 11), type := 3, pos := "ref.go:71", after := #[], guard := none }) (v := ?_) rfl (by kernel_rfl) (by kernel_rfl) (by kernel_rfl) (fun _ _ _ h => h) (Or.inl ⟨by rfl, ?_⟩) (by assumption) ?_
      rotate_left
      · intro w hSw
        try dsimp only at hSw
        go_simp <;> with_reducible rfl
      try simp only [Act.put, List.setIfInBounds_toArray, List.set_cons_zero, List.set_cons_succ]
      refine wpAnyH_take (i := 10) (oi := { dst := some 105, op := Op.indexAddr 48 (Operand.tmp 103) (Operand.tmp 104), type := 0, pos := "ref.go:71", after := #[{ on := 8, ground := Ground.data }, { on := 9, ground := Ground.data }], guard := none }) (v := ?_) rfl (by kernel_rfl) (by kernel_rfl) (by kernel_rfl) (fun _ _ _ h => h) (Or.inl ⟨by rfl, ?_⟩) (by assumption) ?_
      rotate_left
      · intro w hSw
        try dsimp only at hSw
        go_simp <;> with_reducible rfl
      try simp only [Act.put, List.setIfInBounds_toArray, List.set_cons_zero, List.set_cons_succ]
      refine wpAnyH_take (i := 11) (oi := { dst := some 106, op := Op.fieldAddr 71 (Operand.tmp 105) 0, type := 0, pos := "ref.go:71", after := #[{ on := 10, ground := Ground.data }], guard := none }) (v := ?_) rfl (by kernel_rfl) (by kernel_rfl) (by kernel_rfl) (fun _ _ _ h => h) (Or.inl ⟨by rfl, ?_⟩) (by assumption) ?_
      rotate_left
      · intro w hSw
        try dsimp only at hSw
        go_simp <;> with_reducible rfl
      try simp only [Act.put, List.setIfInBounds_toArray, List.set_cons_zero, List.set_cons_succ]
      refine wpAnyH_take (i := 15) (oi := { dst := some 110, op := Op.build 36 #[], type := 36, pos := "ref.go:71", after := #[], guard := none }) (v := ?_) rfl (by kernel_rfl) (by kernel_rfl) (by kernel_rfl) (fun _ _ _ h => h) (Or.inl ⟨by rfl, ?_⟩) (by assumption) ?_
      rotate_left
      · intro w hSw
        try dsimp only at hSw
        go_simp <;> with_reducible rfl
      try simp only [Act.put, List.setIfInBounds_toArray, List.set_cons_zero, List.set_cons_succ]
      refine wpAnyH_ready (rs := [6, 12]) (by kernel_rfl) (by simp) ?_
      refine AllReadyH.cons (o := { dst := some 101, op := Op.load 28 (Operand.tmp 100), type := 28, pos := "ref.go:71", after := #[{ on := 5, ground := Ground.data }], guard := none }) rfl (fun Kq hKq => ?_) ?_
      · skip
        go_simp
        refine hKq.out _ _ ?_ (fun hHeld => ?_)
        · assumption
        clear hKq Kq
        try simp only [Act.put, List.setIfInBounds_toArray, List.set_cons_zero, List.set_cons_succ]
        refine wpAnyH_ready (rs := [12]) (by kernel_rfl) (by simp) ?_
        refine AllReadyH.cons (o := { dst := some 107, op := Op.load 28 (Operand.tmp 106), type := 28, pos := "ref.go:71", after := #[{ on := 11, ground := Ground.data }], guard := none }) rfl (fun Kq hKq => ?_) AllReadyH.nil
        go_simp
        refine hKq.out _ _ ?_ (fun hHeld => ?_)
        · assumption
        clear hKq Kq
        try simp only [Act.put, List.setIfInBounds_toArray, List.set_cons_zero, List.set_cons_succ]
        refine wpAnyH_take (i := 13) (oi := { dst := some 108, op := Op.call { callee := Callee.builtin Builtin.len, args := #[Operand.tmp 107], argTypes := #[28] }, type := 3, pos := "ref.go:71", after := #[{ on := 12, ground := Ground.data }], guard := none }) (v := ?_) rfl (by kernel_rfl) (by kernel_rfl) (by kernel_rfl) (fun _ _ _ h => h) (Or.inl ⟨by rfl, ?_⟩) (by assumption) ?_
        rotate_left
        · intro w hSw
          try dsimp only at hSw
          go_simp <;> with_reducible rfl
        try simp only [Act.put, List.setIfInBounds_toArray, List.set_cons_zero, List.set_cons_succ]
        refine wpAnyH_take (i := 14) (oi := { dst := some 109, op := Op.binOp BinOp.sub 3 (Operand.tmp 102) (Operand.tmp 108) 3, type := 3, pos := "ref.go:71", after := #[{ on := 7, ground := Ground.data }, { on := 13, ground := Ground.data }], guard := none }) (v := ?_) rfl (by kernel_rfl) (by kernel_rfl) (by kernel_rfl) (fun _ _ _ h => h) (Or.inl ⟨by rfl, ?_⟩) (by assumption) ?_
        rotate_left
        · intro w hSw
          try dsimp only at hSw
          go_simp <;> with_reducible rfl
        try simp only [Act.put, List.setIfInBounds_toArray, List.set_cons_zero, List.set_cons_succ]
        refine wpAnyH_ready (rs := [16]) (by kernel_rfl) (by simp) ?_
        refine AllReadyH.cons (o := { dst := some 111, op := Op.call { callee := Callee.value (Operand.func 38), args := #[Operand.tmp 109, Operand.tmp 110], argTypes := #[3, 36] }, type := 28, pos := "ref.go:71", after := #[{ on := 14, ground := Ground.data }, { on := 15, ground := Ground.data }], guard := none }) rfl (fun Kq hKq => ?_) AllReadyH.nil
        go_simp
        refine (KB.out).mono ?_
        rintro e v1 ⟨u1, rfl, hl1, j0, j1⟩
        have d1 := (j0.cell (p := ⟨g, K * 3, none⟩) Hg.out.2).trans d0
        have HV := Lib.hid (HSd.out.below j0)
        try (go_wp2_with fail)
        refine hKq.out _ _ ?_ (fun hHeld => ?_)
        · exact j1
        clear hKq Kq
        try simp only [Act.put, List.setIfInBounds_toArray, List.set_cons_zero, List.set_cons_succ]
        refine wpAnyH_ready (rs := [17]) (by kernel_rfl) (by simp) ?_
        refine AllReadyH.cons (o := { dst := some 112, op := Op.call { callee := Callee.builtin Builtin.append, args := #[Operand.tmp 101, Operand.tmp 111], argTypes := #[28, 28] }, type := 28, pos := "ref.go:71", after := #[{ on := 6, ground := Ground.data }, { on := 16, ground := Ground.data }, { on := 16, ground := Ground.chain }], guard := none }) rfl (fun Kq hKq => ?_) AllReadyH.nil
        refine step_append_cells rfl (.tmp 101) (.tmp 111) rfl So _ u1 cur (List.replicate D blC) (by simp [Act.eval]) HV.out.opn (by simp [Act.eval]) hl1 (by rw [List.length_replicate]; omega) (Nat.le_trans hSo j0.size) ?_
        intro A5 N5 c5 w5 hN5 ho5 gr5
        have hNh := Lib.hid hN5
        have R5 := HV.out.grow0 ho5 gr5
        rw [← HK.out] at R5
        have j5 : Below w.heap.size w w5 := j1.grown gr5 j1.size fun b e => Nat.le_trans HV.out.bs.1 (ownC_typed HV.out.opn b e).1
        have k0 := R5.2.1
        have kf := R5.2.2.2.2
        have HR5 := Lib.hid R5.1
        clear hN5 ho5 gr5 R5
        refine hKq.out _ _ ?_ (fun hHeld => ?_)
        · exact j5
        clear hKq Kq
        try simp only [Act.put, List.setIfInBounds_toArray, List.set_cons_zero, List.set_cons_succ]
        refine wpAnyH_take (i := 18) (oi := { dst := some 113, op := Op.indexAddr 48 (Operand.tmp 95) (Operand.tmp 96), type := 0, pos := "ref.go:71", after := #[{ on := 0, ground := Ground.data }, { on := 1, ground := Ground.data }, { on := 0, ground := Ground.phase }, { on := 1, ground := Ground.phase }, { on := 2, ground := Ground.phase }, { on := 3, ground := Ground.phase }, { on := 4, ground := Ground.phase }, { on := 5, ground := Ground.phase }, { on := 6, ground := Ground.phase }, { on := 7, ground := Ground.phase }, { on := 8, ground := Ground.phase }, { on := 9, ground := Ground.phase }, { on := 10, ground := Ground.phase }, { on := 11, ground := Ground.phase }, { on := 12, ground := Ground.phase }, { on := 13, ground := Ground.phase }, { on := 14, ground := Ground.phase }, { on := 15, ground := Ground.phase }, { on := 16, ground := Ground.phase }, { on := 17, ground := Ground.phase }], guard := none }) (v := ?_) rfl (by kernel_rfl) (by kernel_rfl) (by kernel_rfl) (fun _ _ _ h => h) (Or.inl ⟨by rfl, ?_⟩) (by assumption) ?_
        rotate_left
        · intro w hSw
          try dsimp only at hSw
          go_simp <;> with_reducible rfl
        try simp only [Act.put, List.setIfInBounds_toArray, List.set_cons_zero, List.set_cons_succ]
        refine wpAnyH_take (i := 19) (oi := { dst := some 114, op := Op.fieldAddr 71 (Operand.tmp 113) 0, type := 0, pos := "ref.go:71", after := #[{ on := 18, ground := Ground.data }, { on := 0, ground := Ground.phase }, { on := 1, ground := Ground.phase }, { on := 2, ground := Ground.phase }, { on := 3, ground := Ground.phase }, { on := 4, ground := Ground.phase }, { on := 5, ground := Ground.phase }, { on := 6, ground := Ground.phase }, { on := 7, ground := Ground.phase }, { on := 8, ground := Ground.phase }, { on := 9, ground := Ground.phase }, { on := 10, ground := Ground.phase }, { on := 11, ground := Ground.phase }, { on := 12, ground := Ground.phase }, { on := 13, ground := Ground.phase }, { on := 14, ground := Ground.phase }, { on := 15, ground := Ground.phase }, { on := 16, ground := Ground.phase }, { on := 17, ground := Ground.phase }], guard := none }) (v := ?_) rfl (by kernel_rfl) (by kernel_rfl) (by kernel_rfl) (fun _ _ _ h => h) (Or.inl ⟨by rfl, ?_⟩) (by assumption) ?_
        rotate_left
        · intro w hSw
          try dsimp only at hSw
          go_simp <;> with_reducible rfl
        try simp only [Act.put, List.setIfInBounds_toArray, List.set_cons_zero, List.set_cons_succ]
        refine wpAnyH_ready (rs := [20]) (by kernel_rfl) (by simp) ?_
        refine AllReadyH.cons (o := { dst := none, op := Op.store 28 (Operand.tmp 114) (Operand.tmp 112), type := 0, pos := "ref.go:71", after := #[{ on := 19, ground := Ground.data }, { on := 17, ground := Ground.data }, { on := 17, ground := Ground.chain }, { on := 0, ground := Ground.phase }, { on := 1, ground := Ground.phase }, { on := 2, ground := Ground.phase }, { on := 3, ground := Ground.phase }, { on := 4, ground := Ground.phase }, { on := 5, ground := Ground.phase }, { on := 6, ground := Ground.phase }, { on := 7, ground := Ground.phase }, { on := 8, ground := Ground.phase }, { on := 9, ground := Ground.phase }, { on := 10, ground := Ground.phase }, { on := 11, ground := Ground.phase }, { on := 12, ground := Ground.phase }, { on := 13, ground := Ground.phase }, { on := 14, ground := Ground.phase }, { on := 15, ground := Ground.phase }, { on := 16, ground := Ground.phase }, { on := 17, ground := Ground.phase }], guard := none }) rfl (fun Kq hKq => ?_) AllReadyH.nil
        go_simp
        refine hKq.out _ _ ?_ (fun hHeld => ?_)
        · exact j5.setCell (p := ⟨g, K * 3, none⟩) Hg.out.1 _
        clear hKq Kq
        try simp only [Act.put, List.setIfInBounds_toArray, List.set_cons_zero, List.set_cons_succ]
        refine wpAnyH_done (by kernel_rfl) ?_ _
        have HF : Hid (AtPost w W cells (.returned (.tuple #[.slice (some ⟨g, 0, none⟩) n c, va])) (w5.setCell ⟨g, K * 3, none⟩ (.slice A5 N5 c5))) := Lib.hid ⟨_, _, rfl, by
          rw [← HEnd.out.1, Hn.out]
          exact HR5.out.lines, by
          rw [← HEnd.out.2]
          exact HR5.out.pos, by assumption⟩
        clear HR5 k0 kf j5 HEnd
        go_wp2
        go_ret2
        exact HF.out
      refine AllReadyH.cons (o := { dst := some 107, op := Op.load 28 (Operand.tmp 106), type := 28, pos := "ref.go:71", after := #[{ on := 11, ground := Ground.data }], guard := none }) rfl (fun Kq hKq => ?_) ?_
      · skip
        go_simp
        refine hKq.out _ _ ?_ (fun hHeld => ?_)
        · assumption
        clear hKq Kq
        try simp only [Act.put, List.setIfInBounds_toArray, List.set_cons_zero, List.set_cons_succ]
        refine wpAnyH_take (i := 13) (oi := { dst := some 108, op := Op.call { callee := Callee.builtin Builtin.len, args := #[Operand.tmp 107], argTypes := #[28] }, type := 3, pos := "ref.go:71", after := #[{ on := 12, ground := Ground.data }], guard := none }) (v := ?_) rfl (by kernel_rfl) (by kernel_rfl) (by kernel_rfl) (fun _ _ _ h => h) (Or.inl ⟨by rfl, ?_⟩) (by assumption) ?_
        rotate_left
        · intro w hSw
          try dsimp only at hSw
          go_simp <;> with_reducible rfl
        try simp only [Act.put, List.setIfInBounds_toArray, List.set_cons_zero, List.set_cons_succ]
        refine wpAnyH_take (i := 14) (oi := { dst := some 109, op := Op.binOp BinOp.sub 3 (Operand.tmp 102) (Operand.tmp 108) 3, type := 3, pos := "ref.go:71", after := #[{ on := 7, ground := Ground.data }, { on := 13, ground := Ground.data }], guard := none }) (v := ?_) rfl (by kernel_rfl) (by kernel_rfl) (by kernel_rfl) (fun _ _ _ h => h) (Or.inl ⟨by rfl, ?_⟩) (by assumption) ?_
        rotate_left
        · intro w hSw
          try dsimp only at hSw
          go_simp <;> with_reducible rfl
        try simp only [Act.put, List.setIfInBounds_toArray, List.set_cons_zero, List.set_cons_succ]
        refine wpAnyH_ready (rs := [6, 16]) (by kernel_rfl) (by simp) ?_
        refine AllReadyH.cons (o := { dst := some 101, op := Op.load 28 (Operand.tmp 100), type := 28, pos := "ref.go:71", after := #[{ on := 5, ground := Ground.data }], guard := none }) rfl (fun Kq hKq => ?_) ?_
        · skip
          go_simp
          refine hKq.out _ _ ?_ (fun hHeld => ?_)
          · assumption
          clear hKq Kq
          try simp only [Act.put, List.setIfInBounds_toArray, List.set_cons_zero, List.set_cons_succ]
          refine wpAnyH_ready (rs := [16]) (by kernel_rfl) (by simp) ?_
          refine AllReadyH.cons (o := { dst := some 111, op := Op.call { callee := Callee.value (Operand.func 38), args := #[Operand.tmp 109, Operand.tmp 110], argTypes := #[3, 36] }, type := 28, pos := "ref.go:71", after := #[{ on := 14, ground := Ground.data }, { on := 15, ground := Ground.data }], guard := none }) rfl (fun Kq hKq => ?_) AllReadyH.nil
          go_simp
          refine (KB.out).mono ?_
          rintro e v1 ⟨u1, rfl, hl1, j0, j1⟩
          have d1 := (j0.cell (p := ⟨g, K * 3, none⟩) Hg.out.2).trans d0
          have HV := Lib.hid (HSd.out.below j0)
          try (go_wp2_with fail)
          refine hKq.out _ _ ?_ (fun hHeld => ?_)
          · exact j1
          clear hKq Kq
          try simp only [Act.put, List.setIfInBounds_toArray, List.set_cons_zero, List.set_cons_succ]
          refine wpAnyH_ready (rs := [17]) (by kernel_rfl) (by simp) ?_
          refine AllReadyH.cons (o := { dst := some 112, op := Op.call { callee := Callee.builtin Builtin.append, args := #[Operand.tmp 101, Operand.tmp 111], argTypes := #[28, 28] }, type := 28, pos := "ref.go:71", after := #[{ on := 6, ground := Ground.data }, { on := 16, ground := Ground.data }, { on := 16, ground := Ground.chain }], guard := none }) rfl (fun Kq hKq => ?_) AllReadyH.nil
          refine step_append_cells rfl (.tmp 101) (.tmp 111) rfl So _ u1 cur (List.replicate D blC) (by simp [Act.eval]) HV.out.opn (by simp [Act.eval]) hl1 (by rw [List.length_replicate]; omega) (Nat.le_trans hSo j0.size) ?_
          intro A5 N5 c5 w5 hN5 ho5 gr5
          have hNh := Lib.hid hN5
          have R5 := HV.out.grow0 ho5 gr5
          rw [← HK.out] at R5
          have j5 : Below w.heap.size w w5 := j1.grown gr5 j1.size fun b e => Nat.le_trans HV.out.bs.1 (ownC_typed HV.out.opn b e).1
          have k0 := R5.2.1
          have kf := R5.2.2.2.2
          have HR5 := Lib.hid R5.1
          clear hN5 ho5 gr5 R5
          refine hKq.out _ _ ?_ (fun hHeld => ?_)
          · exact j5
          clear hKq Kq
          try simp only [Act.put, List.setIfInBounds_toArray, List.set_cons_zero, List.set_cons_succ]
          refine wpAnyH_take (i := 18) (oi := { dst := some 113, op := Op.indexAddr 48 (Operand.tmp 95) (Operand.tmp 96), type := 0, pos := "ref.go:71", after := #[{ on := 0, ground := Ground.data }, { on := 1, ground := Ground.data }, { on := 0, ground := Ground.phase }, { on := 1, ground := Ground.phase }, { on := 2, ground := Ground.phase }, { on := 3, ground := Ground.phase }, { on := 4, ground := Ground.phase }, { on := 5, ground := Ground.phase }, { on := 6, ground := Ground.phase }, { on := 7, ground := Ground.phase }, { on := 8, ground := Ground.phase }, { on := 9, ground := Ground.phase }, { on := 10, ground := Ground.phase }, { on := 11, ground := Ground.phase }, { on := 12, ground := Ground.phase }, { on := 13, ground := Ground.phase }, { on := 14, ground := Ground.phase }, { on := 15, ground := Ground.phase }, { on := 16, ground := Ground.phase }, { on := 17, ground := Ground.phase }], guard := none }) (v := ?_) rfl (by kernel_rfl) (by kernel_rfl) (by kernel_rfl) (fun _ _ _ h => h) (Or.inl ⟨by rfl, ?_⟩) (by assumption) ?_
          rotate_left
          · intro w hSw
            try dsimp only at hSw
            go_simp <;> with_reducible rfl
          try simp only [Act.put, List.setIfInBounds_toArray, List.set_cons_zero, List.set_cons_succ]
          refine wpAnyH_take (i := 19) (oi := { dst := some 114, op := Op.fieldAddr 71 (Operand.tmp 113) 0, type := 0, pos := "ref.go:71", after := #[{ on := 18, ground := Ground.data }, { on := 0, ground := Ground.phase }, { on := 1, ground := Ground.phase }, { on := 2, ground := Ground.phase }, { on := 3, ground := Ground.phase }, { on := 4, ground := Ground.phase }, { on := 5, ground := Ground.phase }, { on := 6, ground := Ground.phase }, { on := 7, ground := Ground.phase }, { on := 8, ground := Ground.phase }, { on := 9, ground := Ground.phase }, { on := 10, ground := Ground.phase }, { on := 11, ground := Ground.phase }, { on := 12, ground := Ground.phase }, { on := 13, ground := Ground.phase }, { on := 14, ground := Ground.phase }, { on := 15, ground := Ground.phase }, { on := 16, ground := Ground.phase }, { on := 17, ground := Ground.phase }], guard := none }) (v := ?_) rfl (by kernel_rfl) (by kernel_rfl) (by kernel_rfl) (fun _ _ _ h => h) (Or.inl ⟨by rfl, ?_⟩) (by assumption) ?_
          rotate_left
          · intro w hSw
            try dsimp only at hSw
            go_simp <;> with_reducible rfl
          try simp only [Act.put, List.setIfInBounds_toArray, List.set_cons_zero, List.set_cons_succ]
          refine wpAnyH_ready (rs := [20]) (by kernel_rfl) (by simp) ?_
          refine AllReadyH.cons (o := { dst := none, op := Op.store 28 (Operand.tmp 114) (Operand.tmp 112), type := 0, pos := "ref.go:71", after := #[{ on := 19, ground := Ground.data }, { on := 17, ground := Ground.data }, { on := 17, ground := Ground.chain }, { on := 0, ground := Ground.phase }, { on := 1, ground := Ground.phase }, { on := 2, ground := Ground.phase }, { on := 3, ground := Ground.phase }, { on := 4, ground := Ground.phase }, { on := 5, ground := Ground.phase }, { on := 6, ground := Ground.phase }, { on := 7, ground := Ground.phase }, { on := 8, ground := Ground.phase }, { on := 9, ground := Ground.phase }, { on := 10, ground := Ground.phase }, { on := 11, ground := Ground.phase }, { on := 12, ground := Ground.phase }, { on := 13, ground := Ground.phase }, { on := 14, ground := Ground.phase }, { on := 15, ground := Ground.phase }, { on := 16, ground := Ground.phase }, { on := 17, ground := Ground.phase }], guard := none }) rfl (fun Kq hKq => ?_) AllReadyH.nil
          go_simp
          refine hKq.out _ _ ?_ (fun hHeld => ?_)
          · exact j5.setCell (p := ⟨g, K * 3, none⟩) Hg.out.1 _
          clear hKq Kq
          try simp only [Act.put, List.setIfInBounds_toArray, List.set_cons_zero, List.set_cons_succ]
          refine wpAnyH_done (by kernel_rfl) ?_ _
          have HF : Hid (AtPost w W cells (.returned (.tuple #[.slice (some ⟨g, 0, none⟩) n c, va])) (w5.setCell ⟨g, K * 3, none⟩ (.slice A5 N5 c5))) := Lib.hid ⟨_, _, rfl, by
            rw [← HEnd.out.1, Hn.out]
            exact HR5.out.lines, by
            rw [← HEnd.out.2]
            exact HR5.out.pos, by assumption⟩
          clear HR5 k0 kf j5 HEnd
          go_wp2
          go_ret2
          exact HF.out
        refine AllReadyH.cons (o := { dst := some 111, op := Op.call { callee := Callee.value (Operand.func 38), args := #[Operand.tmp 109, Operand.tmp 110], argTypes := #[3, 36] }, type := 28, pos := "ref.go:71", after := #[{ on := 14, ground := Ground.data }, { on := 15, ground := Ground.data }], guard := none }) rfl (fun Kq hKq => ?_) ?_
        · skip
          go_simp
          refine (KB.out).mono ?_
          rintro e v1 ⟨u1, rfl, hl1, j0, j1⟩
          have d1 := (j0.cell (p := ⟨g, K * 3, none⟩) Hg.out.2).trans d0
          have HV := Lib.hid (HSd.out.below j0)
          try (go_wp2_with fail)
          refine hKq.out _ _ ?_ (fun hHeld => ?_)
          · exact j1
          clear hKq Kq
          try simp only [Act.put, List.setIfInBounds_toArray, List.set_cons_zero, List.set_cons_succ]
          refine wpAnyH_ready (rs := [6]) (by kernel_rfl) (by simp) ?_
          refine AllReadyH.cons (o := { dst := some 101, op := Op.load 28 (Operand.tmp 100), type := 28, pos := "ref.go:71", after := #[{ on := 5, ground := Ground.data }], guard := none }) rfl (fun Kq hKq => ?_) AllReadyH.nil
          go_simp
          refine hKq.out _ _ ?_ (fun hHeld => ?_)
          · assumption
          clear hKq Kq
          try simp only [Act.put, List.setIfInBounds_toArray, List.set_cons_zero, List.set_cons_succ]
          refine wpAnyH_ready (rs := [17]) (by kernel_rfl) (by simp) ?_
          refine AllReadyH.cons (o := { dst := some 112, op := Op.call { callee := Callee.builtin Builtin.append, args := #[Operand.tmp 101, Operand.tmp 111], argTypes := #[28, 28] }, type := 28, pos := "ref.go:71", after := #[{ on := 6, ground := Ground.data }, { on := 16, ground := Ground.data }, { on := 16, ground := Ground.chain }], guard := none }) rfl (fun Kq hKq => ?_) AllReadyH.nil
          refine step_append_cells rfl (.tmp 101) (.tmp 111) rfl So _ u1 cur (List.replicate D blC) (by simp [Act.eval]) HV.out.opn (by simp [Act.eval]) hl1 (by rw [List.length_replicate]; omega) (Nat.le_trans hSo j0.size) ?_
          intro A5 N5 c5 w5 hN5 ho5 gr5
          have hNh := Lib.hid hN5
          have R5 := HV.out.grow0 ho5 gr5
          rw [← HK.out] at R5
          have j5 : Below w.heap.size w w5 := j1.grown gr5 j1.size fun b e => Nat.le_trans HV.out.bs.1 (ownC_typed HV.out.opn b e).1
          have k0 := R5.2.1
          have kf := R5.2.2.2.2
          have HR5 := Lib.hid R5.1
          clear hN5 ho5 gr5 R5
          refine hKq.out _ _ ?_ (fun hHeld => ?_)
          · exact j5
          clear hKq Kq
          try simp only [Act.put, List.setIfInBounds_toArray, List.set_cons_zero, List.set_cons_succ]
          refine wpAnyH_take (i := 18) (oi := { dst := some 113, op := Op.indexAddr 48 (Operand.tmp 95) (Operand.tmp 96), type := 0, pos := "ref.go:71", after := #[{ on := 0, ground := Ground.data }, { on := 1, ground := Ground.data }, { on := 0, ground := Ground.phase }, { on := 1, ground := Ground.phase }, { on := 2, ground := Ground.phase }, { on := 3, ground := Ground.phase }, { on := 4, ground := Ground.phase }, { on := 5, ground := Ground.phase }, { on := 6, ground := Ground.phase }, { on := 7, ground := Ground.phase }, { on := 8, ground := Ground.phase }, { on := 9, ground := Ground.phase }, { on := 10, ground := Ground.phase }, { on := 11, ground := Ground.phase }, { on := 12, ground := Ground.phase }, { on := 13, ground := Ground.phase }, { on := 14, ground := Ground.phase }, { on := 15, ground := Ground.phase }, { on := 16, ground := Ground.phase }, { on := 17, ground := Ground.phase }], guard := none }) (v := ?_) rfl (by kernel_rfl) (by kernel_rfl) (by kernel_rfl) (fun _ _ _ h => h) (Or.inl ⟨by rfl, ?_⟩) (by assumption) ?_
          rotate_left
          · intro w hSw
            try dsimp only at hSw
            go_simp <;> with_reducible rfl
          try simp only [Act.put, List.setIfInBounds_toArray, List.set_cons_zero, List.set_cons_succ]
          refine wpAnyH_take (i := 19) (oi := { dst := some 114, op := Op.fieldAddr 71 (Operand.tmp 113) 0, type := 0, pos := "ref.go:71", after := #[{ on := 18, ground := Ground.data }, { on := 0, ground := Ground.phase }, { on := 1, ground := Ground.phase }, { on := 2, ground := Ground.phase }, { on := 3, ground := Ground.phase }, { on := 4, ground := Ground.phase }, { on := 5, ground := Ground.phase }, { on := 6, ground := Ground.phase }, { on := 7, ground := Ground.phase }, { on := 8, ground := Ground.phase }, { on := 9, ground := Ground.phase }, { on := 10, ground := Ground.phase }, { on := 11, ground := Ground.phase }, { on := 12, ground := Ground.phase }, { on := 13, ground := Ground.phase }, { on := 14, ground := Ground.phase }, { on := 15, ground := Ground.phase }, { on := 16, ground := Ground.phase }, { on := 17, ground := Ground.phase }], guard := none }) (v := ?_) rfl (by kernel_rfl) (by kernel_rfl) (by kernel_rfl) (fun _ _ _ h => h) (Or.inl ⟨by rfl, ?_⟩) (by assumption) ?_
          rotate_left
          · intro w hSw
            try dsimp only at hSw
            go_simp <;> with_reducible rfl
          try simp only [Act.put, List.setIfInBounds_toArray, List.set_cons_zero, List.set_cons_succ]
          refine wpAnyH_ready (rs := [20]) (by kernel_rfl) (by simp) ?_
          refine AllReadyH.cons (o := { dst := none, op := Op.store 28 (Operand.tmp 114) (Operand.tmp 112), type := 0, pos := "ref.go:71", after := #[{ on := 19, ground := Ground.data }, { on := 17, ground := Ground.data }, { on := 17, ground := Ground.chain }, { on := 0, ground := Ground.phase }, { on := 1, ground := Ground.phase }, { on := 2, ground := Ground.phase }, { on := 3, ground := Ground.phase }, { on := 4, ground := Ground.phase }, { on := 5, ground := Ground.phase }, { on := 6, ground := Ground.phase }, { on := 7, ground := Ground.phase }, { on := 8, ground := Ground.phase }, { on := 9, ground := Ground.phase }, { on := 10, ground := Ground.phase }, { on := 11, ground := Ground.phase }, { on := 12, ground := Ground.phase }, { on := 13, ground := Ground.phase }, { on := 14, ground := Ground.phase }, { on := 15, ground := Ground.phase }, { on := 16, ground := Ground.phase }, { on := 17, ground := Ground.phase }], guard := none }) rfl (fun Kq hKq => ?_) AllReadyH.nil
          go_simp
          refine hKq.out _ _ ?_ (fun hHeld => ?_)
          · exact j5.setCell (p := ⟨g, K * 3, none⟩) Hg.out.1 _
          clear hKq Kq
          try simp only [Act.put, List.setIfInBounds_toArray, List.set_cons_zero, List.set_cons_succ]
          refine wpAnyH_done (by kernel_rfl) ?_ _
          have HF : Hid (AtPost w W cells (.returned (.tuple #[.slice (some ⟨g, 0, none⟩) n c, va])) (w5.setCell ⟨g, K * 3, none⟩ (.slice A5 N5 c5))) := Lib.hid ⟨_, _, rfl, by
            rw [← HEnd.out.1, Hn.out]
            exact HR5.out.lines, by
            rw [← HEnd.out.2]
            exact HR5.out.pos, by assumption⟩
          clear HR5 k0 kf j5 HEnd
          go_wp2
          go_ret2
          exact HF.out
        exact AllReadyH.nil
      exact AllReadyH.nil
end Go.Proofs.Ytifolcfnknlmdaa.Re
