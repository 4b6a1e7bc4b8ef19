/- Layer 10: AttrKnown's walk. -/
import Derived.Test.YtjmojhohecbipaaDoorAtK
import Derived.Test.YtjmojhohecbipaaDoorAtV
set_option linter.unusedVariables false
namespace Go.Proofs.YtjmojhohecbipaaDoor.A10
open Go.RowKit Sgr

def k1V : At := ⟨8, ⟨1, 200⟩, ⟨0, 0⟩⟩
def k2V : At := ⟨0, ⟨2, 66051⟩, ⟨0, 0⟩⟩
def k4V : At := ⟨1, ⟨0, 0⟩, ⟨0, 0⟩⟩
theorem known_1 : applyV zeroA [[38], [5], [200], [4]] = k1V := by decide +kernel
theorem known_2 : applyV zeroA [[38, 2, 0, 1, 2, 3]] = k2V := by decide +kernel
theorem known_4 : applyV zeroA [[48], [7], [1]] = k4V := by decide +kernel
theorem k2_ok : AtOk k2V := ⟨by decide, ⟨by decide, by decide⟩, ⟨by decide, by decide⟩⟩
theorem atk1 : atA k1V = .agg #[.int .u16 8, .int .u8 1, .int .u32 200, .int .u8 0, .int .u32 0] := rfl
theorem atk2 : atA k2V = .agg #[.int .u16 0, .int .u8 2, .int .u32 66051, .int .u8 0, .int .u32 0] := rfl
theorem atk4 : atA k4V = .agg #[.int .u16 1, .int .u8 0, .int .u32 0, .int .u8 0, .int .u32 0] := rfl
theorem ak_0 : atCells zeroA = #[.int .u16 0, .int .u8 0, .int .u32 0, .int .u8 0, .int .u32 0] := rfl
theorem ak_1 : atCells k1V = #[.int .u16 8, .int .u8 1, .int .u32 200, .int .u8 0, .int .u32 0] := rfl
theorem ak_2 : atCells k2V = #[.int .u16 0, .int .u8 2, .int .u32 66051, .int .u8 0, .int .u32 0] := rfl
theorem ak_4 : atCells k4V = #[.int .u16 1, .int .u8 0, .int .u32 0, .int .u8 0, .int .u32 0] := rfl
/-- An attribute's cells, as numbers. -/
theorem AttrAt.all5 {w : World} {b : Nat} {a : At} (h : AttrAt w b a) : (w.cell? ⟨b, 0, none⟩ = (atCells a)[0]? ∧ w.cell? ⟨b, 1, none⟩ = (atCells a)[1]? ∧ w.cell? ⟨b, 2, none⟩ = (atCells a)[2]?) ∧ w.cell? ⟨b, 3, none⟩ = (atCells a)[3]? ∧ w.cell? ⟨b, 4, none⟩ = (atCells a)[4]? := ⟨⟨cell_blk h 0, cell_blk h 1, cell_blk h 2⟩, cell_blk h 3, cell_blk h 4⟩
theorem text_1 : strL (betweenV k4V zeroA) = ⟨#[27, 91, 48, 109]⟩ := by decide +kernel
theorem text_2 : strL (betweenV k1V k1V) = ⟨#[]⟩ := by decide +kernel
theorem text_3 : strL (betweenV zeroA ⟨256, ⟨0, 0⟩, ⟨0, 0⟩⟩) = ⟨#[]⟩ := by decide +kernel
set_option maxRecDepth 100000 in
set_option maxHeartbeats 4000000 in
theorem known_law (w : World) (hv : AtVars w) : Calls Tryd.prog 3 #[] w fun e w' => e = .returned (.bool true) ∧ Below w.heap.size w w' := by
  have HN := Lib.hid hv.2
  have HV := Lib.hid hv
  clear hv
  go_enter Tryd.func3, Tryd.ntmps3
  go_wp2_with fail
  have A0 : Hid (∀ o, Below w.heap.size w (w.alloc o)) := Lib.hid fun o => (Below.refl _ _).alloc (Nat.le_refl _) _
  refine (apply_lits zeroA k1V zero_ok [[38], [5], [200], [4]] (by decide) (by decide) (by decide) known_1 (w.alloc (.cells (atCells zeroA) 27)) (HN.out.below (A0.out _)) (w.heap.size + 1) (by simp) rfl rfl rfl).mono ?_
  rintro e w1 ⟨rfl, b1⟩
  have N1 : AttrAt w1 w.heap.size zeroA := AttrAt.below (Deep.blk_alloc_new _ _) b1
  have B1 := Lib.hid ((A0.out _).trans (b1.mono (A0.out _).size))
  have N1h := Lib.hid N1
  have P1 : ∀ o, AttrAt (w1.alloc o) w.heap.size zeroA := fun o => N1h.out.below ((Below.refl _ _).alloc (Nat.le_refl _) _)
  have n0 : ∀ o, (w1.alloc o).cell? ⟨w.heap.size, 0, none⟩ = some (.int .u16 0) := fun o => (P1 o).c0
  have n1 : ∀ o, (w1.alloc o).cell? ⟨w.heap.size, 1, none⟩ = some (.int .u8 0) := fun o => (P1 o).c1
  have n2 : ∀ o, (w1.alloc o).cell? ⟨w.heap.size, 2, none⟩ = some (.int .u32 0) := fun o => (P1 o).c2
  have n3 : ∀ o, (w1.alloc o).cell? ⟨w.heap.size, 3, none⟩ = some (.int .u8 0) := fun o => (P1 o).c3
  have n4 : ∀ o, (w1.alloc o).cell? ⟨w.heap.size, 4, none⟩ = some (.int .u32 0) := fun o => (P1 o).c4
  clear b1 N1 P1
  rw [atk1]
  go_wp2_with fail
  have A1 : Hid (∀ o, Below w.heap.size w (w1.alloc o)) := Lib.hid fun o => B1.out.alloc B1.out.size _
  refine (apply_lits zeroA k2V zero_ok [[38, 2, 0, 1, 2, 3]] (by decide) (by decide) (by decide) known_2 (w1.alloc (.cells (atCells k1V) 27)) (HN.out.below (A1.out _)) (w1.heap.size + 1) (by simp) rfl rfl rfl).mono ?_
  rintro e w2 ⟨rfl, b2⟩
  have N2 := Lib.hid (AttrAt.below (N1h.out.below ((Below.refl _ _).alloc (Nat.le_refl _) (.cells (atCells k1V) 27))) b2)
  have M2 : Hid (AttrAt w2 w1.heap.size k1V) := Lib.hid (AttrAt.below (Deep.blk_alloc_new _ _) b2)
  have B2 := Lib.hid ((A1.out _).trans (b2.mono (A1.out _).size))
  clear b2 n0 n1 n2 n3 n4
  rw [atk2]
  go_wp2_with fail
  have A2 : Hid (∀ o, Below w.heap.size w (w2.alloc o)) := Lib.hid fun o => B2.out.alloc B2.out.size _
  rw [← atk2]
  refine (apply_none k2V none 0 _).mono ?_
  rintro e w3 ⟨rfl, b3⟩
  have N3 := Lib.hid (AttrAt.below (N2.out.below ((Below.refl _ _).alloc (Nat.le_refl _) _)) b3)
  have M3 := Lib.hid (AttrAt.below (M2.out.below ((Below.refl _ _).alloc (Nat.le_refl _) _)) b3)
  have O3 : Hid (AttrAt w3 w2.heap.size k2V) := Lib.hid (AttrAt.below (Deep.blk_alloc_new _ _) b3)
  have B3 := Lib.hid ((A2.out _).trans (b3.mono (A2.out _).size))
  have P3 : ∀ o, AttrAt (w3.alloc o) w.heap.size zeroA := fun o => N3.out.below ((Below.refl _ _).alloc (Nat.le_refl _) _)
  have n0 : ∀ o, (w3.alloc o).cell? ⟨w.heap.size, 0, none⟩ = some (.int .u16 0) := fun o => (P3 o).c0
  have n1 : ∀ o, (w3.alloc o).cell? ⟨w.heap.size, 1, none⟩ = some (.int .u8 0) := fun o => (P3 o).c1
  have n2 : ∀ o, (w3.alloc o).cell? ⟨w.heap.size, 2, none⟩ = some (.int .u32 0) := fun o => (P3 o).c2
  have n3 : ∀ o, (w3.alloc o).cell? ⟨w.heap.size, 3, none⟩ = some (.int .u8 0) := fun o => (P3 o).c3
  have n4 : ∀ o, (w3.alloc o).cell? ⟨w.heap.size, 4, none⟩ = some (.int .u32 0) := fun o => (P3 o).c4
  clear b3 P3 N2 M2
  rw [at0]
  go_wp2_with fail
  have A3 : Hid (∀ o, Below w.heap.size w (w3.alloc o)) := Lib.hid fun o => B3.out.alloc B3.out.size _
  refine (apply_lits zeroA k4V zero_ok [[48], [7], [1]] (by decide) (by decide) (by decide) known_4 (w3.alloc (.cells (atCells zeroA) 27)) (HN.out.below (A3.out _)) (w3.heap.size + 1) (by simp) rfl rfl rfl).mono ?_
  rintro e w4 ⟨rfl, b4⟩
  have N4 := Lib.hid (AttrAt.below (N3.out.below ((Below.refl _ _).alloc (Nat.le_refl _) (.cells (atCells zeroA) 27))) b4)
  have M4 := Lib.hid (AttrAt.below (M3.out.below ((Below.refl _ _).alloc (Nat.le_refl _) (.cells (atCells zeroA) 27))) b4)
  have O4 := Lib.hid (AttrAt.below (O3.out.below ((Below.refl _ _).alloc (Nat.le_refl _) (.cells (atCells zeroA) 27))) b4)
  have Q4 : Hid (AttrAt w4 w3.heap.size zeroA) := Lib.hid (AttrAt.below (Deep.blk_alloc_new _ _) b4)
  have B4 := Lib.hid ((A3.out _).trans (b4.mono (A3.out _).size))
  clear b4 n0 n1 n2 n3 n4 N3 M3 O3
  rw [atk4]
  go_wp2_with fail
  obtain ⟨W, hW⟩ : ∃ W, W = w4.alloc (.cells (atCells k4V) 27) := ⟨_, rfl⟩
  have hWb : Below w4.heap.size w4 W := by rw [hW]; exact (Below.refl _ _).alloc (Nat.le_refl _) _
  have R5 : AttrAt W w4.heap.size k4V := by rw [hW]; exact Deep.blk_alloc_new _ _
  have KN : Hid (∀ V, Below W.heap.size W V → AttrAt V w.heap.size zeroA ∧ AttrAt V w1.heap.size k1V ∧ AttrAt V w2.heap.size k2V ∧ AttrAt V w3.heap.size zeroA ∧ AttrAt V w4.heap.size k4V) := Lib.hid fun V hV =>
    ⟨(N4.out.below hWb).below hV, (M4.out.below hWb).below hV, (O4.out.below hWb).below hV, (Q4.out.below hWb).below hV, R5.below hV⟩
  have B5 := Lib.hid (B4.out.trans (hWb.mono B4.out.size))
  have HWx : w4.alloc (.cells #[.int .u16 1, .int .u8 0, .int .u32 0, .int .u8 0, .int .u32 0] 27) = W := hW.symm
  rw [HWx]
  clear HWx hW hWb R5 N4 M4 O4 Q4
  refine (awake_any W (HV.out.1.below B5.out) (HV.out.2.below B5.out)).mono ?_
  rintro e y0 ⟨rfl, j0⟩
  have p00 : y0.cell? ⟨w.heap.size, 0, none⟩ = some (.int .u16 0) := (KN.out _ (by assumption)).1.c0
  have p01 : y0.cell? ⟨w.heap.size, 1, none⟩ = some (.int .u8 0) := (KN.out _ (by assumption)).1.c1
  have p02 : y0.cell? ⟨w.heap.size, 2, none⟩ = some (.int .u32 0) := (KN.out _ (by assumption)).1.c2
  have p03 : y0.cell? ⟨w.heap.size, 3, none⟩ = some (.int .u8 0) := (KN.out _ (by assumption)).1.c3
  have p04 : y0.cell? ⟨w.heap.size, 4, none⟩ = some (.int .u32 0) := (KN.out _ (by assumption)).1.c4
  have p10 : y0.cell? ⟨w1.heap.size, 0, none⟩ = some (.int .u16 8) := (KN.out _ (by assumption)).2.1.c0
  have p11 : y0.cell? ⟨w1.heap.size, 1, none⟩ = some (.int .u8 1) := (KN.out _ (by assumption)).2.1.c1
  have p12 : y0.cell? ⟨w1.heap.size, 2, none⟩ = some (.int .u32 200) := (KN.out _ (by assumption)).2.1.c2
  have p13 : y0.cell? ⟨w1.heap.size, 3, none⟩ = some (.int .u8 0) := (KN.out _ (by assumption)).2.1.c3
  have p14 : y0.cell? ⟨w1.heap.size, 4, none⟩ = some (.int .u32 0) := (KN.out _ (by assumption)).2.1.c4
  have p20 : y0.cell? ⟨w2.heap.size, 0, none⟩ = some (.int .u16 0) := (KN.out _ (by assumption)).2.2.1.c0
  have p21 : y0.cell? ⟨w2.heap.size, 1, none⟩ = some (.int .u8 2) := (KN.out _ (by assumption)).2.2.1.c1
  have p22 : y0.cell? ⟨w2.heap.size, 2, none⟩ = some (.int .u32 66051) := (KN.out _ (by assumption)).2.2.1.c2
  have p23 : y0.cell? ⟨w2.heap.size, 3, none⟩ = some (.int .u8 0) := (KN.out _ (by assumption)).2.2.1.c3
  have p24 : y0.cell? ⟨w2.heap.size, 4, none⟩ = some (.int .u32 0) := (KN.out _ (by assumption)).2.2.1.c4
  have p30 : y0.cell? ⟨w3.heap.size, 0, none⟩ = some (.int .u16 0) := (KN.out _ (by assumption)).2.2.2.1.c0
  have p31 : y0.cell? ⟨w3.heap.size, 1, none⟩ = some (.int .u8 0) := (KN.out _ (by assumption)).2.2.2.1.c1
  have p32 : y0.cell? ⟨w3.heap.size, 2, none⟩ = some (.int .u32 0) := (KN.out _ (by assumption)).2.2.2.1.c2
  have p33 : y0.cell? ⟨w3.heap.size, 3, none⟩ = some (.int .u8 0) := (KN.out _ (by assumption)).2.2.2.1.c3
  have p34 : y0.cell? ⟨w3.heap.size, 4, none⟩ = some (.int .u32 0) := (KN.out _ (by assumption)).2.2.2.1.c4
  have p40 : y0.cell? ⟨w4.heap.size, 0, none⟩ = some (.int .u16 1) := (KN.out _ (by assumption)).2.2.2.2.c0
  have p41 : y0.cell? ⟨w4.heap.size, 1, none⟩ = some (.int .u8 0) := (KN.out _ (by assumption)).2.2.2.2.c1
  have p42 : y0.cell? ⟨w4.heap.size, 2, none⟩ = some (.int .u32 0) := (KN.out _ (by assumption)).2.2.2.2.c2
  have p43 : y0.cell? ⟨w4.heap.size, 3, none⟩ = some (.int .u8 0) := (KN.out _ (by assumption)).2.2.2.2.c3
  have p44 : y0.cell? ⟨w4.heap.size, 4, none⟩ = some (.int .u32 0) := (KN.out _ (by assumption)).2.2.2.2.c4
  have J0 := Lib.hid j0
  have Eq1 : ∀ V, (binOp .eql 27 (.agg #[.int .u16 8, .int .u8 1, .int .u32 200, .int .u8 0, .int .u32 0]) (.agg #[.int .u16 8, .int .u8 1, .int .u32 200, .int .u8 0, .int .u32 0])).run Tryd.prog V = .ok (.bool true) V := fun V => by rw [← atk1]; exact eq_same k1V V
  have Eq2 : ∀ V, (binOp .eql 27 (.agg #[.int .u16 0, .int .u8 2, .int .u32 66051, .int .u8 0, .int .u32 0]) (.agg #[.int .u16 0, .int .u8 2, .int .u32 66051, .int .u8 0, .int .u32 0])).run Tryd.prog V = .ok (.bool true) V := fun V => by rw [← atk2]; exact eq_same k2V V
  have Eq0 : ∀ V, (binOp .eql 27 (.agg #[.int .u16 0, .int .u8 0, .int .u32 0, .int .u8 0, .int .u32 0]) (.agg #[.int .u16 0, .int .u8 0, .int .u32 0, .int .u8 0, .int .u32 0])).run Tryd.prog V = .ok (.bool true) V := fun V => by rw [← at0]; exact eq_same zeroA V
  have Eq4 : ∀ V, (binOp .eql 27 (.agg #[.int .u16 1, .int .u8 0, .int .u32 0, .int .u8 0, .int .u32 0]) (.agg #[.int .u16 1, .int .u8 0, .int .u32 0, .int .u8 0, .int .u32 0])).run Tryd.prog V = .ok (.bool true) V := fun V => by rw [← atk4]; exact eq_same k4V V
  clear j0
  have Gy0 : Hid (Calls Tryd.prog 10 #[.agg #[.int .u16 1, .int .u8 0, .int .u32 0, .int .u8 0, .int .u32 0], .agg #[.int .u16 0, .int .u8 0, .int .u32 0, .int .u8 0, .int .u32 0]] y0 fun e w' => e = .returned (.string ⟨#[27, 91, 48, 109]⟩) ∧ Below y0.heap.size y0 w') := Lib.hid (by
    have := pbetween_any k4V zeroA zero_ok y0 (HV.out.1.below (B5.out.trans (J0.out.mono B5.out.size))) (HV.out.2.below (B5.out.trans (J0.out.mono B5.out.size)))
    rw [text_1] at this
    exact this)
  go_wp2_with fail
  refine Gy0.out.mono ?_
  rintro e y1 ⟨rfl, i1⟩
  have j1 : Below W.heap.size W y1 := J0.out.trans (i1.mono J0.out.size)
  have q10 : y1.cell? ⟨w1.heap.size, 0, none⟩ = some (.int .u16 8) := (KN.out _ (by assumption)).2.1.c0
  have q11 : y1.cell? ⟨w1.heap.size, 1, none⟩ = some (.int .u8 1) := (KN.out _ (by assumption)).2.1.c1
  have q12 : y1.cell? ⟨w1.heap.size, 2, none⟩ = some (.int .u32 200) := (KN.out _ (by assumption)).2.1.c2
  have q13 : y1.cell? ⟨w1.heap.size, 3, none⟩ = some (.int .u8 0) := (KN.out _ (by assumption)).2.1.c3
  have q14 : y1.cell? ⟨w1.heap.size, 4, none⟩ = some (.int .u32 0) := (KN.out _ (by assumption)).2.1.c4
  have J1 := Lib.hid j1
  clear j1 i1 Gy0 p00 p01 p02 p03 p04 p10 p11 p12 p13 p14 p20 p21 p22 p23 p24 p30 p31 p32 p33 p34 p40 p41 p42 p43 p44
  have Gy1 : Hid (Calls Tryd.prog 10 #[.agg #[.int .u16 8, .int .u8 1, .int .u32 200, .int .u8 0, .int .u32 0], .agg #[.int .u16 8, .int .u8 1, .int .u32 200, .int .u8 0, .int .u32 0]] y1 fun e w' => e = .returned (.string ⟨#[]⟩) ∧ Below y1.heap.size y1 w') := Lib.hid (by
    have := pbetween_any k1V k1V ⟨by decide, ⟨by decide, by decide⟩, ⟨by decide, by decide⟩⟩ y1 (HV.out.1.below (B5.out.trans (J1.out.mono B5.out.size))) (HV.out.2.below (B5.out.trans (J1.out.mono B5.out.size)))
    rw [text_2] at this
    exact this)
  go_wp2_with fail
  refine Gy1.out.mono ?_
  rintro e y2 ⟨rfl, i2⟩
  have j2 : Below W.heap.size W y2 := J1.out.trans (i2.mono J1.out.size)
  have r00 : y2.cell? ⟨w.heap.size, 0, none⟩ = some (.int .u16 0) := (KN.out _ (by assumption)).1.c0
  have r01 : y2.cell? ⟨w.heap.size, 1, none⟩ = some (.int .u8 0) := (KN.out _ (by assumption)).1.c1
  have r02 : y2.cell? ⟨w.heap.size, 2, none⟩ = some (.int .u32 0) := (KN.out _ (by assumption)).1.c2
  have r03 : y2.cell? ⟨w.heap.size, 3, none⟩ = some (.int .u8 0) := (KN.out _ (by assumption)).1.c3
  have r04 : y2.cell? ⟨w.heap.size, 4, none⟩ = some (.int .u32 0) := (KN.out _ (by assumption)).1.c4
  have J2 := Lib.hid j2
  clear j2 i2 Gy1 q10 q11 q12 q13 q14
  have Gy2 : Hid (Calls Tryd.prog 10 #[.agg #[.int .u16 0, .int .u8 0, .int .u32 0, .int .u8 0, .int .u32 0], .agg #[.int .u16 256, .int .u8 0, .int .u32 0, .int .u8 0, .int .u32 0]] y2 fun e w' => e = .returned (.string ⟨#[]⟩) ∧ Below y2.heap.size y2 w') := Lib.hid (by
    have := pbetween_any zeroA ⟨256, ⟨0, 0⟩, ⟨0, 0⟩⟩ ⟨by decide, ⟨by decide, by decide⟩, ⟨by decide, by decide⟩⟩ y2 (HV.out.1.below (B5.out.trans (J2.out.mono B5.out.size))) (HV.out.2.below (B5.out.trans (J2.out.mono B5.out.size)))
    rw [text_3] at this
    exact this)
  go_wp2_with fail
  refine Gy2.out.mono ?_
  rintro e y3 ⟨rfl, i3⟩
  have J3 := Lib.hid (J2.out.trans (i3.mono J2.out.size))
  have R1 : Hid (∀ V, Calls Tryd.prog 11 #[.agg #[.int .u16 0, .int .u8 0, .int .u32 0, .int .u8 1, .int .u32 256]] V fun e w' => e = .returned (.bool false) ∧ Below V.heap.size V w') := Lib.hid fun V => pright_any ⟨0, ⟨0, 0⟩, ⟨1, 256⟩⟩ ⟨by decide, ⟨by decide, by decide⟩, ⟨by decide, by decide⟩⟩ V
  have R2 : Hid (∀ V, Calls Tryd.prog 11 #[.agg #[.int .u16 0, .int .u8 0, .int .u32 1, .int .u8 0, .int .u32 0]] V fun e w' => e = .returned (.bool false) ∧ Below V.heap.size V w') := Lib.hid fun V => pright_any ⟨0, ⟨0, 1⟩, ⟨0, 0⟩⟩ ⟨by decide, ⟨by decide, by decide⟩, ⟨by decide, by decide⟩⟩ V
  have R3 : Hid (∀ V, Calls Tryd.prog 11 #[.agg #[.int .u16 0, .int .u8 3, .int .u32 0, .int .u8 0, .int .u32 0]] V fun e w' => e = .returned (.bool false) ∧ Below V.heap.size V w') := Lib.hid fun V => pright_any ⟨0, ⟨3, 0⟩, ⟨0, 0⟩⟩ ⟨by decide, ⟨by decide, by decide⟩, ⟨by decide, by decide⟩⟩ V
  clear i3 Gy2 r00 r01 r02 r03 r04
  go_wp2_with fail
  refine (R1.out _).mono ?_
  rintro e y4 ⟨rfl, i4⟩
  have J4 := Lib.hid (J3.out.trans (i4.mono J3.out.size))
  clear i4
  go_wp2_with fail
  refine (R2.out _).mono ?_
  rintro e y5 ⟨rfl, i5⟩
  have J5 := Lib.hid (J4.out.trans (i5.mono J4.out.size))
  clear i5
  go_wp2_with fail
  refine (R3.out _).mono ?_
  rintro e y6 ⟨rfl, i6⟩
  have J6 := Lib.hid (J5.out.trans (i6.mono J5.out.size))
  clear i6
  go_wp2
  go_ret
  exact ⟨rfl, B5.out.trans (J6.out.mono B5.out.size)⟩
end Go.Proofs.YtjmojhohecbipaaDoor.A10
