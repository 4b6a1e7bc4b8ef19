/- Layer 10: Apply, Between, Right told of whatever attributes; the chapter's examples (awake). -/
import Derived.Test.YtkenaccnmmmooaaDoorAtW
import Derived.Test.YtkenaccnmmmooaaDoorAtZ
set_option linter.unusedVariables false
namespace Go.Proofs.YtkenaccnmmmooaaDoor.A10
open Go.RowKit Sgr

theorem bet_yes {a b : At} (h : a = b ∨ rightB b = false) : strL (betweenV a b) = ⟨#[]⟩ := by unfold betweenV; rw [if_pos h]; rfl
theorem pbetween_any (a b : At) (hb : AtOk b) (w : World) (hV : Vars w) (hN : Nums w) : Calls Tryd.prog 5 #[atA a, atA b] w fun e w' => e = .returned (.string (strL (betweenV a b))) ∧ Below w.heap.size w w' := by
  by_cases h : a = b ∨ rightB b = false
  · rw [bet_yes h]
    exact pbetween_no a b hb h w
  · unfold betweenV
    rw [if_neg h]
    exact pbetween_yes a b hb (fun e => h (Or.inl e)) (by cases hr : rightB b; exact absurd (Or.inr hr) h; rfl) w hV hN

/-! ### literals -/
def intsR (l : List Int) : List Value := l.map fun x => Value.int .i64 x
def litW (w : World) : List (List Int) → World
  | [] => w
  | l :: r => litW (w.alloc (.cells (intsR l).toArray 3)) r
def topV (b : Nat) : List (List Int) → List Value
  | [] => []
  | l :: r => .slice (some ⟨b, 0, none⟩) l.length l.length :: topV (b + 1) r
def litT (w : World) (rows : List (List Int)) : World := (litW w rows).alloc (.cells (topV w.heap.size rows).toArray 36)
theorem add_z (g k : Nat) : (⟨g, 0, none⟩ : Addr).add k = ⟨g, k, none⟩ := by
  unfold Addr.add
  split
  · rename_i h; subst h; rfl
  · simp
theorem litW_size (w : World) (rows : List (List Int)) : (litW w rows).heap.size = w.heap.size + rows.length := by
  induction rows generalizing w with
  | nil => rfl
  | cons l r ih => show (litW _ r).heap.size = _; rw [ih]; simp; omega
theorem litW_below (w : World) (rows : List (List Int)) : Below w.heap.size w (litW w rows) := by
  induction rows generalizing w with
  | nil => exact Below.refl _ _
  | cons l r ih => exact ((Below.refl _ _).alloc (Nat.le_refl _) _).trans ((ih _).mono (by simp))
theorem litT_below (w : World) (rows : List (List Int)) : Below w.heap.size w (litT w rows) := (litW_below w rows).alloc (litW_below w rows).size _
def InB (rows : List (List Int)) : Prop := ∀ l ∈ rows, ∀ x ∈ l, -9223372036854775808 ≤ x ∧ x ≤ 9223372036854775807
theorem lit_row (w : World) (l : List Int) (hb : ∀ x ∈ l, -9223372036854775808 ≤ x ∧ x ≤ 9223372036854775807) : RowL (w.alloc (.cells (intsR l).toArray 3)) (some ⟨w.heap.size, 0, none⟩) l := fun j hj => by
  have e : partV l j = l[j] := by unfold partV; rw [List.getD_eq_getElem?_getD, List.getElem?_eq_getElem hj]; rfl
  refine ⟨_, rfl, ?_, ?_⟩
  · rw [add_z, cell_of (Deep.blk_alloc_new _ _), e]
    simp [intsR, hj]
  · rw [e]
    exact hb _ (List.getElem_mem _)
theorem litW_rows (rows : List (List Int)) (w : World) (hb : InB rows) (r : Nat) (hr : r < rows.length) : RowL (litW w rows) (some ⟨w.heap.size + r, 0, none⟩) (rows.getD r []) ∧ (topV w.heap.size rows)[r]? = some (.slice (some ⟨w.heap.size + r, 0, none⟩) (rows.getD r []).length (rows.getD r []).length) := by
  induction rows generalizing w r with
  | nil => simp at hr
  | cons l rows ih =>
    cases r with
    | zero => exact ⟨(lit_row w l (hb l (List.mem_cons_self ..))).below (litW_below _ rows), rfl⟩
    | succ r =>
      have h := ih (w.alloc (.cells (intsR l).toArray 3)) (fun x hx => hb x (List.mem_cons_of_mem _ hx)) r (by simpa using hr)
      rw [Deep.nblk_alloc, show w.heap.size + 1 + r = w.heap.size + (r + 1) by omega] at h
      exact h
theorem lit_tab (w : World) (rows : List (List Int)) (hb : InB rows) (hl : ∀ l ∈ rows, l.length ≤ 9223372036854775807) : TabL (litT w rows) (some ⟨w.heap.size + rows.length, 0, none⟩) rows := fun r hr => by
  obtain ⟨h1, h2⟩ := litW_rows rows w hb r hr
  refine ⟨_, _, _, rfl, ?_, ⟨Nat.le_refl _, ?_⟩, h1.below ((Below.refl _ _).alloc (Nat.le_refl _) _)⟩
  · rw [add_z]
    have := Deep.blk_alloc_new (litW w rows) (.cells (topV w.heap.size rows).toArray 36)
    rw [litW_size] at this
    refine (cell_of this r).trans ?_
    simpa using h2
  · refine hl _ ?_
    rw [List.getD_eq_getElem?_getD, List.getElem?_eq_getElem hr]
    exact List.getElem_mem _
theorem apply_lit (a : At) (ha : AtOk a) (rows : List (List Int)) (hb : InB rows) (hl : ∀ l ∈ rows, l.length ≤ 9223372036854775807) (hl2 : rows.length ≤ 9223372036854775807) (w : World) (hN : Nums w) :
    Calls Tryd.prog 8 #[atA a, .slice (some ⟨w.heap.size + rows.length, 0, none⟩) rows.length rows.length] (litT w rows) fun e w' => e = .returned (atA (applyV a rows)) ∧ Below w.heap.size w w' :=
  (apply_any a ha rows _ _ _ _ (lit_tab w rows hb hl) rfl (Nat.le_refl _) hl2 (hN.below (litT_below w rows))).mono fun _ _ h => ⟨h.1, (litT_below w rows).trans (h.2.mono (litT_below w rows).size)⟩

def a1V : At := ⟨1, ⟨1, 1⟩, ⟨0, 0⟩⟩
theorem a1_ok : AtOk a1V := ⟨by decide, ⟨by decide, by decide⟩, ⟨by decide, by decide⟩⟩
theorem awake_one : applyV zeroA [[1], [31]] = a1V := by decide +kernel
theorem awake_two : applyV a1V [[22], [39]] = zeroA := by decide +kernel
theorem awake_text : strL (betweenV zeroA a1V) = ⟨#[27, 91, 48, 59, 49, 59, 51, 56, 58, 53, 58, 49, 109]⟩ := by decide +kernel
theorem in_small {rows : List (List Int)} (h : ∀ l ∈ rows, ∀ x ∈ l, 0 ≤ x ∧ x ≤ 1000) : InB rows := fun l hl x hx => by have := h l hl x hx; omega

theorem small_len {rows : List (List Int)} (h : ∀ l ∈ rows, l.length ≤ 100) : ∀ l ∈ rows, l.length ≤ 9223372036854775807 := fun l hl => by have := h l hl; omega
/-- The same, in whatever world was made so. -/
theorem apply_lits (a b : At) (ha : AtOk a) (rows : List (List Int)) (h1 : ∀ l ∈ rows, ∀ x ∈ l, 0 ≤ x ∧ x ≤ 1000) (h2 : ∀ l ∈ rows, l.length ≤ 100) (h3 : rows.length ≤ 100) (hab : applyV a rows = b) (w : World) (hN : Nums w) (b0 : Nat) (hb : w.heap.size = b0) {v v2 : Value} {W : World} (hv : v = atA a) (hv2 : v2 = .slice (some ⟨b0 + rows.length, 0, none⟩) rows.length rows.length) (hW : W = (litW w rows).alloc (.cells (topV b0 rows).toArray 36)) :
    Calls Tryd.prog 8 #[v, v2] W fun e w' => e = .returned (atA b) ∧ Below w.heap.size w w' := by
  subst hab hv hv2 hW hb
  exact apply_lit a ha rows (in_small h1) (small_len h2) (by omega) w hN
theorem eq_same (a : At) (w : World) : (binOp .eql 27 (atA a) (atA a)).run Tryd.prog w = .ok (.bool true) w := by
  have := eq_attr a a w
  rw [show decide (a = a) = true by simp] at this
  exact this
theorem at1 : atA a1V = .agg #[.int .u16 1, .int .u8 1, .int .u32 1, .int .u8 0, .int .u32 0] := rfl
theorem at0 : atA zeroA = .agg #[.int .u16 0, .int .u8 0, .int .u32 0, .int .u8 0, .int .u32 0] := rfl
set_option maxHeartbeats 1000000 in
theorem awake_any (w : World) (hV : Vars w) (hN : Nums w) : Calls Tryd.prog 4 #[] w fun e w' => e = .returned (.bool true) ∧ Below w.heap.size w w' := by
  have HN := Lib.hid hN
  have HV := Lib.hid hV
  have H3 : Hid (∀ V, Calls Tryd.prog 6 #[.agg #[.int .u16 1, .int .u8 1, .int .u32 1, .int .u8 0, .int .u32 0]] V fun e w' => e = .returned (.bool true) ∧ Below V.heap.size V w') := Lib.hid fun V => by
    rw [← at1]
    exact pright_any a1V a1_ok V
  have H4 : Hid (∀ V, Below w.heap.size w V → Calls Tryd.prog 5 #[.agg #[.int .u16 0, .int .u8 0, .int .u32 0, .int .u8 0, .int .u32 0], .agg #[.int .u16 1, .int .u8 1, .int .u32 1, .int .u8 0, .int .u32 0]] V fun e w' => e = .returned (.string ⟨#[27, 91, 48, 59, 49, 59, 51, 56, 58, 53, 58, 49, 109]⟩) ∧ Below V.heap.size V w') := Lib.hid fun V hV2 => by
    have := pbetween_any zeroA a1V a1_ok V (hV.below hV2) (hN.below hV2)
    rw [awake_text] at this
    rw [← at1, ← at0]
    exact this
  have E1 : ∀ W, (binOp .eql 27 (.agg #[.int .u16 1, .int .u8 1, .int .u32 1, .int .u8 0, .int .u32 0]) (.agg #[.int .u16 1, .int .u8 1, .int .u32 1, .int .u8 0, .int .u32 0])).run Tryd.prog W = .ok (.bool true) W := fun W => by rw [← at1]; exact eq_same a1V W
  have E2 : ∀ W, (binOp .eql 27 (.agg #[.int .u16 0, .int .u8 0, .int .u32 0, .int .u8 0, .int .u32 0]) (.agg #[.int .u16 0, .int .u8 0, .int .u32 0, .int .u8 0, .int .u32 0])).run Tryd.prog W = .ok (.bool true) W := fun W => by rw [← at0]; exact eq_same zeroA W
  clear hV hN
  go_enter Tryd.func4, Tryd.ntmps4
  go_wp2_with fail
  refine (apply_lits zeroA a1V zero_ok [[1], [31]] (by decide) (by decide) (by decide) awake_one w HN.out _ rfl rfl rfl rfl).mono ?_
  rintro e w1 ⟨rfl, b1⟩
  have B1 := Lib.hid b1
  clear b1
  rw [at1]
  go_wp2_with fail
  rw [← at1]
  have B1' : Hid (∀ o, Below w.heap.size w (w1.alloc o)) := Lib.hid fun o => B1.out.alloc B1.out.size _
  refine (apply_lits a1V zeroA a1_ok [[22], [39]] (by decide) (by decide) (by decide) awake_two (w1.alloc _) (HN.out.below (B1'.out _)) (w1.heap.size + 1) (by simp) rfl rfl rfl).mono ?_
  rintro e w2 ⟨rfl, b2⟩
  have B2 := Lib.hid ((B1'.out _).trans (b2.mono (B1'.out _).size))
  have QA : Hid (∀ i v, (#[.int .u16 1, .int .u8 1, .int .u32 1, .int .u8 0, .int .u32 0] : Array Value)[i]? = some v → ∀ V, Below w2.heap.size w2 V → V.cell? ⟨w1.heap.size, i, none⟩ = some v) := Lib.hid fun i v hi V hV => by
    have hs : w1.heap.size < (w1.alloc (.cells (#[.int .u16 1, .int .u8 1, .int .u32 1, .int .u8 0, .int .u32 0] : Array Value) 27)).heap.size := by simp
    refine (hV.cell (p := ⟨w1.heap.size, i, none⟩) (Nat.lt_of_lt_of_le hs b2.size)).trans ((b2.cell (p := ⟨w1.heap.size, i, none⟩) hs).trans ?_)
    exact (cell_of (Deep.blk_alloc_new _ _) i).trans hi
  obtain ⟨W3, hW3⟩ : ∃ W3, W3 = w2.alloc (.cells (#[.int .u16 0, .int .u8 0, .int .u32 0, .int .u8 0, .int .u32 0] : Array Value) 27) := ⟨_, rfl⟩
  have hb3 : Below w2.heap.size w2 W3 := by rw [hW3]; exact (Below.refl _ _).alloc (Nat.le_refl _) _
  have QB : Hid (∀ i v, (#[.int .u16 0, .int .u8 0, .int .u32 0, .int .u8 0, .int .u32 0] : Array Value)[i]? = some v → ∀ V, Below W3.heap.size W3 V → V.cell? ⟨w2.heap.size, i, none⟩ = some v) := Lib.hid fun i v hi V hV => by
    refine (hV.cell (p := ⟨w2.heap.size, i, none⟩) (by rw [hW3]; simp)).trans ?_
    rw [hW3]
    exact (cell_of (Deep.blk_alloc_new _ _) i).trans hi
  have QA3 : Hid (∀ i v, (#[.int .u16 1, .int .u8 1, .int .u32 1, .int .u8 0, .int .u32 0] : Array Value)[i]? = some v → ∀ V, Below W3.heap.size W3 V → V.cell? ⟨w1.heap.size, i, none⟩ = some v) := Lib.hid fun i v hi V hV => QA.out i v hi V (hb3.trans (hV.mono hb3.size))
  have B3 := Lib.hid (B2.out.trans (hb3.mono B2.out.size))
  have a0 := QA3.out 0 _ rfl W3 (Below.refl _ _)
  have a1 := QA3.out 1 _ rfl W3 (Below.refl _ _)
  have a2 := QA3.out 2 _ rfl W3 (Below.refl _ _)
  have a3 := QA3.out 3 _ rfl W3 (Below.refl _ _)
  have a4 := QA3.out 4 _ rfl W3 (Below.refl _ _)
  rw [hW3] at a0 a1 a2 a3 a4
  have HW3 := Lib.hid hW3
  clear b2 hW3 hb3 QA
  rw [at0]
  go_wp2_with fail
  rw [← HW3.out]
  refine (H3.out _).mono ?_
  rintro e w4 ⟨rfl, b4⟩
  have d0 := QA3.out 0 _ rfl w4 b4
  have d1 := QA3.out 1 _ rfl w4 b4
  have d2 := QA3.out 2 _ rfl w4 b4
  have d3 := QA3.out 3 _ rfl w4 b4
  have d4 := QA3.out 4 _ rfl w4 b4
  have f0 := QB.out 0 _ rfl w4 b4
  have f1 := QB.out 1 _ rfl w4 b4
  have f2 := QB.out 2 _ rfl w4 b4
  have f3 := QB.out 3 _ rfl w4 b4
  have f4 := QB.out 4 _ rfl w4 b4
  have B4 := Lib.hid (B3.out.trans (b4.mono B3.out.size))
  clear b4 a0 a1 a2 a3 a4 QA3 QB
  go_wp2_with fail
  refine (H4.out _ B4.out).mono ?_
  rintro e w5 ⟨rfl, b5⟩
  have B5 := Lib.hid (B4.out.trans (b5.mono B4.out.size))
  clear b5
  go_wp2
  go_ret
  exact ⟨rfl, B5.out⟩
end Go.Proofs.YtkenaccnmmmooaaDoor.A10
