/- Layer 15: what ReflowKnown's walk needs: its rows, its lines, what is closed of them. -/
import Derived.Test.YtifolcfnknlmdaaReLt
import Derived.Test.YtifolcfnknlmdaaReN
set_option linter.unusedVariables false
namespace Go.Proofs.Ytifolcfnknlmdaa.Re
open Go.RowKit Go.Proofs.Ytifolcfnknlmdaa.Rw

def rowsK : List (Int × Int × Nat × Nat) := [(1, 1, 2, 1), (0, 2, 0, 2), (9, 2, 2, 2), (9, 0, 1, 1), (3, 0, 0, 1), (2, 1, 2, 1), (-1, 0, 0, 0), (0, 3, 0, 0), (0, -1, 0, 0), (4611686018427387904, 2, 2, 2)]
def rowK (k : Nat) : Int × Int × Nat × Nat := rowsK.getD k (0, 0, 0, 0)
theorem lt10 {k : Nat} (h : k < 10) : k = 0 ∨ k = 1 ∨ k = 2 ∨ k = 3 ∨ k = 4 ∨ k = 5 ∨ k = 6 ∨ k = 7 ∨ k = 8 ∨ k = 9 := by omega
theorem row_place (k : Nat) (h : k < 10) : placeI pageV 3 (rowK k).1 (rowK k).2.1 = ((rowK k).2.2.1, (rowK k).2.2.2) := by
  rw [placeI_c]
  rcases lt10 h with rfl | rfl | rfl | rfl | rfl | rfl | rfl | rfl | rfl | rfl <;> decide +kernel
theorem row_in (k : Nat) (h : k < 10) : IntIn (rowK k).1 ∧ IntIn (rowK k).2.1 := by
  rcases lt10 h with rfl | rfl | rfl | rfl | rfl | rfl | rfl | rfl | rfl | rfl <;> exact ⟨⟨by decide, by decide⟩, ⟨by decide, by decide⟩⟩
def rowsO : Obj := .cells #[.int .i64 1, .int .i64 1, .int .i64 2, .int .i64 1, .int .i64 0, .int .i64 2, .int .i64 0, .int .i64 2, .int .i64 9, .int .i64 2, .int .i64 2, .int .i64 2, .int .i64 9, .int .i64 0, .int .i64 1, .int .i64 1, .int .i64 3, .int .i64 0, .int .i64 0, .int .i64 1, .int .i64 2, .int .i64 1, .int .i64 2, .int .i64 1, .int .i64 (-1), .int .i64 0, .int .i64 0, .int .i64 0, .int .i64 0, .int .i64 3, .int .i64 0, .int .i64 0, .int .i64 0, .int .i64 (-1), .int .i64 0, .int .i64 0, .int .i64 4611686018427387904, .int .i64 2, .int .i64 2, .int .i64 2] 40
theorem row_cells (V : World) (g : Nat) (h : V.heap[g]? = some rowsO) (k : Nat) (hk : k < 10) : V.cell? ⟨g, k * 4, none⟩ = some (.int .i64 (rowK k).1) ∧ V.cell? ⟨g, k * 4 + 1, none⟩ = some (.int .i64 (rowK k).2.1) ∧ V.cell? ⟨g, k * 4 + 2, none⟩ = some (.int .i64 ((rowK k).2.2.1 : Int)) ∧ V.cell? ⟨g, k * 4 + 3, none⟩ = some (.int .i64 ((rowK k).2.2.2 : Int)) := by
  have hc := fun i => cell_of (show V.heap[g]? = some (.cells _ 40 (0, 0)) from h) i
  rcases lt10 hk with rfl | rfl | rfl | rfl | rfl | rfl | rfl | rfl | rfl | rfl <;> exact ⟨hc _, hc _, hc _, hc _⟩
theorem idx_row4 (b n c k : Nat) (hk : k < n) (W : World) : (Instr.indexAt 41 (.slice (some ⟨b, 0, none⟩) n c) (.int .i64 (k : Int))).run Try.prog W = .ok (.pointer (some ⟨b, k * 4, none⟩)) W := by
  have hs : ∀ W : World, (sizeOf (Try.prog.elem 41)).run Try.prog W = .ok 4 W := fun W => by kernel_rfl
  rw [run_indexAt_slice (P := Try.prog) W 41 ⟨b, 0, none⟩ n c .i64 k (by kernel_rfl), if_pos (by omega), hs]
  simp only [Result.andThen, Int.toNat_natCast, add_oo, Nat.zero_add]

def T_ : Nat → Prop := fun _ => True
theorem LinesAt.any {F : Nat → Prop} {w : World} {v : Value} {l : List LnC} (h : LinesAt F w v l) : LinesAt T_ w v l := h.more fun _ _ => trivial
def wideL : List LnC := [⟨ofV [97, 98, 19968, 99], false, false⟩]
def threeL : List LnC := [⟨ofV [97, 98, 32], true, true⟩, ⟨ofV [19968, 99], false, false⟩]
def twoL : List LnC := [⟨ofV [97, 98], true, false⟩, ⟨ofV [19968], true, false⟩, ⟨ofV [99, 32], false, false⟩]
def blankL : List LnC := [⟨ofV [97, 98, 32], true, false⟩, ⟨ofV [32, 32, 32], false, false⟩, ⟨ofV [], false, false⟩, ⟨ofV [32, 32, 99], true, false⟩]
def cutL : List LnC := [⟨ofV [97, 98], false, false⟩, ⟨ofV [32, 32], false, false⟩, ⟨ofV [32, 32], true, false⟩, ⟨ofV [99, 32], false, false⟩]
theorem ln_w3 : linesI 3 wideL = threeL := by rw [lines_c]; decide +kernel
theorem ln_t5 : linesI 5 threeL = wideL := by rw [lines_c]; decide +kernel
theorem ln_w2 : linesI 2 wideL = twoL := by rw [lines_c]; decide +kernel
theorem ln_b2 : linesI 2 blankL = cutL := by rw [lines_c]; decide +kernel
theorem pl_t5 : placeI threeL 5 2 0 = (2, 0) := by rw [placeI_c]; decide +kernel
theorem ln_p1 : linesI 1 pageV = [] := by rw [lines_c]; decide +kernel
theorem ln_p401 : linesI 401 pageV = [] := by rw [lines_c]; decide +kernel
theorem ln_n3 : linesI 3 [] = [] := by rw [lines_c]; decide +kernel
theorem ru_blank : (paras blC blankL).all runesB = true := by decide +kernel
theorem tx_blank : (paras blC blankL).map textV = [⟨#[97, 98]⟩, ⟨#[]⟩, ⟨#[32, 32, 99]⟩] := by decide +kernel
theorem sm_wide : wideL.length ≤ 100000 ∧ sumV wideL ≤ 100000 := by decide +kernel
theorem sm_three : threeL.length ≤ 100000 ∧ sumV threeL ≤ 100000 := by decide +kernel
theorem sm_two : twoL.length ≤ 100000 ∧ sumV twoL ≤ 100000 := by decide +kernel
theorem sm_blank : blankL.length ≤ 100000 ∧ sumV blankL ≤ 100000 := by decide +kernel
theorem sm_cut : cutL.length ≤ 100000 ∧ sumV cutL ≤ 100000 := by decide +kernel
theorem sm_nil : ([] : List LnC).length ≤ 100000 ∧ sumV [] ≤ 100000 := by decide +kernel
theorem st_1 : Steps ⟨#[97, 98, 228, 184, 128, 99]⟩ 0 [97, 98, 19968, 99] := steps_of _ _ _ (by decide +kernel)
theorem st_2 : Steps ⟨#[97, 98, 32]⟩ 0 [97, 98, 32] := steps_of _ _ _ (by decide +kernel)
theorem st_3 : Steps ⟨#[228, 184, 128, 99]⟩ 0 [19968, 99] := steps_of _ _ _ (by decide +kernel)
theorem st_4 : Steps ⟨#[97, 98]⟩ 0 [97, 98] := steps_of _ _ _ (by decide +kernel)
theorem st_5 : Steps ⟨#[228, 184, 128]⟩ 0 [19968] := steps_of _ _ _ (by decide +kernel)
theorem st_6 : Steps ⟨#[99, 32]⟩ 0 [99, 32] := steps_of _ _ _ (by decide +kernel)
theorem st_7 : Steps ⟨#[32, 32, 32]⟩ 0 [32, 32, 32] := steps_of _ _ _ (by decide +kernel)
theorem st_8 : Steps ⟨#[]⟩ 0 [] := steps_of _ _ _ (by decide +kernel)
theorem st_9 : Steps ⟨#[32, 32, 99]⟩ 0 [32, 32, 99] := steps_of _ _ _ (by decide +kernel)
theorem st_10 : Steps ⟨#[32, 32]⟩ 0 [32, 32] := steps_of _ _ _ (by decide +kernel)
/-- The same lines? -/
theorem same_law {F G : Nat → Prop} {u v : Value} {l m : List LnC} {w : World} (h1 : LinesAt F w u l) (h2 : LinesAt G w v m) (he : l = m) (hl : l.length ≤ 100000) (hs : sumV l ≤ 100000) : Calls Try.prog 14 #[u, v] w fun e w' => e = .returned (.bool true) ∧ Below w.heap.size w w' := by
  subst he
  have := law_same h1 h2 hl (by omega) (fun k => Nat.le_trans (cells_le l k) hs)
  rw [decide_eq_true rfl] at this
  exact this
/-- Lines written out, each of them made of a text. -/
theorem lits_any {w : World} (rs : List Raw) (ls : List LnC) (hl : rs.length = ls.length) (h5 : ls.length ≤ 1000) (hr : ∀ k, k < ls.length → (rs.getD k noRaw).j = (ls.getD k noLn).joined ∧ (rs.getD k noRaw).s = (ls.getD k noLn).short ∧ Lies w (rs.getD k noRaw).u (ls.getD k noLn).cells) : LinesAt T_ (w.alloc (.cells (rawsC rs).toArray 30)) (.slice (some ⟨w.heap.size, 0, none⟩) ls.length ls.length) ls :=
  (lits_lines (F := T_) rs ls hl h5 fun k hk => ⟨(hr k hk).1, (hr k hk).2.1, (hr k hk).2.2, fun _ _ _ => trivial⟩).any
theorem of_law (s : ByteArray) (j h : Bool) (rs : List Nat) (hs : Steps s 0 rs) (hl : rs.length ≤ 1000) (w : World) : Calls Try.prog 13 #[.string s, .bool j, .bool h] w fun e w' => ∃ A n c, e = .returned (.agg #[.slice A n c, .bool j, .bool h]) ∧ Hid (Lies w' (.slice A n c) (ofV rs)) ∧ Below w.heap.size w w' := (of_any s j h rs hs hl w).mono fun e w' ⟨u, he, ho, hb⟩ => by
  have hL := own_lies ho
  obtain ⟨A, c, e2, -⟩ := id hL
  exact ⟨A, _, c, by rw [he, e2], Lib.hid (by rw [e2] at hL; exact hL), hb⟩
theorem lines_law {v : Value} {l : List LnC} {w : World} (h : LinesAt T_ w v l) (sm : l.length ≤ 100000 ∧ sumV l ≤ 100000) (W : Int) (hW : IntIn W) (m : List LnC) (he : linesI W l = m) : Calls Try.prog 10 #[v, .int .i64 W] w fun e w' => ∃ A n c, e = .returned (.slice A n c) ∧ Hid (n = m.length ∧ LinesAt T_ w' (.slice A n c) m) ∧ Below w.heap.size w w' := by
  have := plines_any h sm.1 sm.2 W hW
  rw [he] at this
  refine this.mono fun e w' ⟨u, hr, hl, hb⟩ => ?_
  have hL := hl.any
  obtain ⟨A, c, e2, -⟩ := id hL
  exact ⟨A, _, c, by rw [hr, e2], Lib.hid ⟨rfl, by rw [e2] at hL; exact hL⟩, hb⟩
theorem lines0_law {v : Value} {l : List LnC} {w : World} (h : LinesAt T_ w v l) (sm : l.length ≤ 100000 ∧ sumV l ≤ 100000) (W : Int) (hW : IntIn W) (he : linesI W l = []) : Calls Try.prog 10 #[v, .int .i64 W] w fun e w' => ∃ A c, e = .returned (.slice A 0 c) ∧ Below w.heap.size w w' := by
  have := plines_any h sm.1 sm.2 W hW
  rw [he] at this
  refine this.mono fun e w' ⟨u, hr, hl, hb⟩ => ?_
  obtain ⟨A, c, e2, -⟩ := id hl
  exact ⟨A, c, by rw [hr, e2]; rfl, hb⟩
theorem page_law (w : World) : Calls Try.prog 12 #[] w fun e w' => ∃ A n c, e = .returned (.slice A n c) ∧ Hid (LinesAt T_ w' (.slice A n c) pageV) ∧ Below w.heap.size w w' := (page_any w).mono fun e w' ⟨u, he, hl, hb⟩ => by
  obtain ⟨A, c, e2, -⟩ := id hl
  exact ⟨A, _, c, by rw [he, e2], Lib.hid (by rw [e2] at hl; exact hl.any), hb⟩
theorem place_law {v : Value} {w : World} (h : LinesAt T_ w v threeL) : Calls Try.prog 11 #[v, .int .i64 5, .int .i64 2, .int .i64 0] w fun e w' => e = .returned (.tuple #[.int .i64 2, .int .i64 0]) ∧ Below w.heap.size w w' := by
  have := pplace_any h sm_three.1 sm_three.2 5 2 0 ⟨by decide, by decide⟩ ⟨by decide, by decide⟩ ⟨by decide, by decide⟩
  rw [pl_t5] at this
  exact this
/-- Three texts in a slice. -/
structure Txt (w : World) (b o : Nat) : Prop where
  lt : b < w.heap.size
  c0 : w.cell? ⟨b, o, none⟩ = some (.string ⟨#[97, 98]⟩)
  c1 : w.cell? ⟨b, o + 1, none⟩ = some (.string ⟨#[]⟩)
  c2 : w.cell? ⟨b, o + 2, none⟩ = some (.string ⟨#[32, 32, 99]⟩)
theorem Txt.below {w w' : World} {b o : Nat} (h : Txt w b o) (hb : Below w.heap.size w w') : Txt w' b o := ⟨Nat.lt_of_lt_of_le h.lt hb.size, (hb.cell (p := ⟨b, o, none⟩) h.lt).trans h.c0, (hb.cell (p := ⟨b, o + 1, none⟩) h.lt).trans h.c1, (hb.cell (p := ⟨b, o + 2, none⟩) h.lt).trans h.c2⟩
theorem text_law {v : Value} {w : World} (h : LinesAt T_ w v blankL) : Calls Try.prog 15 #[v] w fun e w' => ∃ b o c, e = .returned (.slice (some ⟨b, o, none⟩) 3 c) ∧ Hid (Txt w' b o) ∧ Below w.heap.size w w' := by
  have := ptexts_any h sm_blank.1 sm_blank.2 ru_blank
  rw [tx_blank] at this
  refine this.mono fun e w' ⟨u, hr, ⟨A, c, e2, ht⟩, hb⟩ => ?_
  obtain ⟨b, o, e3, hlt, hc⟩ := ht (by decide)
  exact ⟨b, o, c, by rw [hr, e2, e3]; rfl, Lib.hid ⟨hlt, hc 0 (by decide), hc 1 (by decide), hc 2 (by decide)⟩, hb⟩
end Go.Proofs.Ytifolcfnknlmdaa.Re
