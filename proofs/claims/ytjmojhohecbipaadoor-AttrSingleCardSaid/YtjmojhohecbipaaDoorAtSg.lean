/- Layer 10: AttrSingle's walk. -/
import Derived.Test.YtjmojhohecbipaaDoorAtV
import Derived.Test.YtjmojhohecbipaaDoorAtJ
import Derived.Test.YtjmojhohecbipaaDoorAtK
import Derived.OpenShut
import Derived.WideShapes
set_option linter.unusedVariables false
namespace Go.Proofs.YtjmojhohecbipaaDoor.A10
open Go.RowKit Go.WideShapes Sgr

/-! ### tables of literals, one behind the other -/
def litTs (w : World) (b : Nat) : List (List (List Int)) → World
  | [] => w
  | t :: r => litTs ((litW w t).alloc (.cells (topV b t).toArray 29)) (b + t.length + 1) r
def topsV (b : Nat) : List (List (List Int)) → List Value
  | [] => []
  | t :: r => .slice (some ⟨b + t.length, 0, none⟩) t.length t.length :: topsV (b + t.length + 1) r
def weight : List (List (List Int)) → Nat
  | [] => 0
  | t :: r => t.length + 1 + weight r
theorem litT_size (w : World) (rows : List (List Int)) : (litT w rows).heap.size = w.heap.size + rows.length + 1 := by
  unfold litT
  rw [Deep.nblk_alloc, litW_size]
theorem litTs_size (ts : List (List (List Int))) (w : World) (b : Nat) : (litTs w b ts).heap.size = w.heap.size + weight ts := by
  induction ts generalizing w b with
  | nil => rfl
  | cons t r ih =>
    show (litTs _ _ r).heap.size = _
    rw [ih, Deep.nblk_alloc, litW_size]
    show _ = w.heap.size + (t.length + 1 + weight r)
    omega
theorem litTs_below (ts : List (List (List Int))) (w : World) (b : Nat) : Below w.heap.size w (litTs w b ts) := by
  induction ts generalizing w b with
  | nil => exact Below.refl _ _
  | cons t r ih =>
    have h1 : Below w.heap.size w ((litW w t).alloc (.cells (topV b t).toArray 29)) := (litW_below w t).alloc (litW_below w t).size _
    exact h1.trans ((ih _ _).mono h1.size)
theorem litTs_tab (ts : List (List (List Int))) (w : World) (hb : ∀ t ∈ ts, InB t) (hl : ∀ t ∈ ts, ∀ l ∈ t, l.length ≤ 9223372036854775807) (i : Nat) (hi : i < ts.length) : ∃ g, (topsV w.heap.size ts)[i]? = some (.slice (some ⟨g, 0, none⟩) (ts.getD i []).length (ts.getD i []).length) ∧ TabL (litTs w w.heap.size ts) (some ⟨g, 0, none⟩) (ts.getD i []) := by
  induction ts generalizing w i with
  | nil => simp at hi
  | cons t r ih =>
    cases i with
    | zero => exact ⟨w.heap.size + t.length, rfl, (lit_tab w t (hb t (List.mem_cons_self ..)) (hl t (List.mem_cons_self ..))).below (litTs_below r _ _)⟩
    | succ i =>
      have h := ih (litT w t) (fun x hx => hb x (List.mem_cons_of_mem _ hx)) (fun x hx => hl x (List.mem_cons_of_mem _ hx)) i (by simpa using hi)
      rw [litT_size] at h
      exact h

def singleT (n m k : Int) : List (List (List Int)) := [[[n]], [[n], [m]], [[n, m]], [[n, m, k]], [[n], [m], [k]], [[n], [], [m]], [[n], [5], [m], [k]], [[n], [2], [m], [k], [m], [k]], [[n, 2, m, k, m]], [[n, 2, 0, m, k, m], [k]]]
theorem single_len (n m k : Int) : (singleT n m k).length = 10 := rfl
theorem single_in {n m k : Int} (hn : -9223372036854775808 ≤ n ∧ n ≤ 9223372036854775807) (hm : -9223372036854775808 ≤ m ∧ m ≤ 9223372036854775807) (hk : -9223372036854775808 ≤ k ∧ k ≤ 9223372036854775807) : ∀ t ∈ singleT n m k, InB t := by
  intro t ht l hl x hx
  have : x = n ∨ x = m ∨ x = k ∨ x = 5 ∨ x = 2 ∨ x = 0 := by
    have h : x ∈ (singleT n m k).flatten.flatten := List.mem_flatten.2 ⟨l, List.mem_flatten.2 ⟨t, ht, hl⟩, hx⟩
    simp [singleT] at h
    omega
  rcases this with rfl | rfl | rfl | rfl | rfl | rfl <;> first | assumption | decide
theorem single_rows (n m k : Int) : ∀ t ∈ singleT n m k, t.length ≤ 60 ∧ ∀ l ∈ t, l.length ≤ 9223372036854775807 := by
  intro t ht
  simp only [singleT, List.mem_cons, List.not_mem_nil, or_false] at ht
  rcases ht with rfl | rfl | rfl | rfl | rfl | rfl | rfl | rfl | rfl | rfl <;> exact ⟨by simp, by simp⟩

theorem neq_same (a : At) (w : World) : (binOp .neq 27 (atA a) (atA a)).run Tryd.prog w = .ok (.bool false) w := by
  obtain ⟨f, ⟨k, n⟩, ⟨l, m⟩⟩ := a
  unfold atA
  dsimp only
  go_simp
theorem idx_tabs (TB k : Nat) (hk : k < 10) (W : World) : (Instr.indexAt 36 (.slice (some ⟨TB, 0, none⟩) 10 10) (.int .i64 (k : Int))).run Tryd.prog W = .ok (.pointer (some ⟨TB, k, none⟩)) W := by
  have hs : ∀ W : World, (sizeOf (Tryd.prog.elem 36)).run Tryd.prog W = .ok 1 W := fun W => by kernel_rfl
  rw [run_indexAt_slice (P := Tryd.prog) W 36 ⟨TB, 0, none⟩ 10 10 .i64 k (by kernel_rfl), if_pos (by omega), hs]
  simp only [Result.andThen, Nat.mul_one, Int.toNat_natCast, add_z]

set_option maxRecDepth 100000 in
set_option maxHeartbeats 8000000 in
theorem single_law (a : At) (n m k : Int) (w : World) (ha : AtOk a) (hn : (Lit.int .i64 n).wf = true) (hm : (Lit.int .i64 m).wf = true) (hk : (Lit.int .i64 k).wf = true) (hv : AtVars w) :
    Calls Tryd.prog 5 #[atA a, .int .i64 n, .int .i64 m, .int .i64 k] w fun e w' => e = .returned (.bool true) ∧ Below w.heap.size w w' := by
  obtain ⟨W, hW⟩ : ∃ W, W = w.alloc (.cells (atCells a) 27) := ⟨_, rfl⟩
  have hB : Below w.heap.size w W := by rw [hW]; exact (Below.refl _ _).alloc (Nat.le_refl _) _
  have hb0 : AttrAt W w.heap.size a := by rw [hW]; exact Deep.blk_alloc_new _ _
  have QA : Hid (∀ V, Below W.heap.size W V → AttrAt V w.heap.size a) := Lib.hid fun V hV => hb0.below hV
  have HA := Lib.hid (awake_any W (hv.1.below hB) (hv.2.below hB))
  have HW := Lib.hid hW
  have HB := Lib.hid hB
  have HN := Lib.hid (hv.2.below hB)
  have HO := Lib.hid ha
  have HT := Lib.hid (And.intro (single_in (bounds_i64 hn) (bounds_i64 hm) (bounds_i64 hk)) (single_rows n m k))
  have ea : atA a = .agg #[.int .u16 (a.fl : Int), .int .u8 (a.fg.kind : Int), .int .u32 (a.fg.n : Int), .int .u8 (a.bg.kind : Int), .int .u32 (a.bg.n : Int)] := rfl
  rw [ea]
  clear hn hm hk ha hB hW hb0 hv ea
  go_enter Tryd.func5, Tryd.ntmps5
  go_wp2_with fail
  rw [show (#[.int .u16 (a.fl : Int), .int .u8 (a.fg.kind : Int), .int .u32 (a.fg.n : Int), .int .u8 (a.bg.kind : Int), .int .u32 (a.bg.n : Int)] : Array Value) = atCells a from rfl]
  rw [← HW.out]
  refine HA.out.mono ?_
  rintro e w1 ⟨rfl, b1⟩
  have B1 := Lib.hid b1
  clear b1
  go_wp2_with fail
  obtain ⟨WL, hWL⟩ : ∃ WL, WL = (litTs w1 w1.heap.size (singleT n m k)).alloc (.cells (topsV w1.heap.size (singleT n m k)).toArray 30) := ⟨_, rfl⟩
  obtain ⟨TB, hTB⟩ : ∃ TB, TB = w1.heap.size + 1 + 1 + 1 + 1 + 1 + 1 + 1 + 1 + 1 + 1 + 1 + 1 + 1 + 1 + 1 + 1 + 1 + 1 + 1 + 1 + 1 + 1 + 1 + 1 + 1 + 1 + 1 + 1 + 1 + 1 + 1 + 1 + 1 + 1 := ⟨_, rfl⟩
  have hLB : Below W.heap.size W WL := by
    rw [hWL]
    exact (B1.out.trans ((litTs_below _ w1 _).mono B1.out.size)).alloc (Nat.le_trans B1.out.size (litTs_below _ w1 _).size) _
  have hTS : (litTs w1 w1.heap.size (singleT n m k)).heap.size = TB := by rw [litTs_size, show weight (singleT n m k) = 34 from rfl, hTB]
  have HTab : Hid (∀ j, j < 10 → ∃ (g tl : Nat), tl = ((singleT n m k).getD j []).length ∧ tl ≤ 60 ∧ (∀ V, Below WL.heap.size WL V → V.cell? ⟨TB, j, none⟩ = some (.slice (some ⟨g, 0, none⟩) tl tl)) ∧ (∀ V, Below WL.heap.size WL V → TabL V (some ⟨g, 0, none⟩) ((singleT n m k).getD j []))) := Lib.hid fun j hj => by
    have hj2 : j < (singleT n m k).length := hj
    have hmem : (singleT n m k).getD j [] ∈ singleT n m k := by
      rw [List.getD_eq_getElem?_getD, List.getElem?_eq_getElem hj2]; exact List.getElem_mem _
    obtain ⟨g, h1, h2⟩ := litTs_tab (singleT n m k) w1 HT.out.1 (fun t ht => (HT.out.2 t ht).2) j hj2
    have hblk : WL.heap[TB]? = some (.cells (topsV w1.heap.size (singleT n m k)).toArray 30 (0, 0)) := by
      rw [hWL]
      have := Deep.blk_alloc_new (litTs w1 w1.heap.size (singleT n m k)) (.cells (topsV w1.heap.size (singleT n m k)).toArray 30)
      rw [hTS] at this
      exact this
    have hc : WL.cell? ⟨TB, j, none⟩ = some (.slice (some ⟨g, 0, none⟩) ((singleT n m k).getD j []).length ((singleT n m k).getD j []).length) := (cell_of hblk j).trans (by simpa using h1)
    have ht : TabL WL (some ⟨g, 0, none⟩) ((singleT n m k).getD j []) := by
      rw [hWL]
      exact h2.below ((Below.refl _ _).alloc (Nat.le_refl _) _)
    exact ⟨g, _, rfl, (HT.out.2 _ hmem).1, fun V hV => (hV.cell (cell_lt hc)).trans hc, fun V hV => ht.below hV⟩
  have HLB := Lib.hid hLB
  have hWLr : ((((((((((((((((((((((((((((((((((w1.alloc (.cells #[.int .i64 n] 3)).alloc (.cells #[.slice (some ⟨w1.heap.size, 0, none⟩) 1 1] 29)).alloc (.cells #[.int .i64 n] 3)).alloc (.cells #[.int .i64 m] 3)).alloc (.cells #[.slice (some ⟨w1.heap.size + 1 + 1, 0, none⟩) 1 1, .slice (some ⟨w1.heap.size + 1 + 1 + 1, 0, none⟩) 1 1] 29)).alloc (.cells #[.int .i64 n, .int .i64 m] 3)).alloc (.cells #[.slice (some ⟨w1.heap.size + 1 + 1 + 1 + 1 + 1, 0, none⟩) 2 2] 29)).alloc (.cells #[.int .i64 n, .int .i64 m, .int .i64 k] 3)).alloc (.cells #[.slice (some ⟨w1.heap.size + 1 + 1 + 1 + 1 + 1 + 1 + 1, 0, none⟩) 3 3] 29)).alloc (.cells #[.int .i64 n] 3)).alloc (.cells #[.int .i64 m] 3)).alloc (.cells #[.int .i64 k] 3)).alloc (.cells #[.slice (some ⟨w1.heap.size + 1 + 1 + 1 + 1 + 1 + 1 + 1 + 1 + 1, 0, none⟩) 1 1, .slice (some ⟨w1.heap.size + 1 + 1 + 1 + 1 + 1 + 1 + 1 + 1 + 1 + 1, 0, none⟩) 1 1, .slice (some ⟨w1.heap.size + 1 + 1 + 1 + 1 + 1 + 1 + 1 + 1 + 1 + 1 + 1, 0, none⟩) 1 1] 29)).alloc (.cells #[.int .i64 n] 3)).alloc (.cells #[] 3)).alloc (.cells #[.int .i64 m] 3)).alloc (.cells #[.slice (some ⟨w1.heap.size + 1 + 1 + 1 + 1 + 1 + 1 + 1 + 1 + 1 + 1 + 1 + 1 + 1, 0, none⟩) 1 1, .slice (some ⟨w1.heap.size + 1 + 1 + 1 + 1 + 1 + 1 + 1 + 1 + 1 + 1 + 1 + 1 + 1 + 1, 0, none⟩) 0 0, .slice (some ⟨w1.heap.size + 1 + 1 + 1 + 1 + 1 + 1 + 1 + 1 + 1 + 1 + 1 + 1 + 1 + 1 + 1, 0, none⟩) 1 1] 29)).alloc (.cells #[.int .i64 n] 3)).alloc (.cells #[.int .i64 5] 3)).alloc (.cells #[.int .i64 m] 3)).alloc (.cells #[.int .i64 k] 3)).alloc (.cells #[.slice (some ⟨w1.heap.size + 1 + 1 + 1 + 1 + 1 + 1 + 1 + 1 + 1 + 1 + 1 + 1 + 1 + 1 + 1 + 1 + 1, 0, none⟩) 1 1, .slice (some ⟨w1.heap.size + 1 + 1 + 1 + 1 + 1 + 1 + 1 + 1 + 1 + 1 + 1 + 1 + 1 + 1 + 1 + 1 + 1 + 1, 0, none⟩) 1 1, .slice (some ⟨w1.heap.size + 1 + 1 + 1 + 1 + 1 + 1 + 1 + 1 + 1 + 1 + 1 + 1 + 1 + 1 + 1 + 1 + 1 + 1 + 1, 0, none⟩) 1 1, .slice (some ⟨w1.heap.size + 1 + 1 + 1 + 1 + 1 + 1 + 1 + 1 + 1 + 1 + 1 + 1 + 1 + 1 + 1 + 1 + 1 + 1 + 1 + 1, 0, none⟩) 1 1] 29)).alloc (.cells #[.int .i64 n] 3)).alloc (.cells #[.int .i64 2] 3)).alloc (.cells #[.int .i64 m] 3)).alloc (.cells #[.int .i64 k] 3)).alloc (.cells #[.int .i64 m] 3)).alloc (.cells #[.int .i64 k] 3)).alloc (.cells #[.slice (some ⟨w1.heap.size + 1 + 1 + 1 + 1 + 1 + 1 + 1 + 1 + 1 + 1 + 1 + 1 + 1 + 1 + 1 + 1 + 1 + 1 + 1 + 1 + 1 + 1, 0, none⟩) 1 1, .slice (some ⟨w1.heap.size + 1 + 1 + 1 + 1 + 1 + 1 + 1 + 1 + 1 + 1 + 1 + 1 + 1 + 1 + 1 + 1 + 1 + 1 + 1 + 1 + 1 + 1 + 1, 0, none⟩) 1 1, .slice (some ⟨w1.heap.size + 1 + 1 + 1 + 1 + 1 + 1 + 1 + 1 + 1 + 1 + 1 + 1 + 1 + 1 + 1 + 1 + 1 + 1 + 1 + 1 + 1 + 1 + 1 + 1, 0, none⟩) 1 1, .slice (some ⟨w1.heap.size + 1 + 1 + 1 + 1 + 1 + 1 + 1 + 1 + 1 + 1 + 1 + 1 + 1 + 1 + 1 + 1 + 1 + 1 + 1 + 1 + 1 + 1 + 1 + 1 + 1, 0, none⟩) 1 1, .slice (some ⟨w1.heap.size + 1 + 1 + 1 + 1 + 1 + 1 + 1 + 1 + 1 + 1 + 1 + 1 + 1 + 1 + 1 + 1 + 1 + 1 + 1 + 1 + 1 + 1 + 1 + 1 + 1 + 1, 0, none⟩) 1 1, .slice (some ⟨w1.heap.size + 1 + 1 + 1 + 1 + 1 + 1 + 1 + 1 + 1 + 1 + 1 + 1 + 1 + 1 + 1 + 1 + 1 + 1 + 1 + 1 + 1 + 1 + 1 + 1 + 1 + 1 + 1, 0, none⟩) 1 1] 29)).alloc (.cells #[.int .i64 n, .int .i64 2, .int .i64 m, .int .i64 k, .int .i64 m] 3)).alloc (.cells #[.slice (some ⟨w1.heap.size + 1 + 1 + 1 + 1 + 1 + 1 + 1 + 1 + 1 + 1 + 1 + 1 + 1 + 1 + 1 + 1 + 1 + 1 + 1 + 1 + 1 + 1 + 1 + 1 + 1 + 1 + 1 + 1 + 1, 0, none⟩) 5 5] 29)).alloc (.cells #[.int .i64 n, .int .i64 2, .int .i64 0, .int .i64 m, .int .i64 k, .int .i64 m] 3)).alloc (.cells #[.int .i64 k] 3)).alloc (.cells #[.slice (some ⟨w1.heap.size + 1 + 1 + 1 + 1 + 1 + 1 + 1 + 1 + 1 + 1 + 1 + 1 + 1 + 1 + 1 + 1 + 1 + 1 + 1 + 1 + 1 + 1 + 1 + 1 + 1 + 1 + 1 + 1 + 1 + 1 + 1, 0, none⟩) 6 6, .slice (some ⟨w1.heap.size + 1 + 1 + 1 + 1 + 1 + 1 + 1 + 1 + 1 + 1 + 1 + 1 + 1 + 1 + 1 + 1 + 1 + 1 + 1 + 1 + 1 + 1 + 1 + 1 + 1 + 1 + 1 + 1 + 1 + 1 + 1 + 1, 0, none⟩) 1 1] 29)).alloc (.cells #[.slice (some ⟨w1.heap.size + 1, 0, none⟩) 1 1, .slice (some ⟨w1.heap.size + 1 + 1 + 1 + 1, 0, none⟩) 2 2, .slice (some ⟨w1.heap.size + 1 + 1 + 1 + 1 + 1 + 1, 0, none⟩) 1 1, .slice (some ⟨w1.heap.size + 1 + 1 + 1 + 1 + 1 + 1 + 1 + 1, 0, none⟩) 1 1, .slice (some ⟨w1.heap.size + 1 + 1 + 1 + 1 + 1 + 1 + 1 + 1 + 1 + 1 + 1 + 1, 0, none⟩) 3 3, .slice (some ⟨w1.heap.size + 1 + 1 + 1 + 1 + 1 + 1 + 1 + 1 + 1 + 1 + 1 + 1 + 1 + 1 + 1 + 1, 0, none⟩) 3 3, .slice (some ⟨w1.heap.size + 1 + 1 + 1 + 1 + 1 + 1 + 1 + 1 + 1 + 1 + 1 + 1 + 1 + 1 + 1 + 1 + 1 + 1 + 1 + 1 + 1, 0, none⟩) 4 4, .slice (some ⟨w1.heap.size + 1 + 1 + 1 + 1 + 1 + 1 + 1 + 1 + 1 + 1 + 1 + 1 + 1 + 1 + 1 + 1 + 1 + 1 + 1 + 1 + 1 + 1 + 1 + 1 + 1 + 1 + 1 + 1, 0, none⟩) 6 6, .slice (some ⟨w1.heap.size + 1 + 1 + 1 + 1 + 1 + 1 + 1 + 1 + 1 + 1 + 1 + 1 + 1 + 1 + 1 + 1 + 1 + 1 + 1 + 1 + 1 + 1 + 1 + 1 + 1 + 1 + 1 + 1 + 1 + 1, 0, none⟩) 1 1, .slice (some ⟨w1.heap.size + 1 + 1 + 1 + 1 + 1 + 1 + 1 + 1 + 1 + 1 + 1 + 1 + 1 + 1 + 1 + 1 + 1 + 1 + 1 + 1 + 1 + 1 + 1 + 1 + 1 + 1 + 1 + 1 + 1 + 1 + 1 + 1 + 1, 0, none⟩) 2 2] 30) = WL := hWL.symm
  have hTBr : w1.heap.size + 1 + 1 + 1 + 1 + 1 + 1 + 1 + 1 + 1 + 1 + 1 + 1 + 1 + 1 + 1 + 1 + 1 + 1 + 1 + 1 + 1 + 1 + 1 + 1 + 1 + 1 + 1 + 1 + 1 + 1 + 1 + 1 + 1 + 1 = TB := hTB.symm
  rw [hWLr, hTBr]
  clear hWLr hTBr hWL hTB hLB hTS
  go_loopw [10] (fun i wr => ∃ j : Nat, j ≤ 10 ∧ i = .int .i64 j ∧ Hid (Below WL.heap.size WL wr)) (fun i _ => 10 - (RowKit.intOf i).toNat)
  case atStart => exact ⟨0, by omega, rfl, Lib.hid (Below.refl _ _)⟩
  case round =>
    obtain ⟨j, hj, rfl, HR⟩ := hrel
    rename_i wr
    by_cases hlt : j < 10
    · obtain ⟨g, tl, htl, ht60, hcell, htab⟩ := HTab.out j hlt
      obtain ⟨l, hl⟩ : ∃ l, l = (singleT n m k).getD j [] := ⟨_, rfl⟩
      rw [← hl] at htl htab
      obtain ⟨b, hb⟩ : ∃ b, b = applyV a l := ⟨_, rfl⟩
      have HTb := Lib.hid htab
      have HTl := Lib.hid htl
      have HLW : Hid (∀ V, Below WL.heap.size WL V → Below W.heap.size W V) := Lib.hid fun V hV => HLB.out.trans (hV.mono HLB.out.size)
      have K1 : Hid (∀ V, Below WL.heap.size WL V → Calls Tryd.prog 8 #[.agg #[.int .u16 (a.fl : Int), .int .u8 (a.fg.kind : Int), .int .u32 (a.fg.n : Int), .int .u8 (a.bg.kind : Int), .int .u32 (a.bg.n : Int)], .slice (some ⟨g, 0, none⟩) tl tl] V fun e w' => e = .returned (.agg #[.int .u16 (b.fl : Int), .int .u8 (b.fg.kind : Int), .int .u32 (b.fg.n : Int), .int .u8 (b.bg.kind : Int), .int .u32 (b.bg.n : Int)]) ∧ Below WL.heap.size WL w') := Lib.hid fun V hV => by
        rw [show (.agg #[.int .u16 (b.fl : Int), .int .u8 (b.fg.kind : Int), .int .u32 (b.fg.n : Int), .int .u8 (b.bg.kind : Int), .int .u32 (b.bg.n : Int)] : Value) = atA b from rfl, hb]
        exact (apply_any a HO.out l _ tl tl V (HTb.out V hV) HTl.out (Nat.le_refl _) (by omega) (HN.out.below (HLW.out V hV))).mono fun _ _ hh => ⟨hh.1, hV.trans (hh.2.mono hV.size)⟩
      have K2 : Hid (∀ V, Below WL.heap.size WL V → Calls Tryd.prog 13 #[.agg #[.int .u16 (a.fl : Int), .int .u8 (a.fg.kind : Int), .int .u32 (a.fg.n : Int), .int .u8 (a.bg.kind : Int), .int .u32 (a.bg.n : Int)], .slice (some ⟨g, 0, none⟩) tl tl] V fun e w' => e = .returned (.agg #[.int .u16 (b.fl : Int), .int .u8 (b.fg.kind : Int), .int .u32 (b.fg.n : Int), .int .u8 (b.bg.kind : Int), .int .u32 (b.bg.n : Int)]) ∧ Below WL.heap.size WL w') := Lib.hid fun V hV => by
        rw [show (.agg #[.int .u16 (b.fl : Int), .int .u8 (b.fg.kind : Int), .int .u32 (b.fg.n : Int), .int .u8 (b.bg.kind : Int), .int .u32 (b.bg.n : Int)] : Value) = atA b from rfl, hb]
        exact (rapply_any a HO.out l _ tl tl V (HTb.out V hV) HTl.out (by omega)).mono fun _ _ hh => ⟨hh.1, hV.trans (hh.2.mono hV.size)⟩
      have NE : ∀ V, (binOp .neq 27 (.agg #[.int .u16 (b.fl : Int), .int .u8 (b.fg.kind : Int), .int .u32 (b.fg.n : Int), .int .u8 (b.bg.kind : Int), .int .u32 (b.bg.n : Int)]) (.agg #[.int .u16 (b.fl : Int), .int .u8 (b.fg.kind : Int), .int .u32 (b.fg.n : Int), .int .u8 (b.bg.kind : Int), .int .u32 (b.bg.n : Int)])).run Tryd.prog V = .ok (.bool false) V := fun V => neq_same b V
      have ix := idx_tabs TB j hlt
      have glt : decide ((j : Int) < 10) = true := by simp; omega
      have kd : Below WL.heap.size WL wr.drew := below_drew HR.out 1
      have qa0 : ∀ V, Below WL.heap.size WL V → V.cell? ⟨w.heap.size, 0, none⟩ = some (.int .u16 (a.fl : Int)) := fun V hV => (QA.out V (HLW.out V hV)).c0
      have qa1 : ∀ V, Below WL.heap.size WL V → V.cell? ⟨w.heap.size, 1, none⟩ = some (.int .u8 (a.fg.kind : Int)) := fun V hV => (QA.out V (HLW.out V hV)).c1
      have qa2 : ∀ V, Below WL.heap.size WL V → V.cell? ⟨w.heap.size, 2, none⟩ = some (.int .u32 (a.fg.n : Int)) := fun V hV => (QA.out V (HLW.out V hV)).c2
      have qa3 : ∀ V, Below WL.heap.size WL V → V.cell? ⟨w.heap.size, 3, none⟩ = some (.int .u8 (a.bg.kind : Int)) := fun V hV => (QA.out V (HLW.out V hV)).c3
      have qa4 : ∀ V, Below WL.heap.size WL V → V.cell? ⟨w.heap.size, 4, none⟩ = some (.int .u32 (a.bg.n : Int)) := fun V hV => (QA.out V (HLW.out V hV)).c4
      clear htab htl hl hb
      go_wp2_with fail
      go_region_held3 (fun V => Below WL.heap.size WL V)
        (assumption)
        (first | (go_at_call 8; (with_reducible refine (K1.out _ (by assumption)).mono ?_); rintro e y1 ⟨rfl, j1⟩) | (go_at_call 13; (with_reducible refine (K2.out _ (by assumption)).mono ?_); rintro e y2 ⟨rfl, j2⟩))
      all_goals
        go_wp2
        go_roundw
      all_goals first
        | exact ⟨j + 1, by omega, by go_num, Lib.hid j2⟩
        | (simp [RowKit.intOf]; omega)
    · have hj10 : j = 10 := by omega
      subst hj10
      go_wp2
      go_ret
      exact ⟨rfl, HB.out.trans ((HLB.out.trans (HR.out.mono HLB.out.size)).mono HB.out.size)⟩
end Go.Proofs.YtjmojhohecbipaaDoor.A10
