/- Layer 7: a list of the call's own; literals; awake. -/
import Derived.Test.YtjeonnlcajlghaaDoorPaF
namespace Go.Proofs.YtjeonnlcajlghaaDoor
open Go.RowKit Par

/-- A list of the call's own: it lies from block B on; what was below B is as it was. -/
structure MineP (w0 w : World) (B a : Nat) (o : Option PS) : Prop where
  pars : IsPars w a o
  ge : B ≤ a
  old : Below B w0 w
  sz : B ≤ w.heap.size

theorem MineP.lt {w0 w : World} {B a : Nat} {o : Option PS} (h : MineP w0 w B a o) : a < w.heap.size := h.pars.blk.lt
theorem MineP.below {w0 w w' : World} {B a : Nat} {o : Option PS} (h : MineP w0 w B a o) (hb : Below w.heap.size w w') : MineP w0 w' B a o :=
  ⟨⟨(hb.block a h.lt).trans h.pars.blk, h.pars.ok⟩, h.ge, h.old.trans (hb.mono h.sz), Nat.le_trans h.sz hb.size⟩
theorem MineP.drewN {w0 w : World} {B a : Nat} {o : Option PS} (h : MineP w0 w B a o) (n : Nat) : MineP w0 (w.drewN n) B a o := h.below (below_drew (Below.refl _ _) n)
theorem MineP.alloc {w0 w : World} {B a : Nat} {o : Option PS} (h : MineP w0 w B a o) (x : Obj) : MineP w0 (w.alloc x) B a o := h.below ((Below.refl _ _).alloc (Nat.le_refl _) _)
theorem MineP.stirs {w0 w w' : World} {B a : Nat} {o q : Option PS} (h : MineP w0 w B a o) (hd : IsPars w' a q) (hs : Stirs a w w') : MineP w0 w' B a q :=
  ⟨hd, h.ge, hs.below h.ge h.old h.sz, Nat.le_trans h.sz hs.size⟩

theorem mine_list {w0 w : World} {B : Nat} (h : Below B w0 w) (hB : B ≤ w.heap.size) (s : ByteArray) (l : List UInt8) (hl : l = s.data.toList) (hs : s.size ≤ 1000000) :
    Calls Tryd.prog 7 #[.string s] w fun e w' => e = .returned (.pointer (some ⟨w.heap.size, 0, none⟩)) ∧ MineP w0 w' B w.heap.size (runP none l) ∧ Below w.heap.size w w' := by
  refine (list_any s l hl hs w).mono ?_
  rintro e w' ⟨rfl, hp, hb⟩
  exact ⟨rfl, ⟨hp, hB, h.trans (hb.mono hB), Nat.le_trans hB hb.size⟩, hb⟩

theorem mine_byte {w0 w : World} {B a : Nat} {o : Option PS} (h : MineP w0 w B a o) (c : Nat) (x : Int) (hx : (c : Int) = x) :
    Calls Tryd.prog 12 #[.pointer (some ⟨a, 0, none⟩), .int .u8 x] w fun e w' => e = .returned (.tuple #[]) ∧ MineP w0 w' B a (comes o c) := by
  subst hx
  refine (byte_any a o c w h.pars).mono ?_
  rintro e w' ⟨rfl, hp, hs⟩
  exact ⟨rfl, h.stirs hp hs⟩

theorem mine_clear {w0 w : World} {B a : Nat} {o : Option PS} (h : MineP w0 w B a o) :
    Calls Tryd.prog 10 #[.pointer (some ⟨a, 0, none⟩)] w fun e w' => e = .returned (.tuple #[]) ∧ MineP w0 w' B a none := by
  refine (clear_any a o w h.pars).mono ?_
  rintro e w' ⟨rfl, hp, hs⟩
  exact ⟨rfl, h.stirs hp hs⟩

theorem mine_all {w0 w : World} {B a : Nat} {o : Option PS} (h : MineP w0 w B a o) (l : List (List Nat)) (n : Nat) (hl : listP o = l) (hn : l.length = n) :
    Calls Tryd.prog 8 #[.pointer (some ⟨a, 0, none⟩)] w fun e w' => e = .returned (.slice (some ⟨w.heap.size, 0, none⟩) n n) ∧ Tab w' w'.heap.size (some ⟨w.heap.size, 0, none⟩) l ∧ MineP w0 w' B a o ∧ Below w.heap.size w w' := by
  subst hl
  refine (all_any a o w h.pars).mono ?_
  rintro e w' ⟨rfl, ht, hb⟩
  exact ⟨by rw [hn], ht, h.below hb, hb⟩

/-- A row. -/
def RowAt (w : World) (B : Nat) (A : Option Addr) (l : List Nat) : Prop := ∀ j, j < l.length → ∃ a', A = some a' ∧ a'.block < B ∧ w.cell? (a'.add j) = some (.int .i64 (l.getD j 0 : Nat))
theorem RowAt.below {w w' : World} {B C : Nat} {A : Option Addr} {l : List Nat} (h : RowAt w B A l) (hb : Below B w w') (hC : B ≤ C) : RowAt w' C A l := fun j hj => by
  obtain ⟨a, e, hl, hc⟩ := h j hj
  exact ⟨a, e, Nat.lt_of_lt_of_le hl hC, (hb.cell (p := a.add j) (by rw [add_block]; exact hl)).trans hc⟩
theorem RowAt.alloc {w : World} {A : Option Addr} {l : List Nat} (h : RowAt w w.heap.size A l) (x : Obj) : RowAt (w.alloc x) (w.alloc x).heap.size A l := h.below ((Below.refl _ _).alloc (Nat.le_refl _) _) (by simp)
theorem lit_row (w : World) (l : List Nat) : RowAt (w.alloc (.cells (intV l).toArray 3)) (w.heap.size + 1) (some ⟨w.heap.size, 0, none⟩) l := fun j hj => by
  refine ⟨_, rfl, by simp, ?_⟩
  rw [add_zero, cell_of (Deep.blk_alloc_new _ _)]
  simp [intV, hj]

/-- A table of literals: its rows, one by one, and then the table. -/
def litW (w : World) : List (List Nat) → World
  | [] => w
  | l :: r => litW (w.alloc (.cells (intV l).toArray 3)) r
def topV (b : Nat) : List (List Nat) → List Value
  | [] => []
  | l :: r => .slice (some ⟨b, 0, none⟩) l.length l.length :: topV (b + 1) r
def litT (w : World) (rows : List (List Nat)) : World := (litW w rows).alloc (.cells (topV w.heap.size rows).toArray 26)

theorem litW_size (w : World) (rows : List (List Nat)) : (litW w rows).heap.size = w.heap.size + rows.length := by
  induction rows generalizing w with
  | nil => rfl
  | cons l r ih => show (litW _ r).heap.size = _; rw [ih]; simp; omega
theorem litW_below (w : World) (rows : List (List Nat)) : Below w.heap.size w (litW w rows) := by
  induction rows generalizing w with
  | nil => exact Below.refl _ _
  | cons l r ih => exact ((Below.refl _ _).alloc (Nat.le_refl _) _).trans ((ih _).mono (by simp))
theorem litW_rows (rows : List (List Nat)) (w : World) (r : Nat) (hr : r < rows.length) : RowAt (litW w rows) (litW w rows).heap.size (some ⟨w.heap.size + r, 0, none⟩) (rows.getD r []) ∧ (topV w.heap.size rows)[r]? = some (.slice (some ⟨w.heap.size + r, 0, none⟩) (rows.getD r []).length (rows.getD r []).length) := by
  induction rows generalizing w r with
  | nil => simp at hr
  | cons l rows ih =>
    cases r with
    | zero =>
      refine ⟨?_, rfl⟩
      have h1 := litW_below (w.alloc (.cells (intV l).toArray 3)) rows
      have h2 := (lit_row w l).below (C := (litW w (l :: rows)).heap.size) (by simpa using h1) (by rw [litW_size]; simp)
      exact h2
    | succ r =>
      have := ih (w.alloc (.cells (intV l).toArray 3)) r (by simpa using hr)
      rw [World.size_alloc] at this
      rw [show w.heap.size + (r + 1) = w.heap.size + 1 + r by omega]
      exact this
theorem litT_tab (w : World) (rows : List (List Nat)) (h : ∀ q ∈ rows, q.length ≤ 1000) : Tab (litT w rows) (litT w rows).heap.size (some ⟨w.heap.size + rows.length, 0, none⟩) rows := by
  intro hp
  have hsz := litW_size w rows
  have hb : (litT w rows).heap[w.heap.size + rows.length]? = some (.cells (topV w.heap.size rows).toArray 26 (0, 0)) := by rw [← hsz]; exact Deep.blk_alloc_new _ _
  have hs : (litT w rows).heap.size = w.heap.size + rows.length + 1 := by unfold litT; rw [World.size_alloc, hsz]
  refine ⟨_, rfl, by rw [hs]; exact Nat.lt_succ_self _, fun r hr => ?_⟩
  obtain ⟨h1, h2⟩ := litW_rows rows w r hr
  refine ⟨some ⟨w.heap.size + r, 0, none⟩, (rows.getD r []).length, ?_, ?_, fun c hc => ?_⟩
  · rw [add_zero, cell_of hb]
    simpa using h2
  · have : (rows.getD r []).length ≤ 1000 := h _ (by simp [List.getD, List.getElem?_eq_getElem hr])
    show (rows.getD r []).length ≤ _
    omega
  · obtain ⟨a, e, h3, h4⟩ := h1 c hc
    refine ⟨a, e, by rw [hs]; rw [hsz] at h3; omega, ?_⟩
    unfold litT
    rw [World.cell?_alloc_lt _ _ _ (by rw [add_block]; exact h3)]
    exact h4
theorem litT_below (w : World) (rows : List (List Nat)) : Below w.heap.size w (litT w rows) := (litW_below w rows).alloc (by rw [litW_size]; omega) _

theorem Tab.below {w w' : World} {B : Nat} {A : Option Addr} {l : List (List Nat)} (h : Tab w B A l) (hb : Below B w w') : Tab w' B A l := Grid.below h hb

theorem awake_pars : listP (runP none [52, 58, 51, 59, 49]) = [[4, 3], [1]] := by decide +kernel

theorem one_is {w : World} {B : Nat} {A : Option Addr} {l : List (List Nat)} {n : Nat} (c : Nat) (i x y : Int) (h : Tab w B A l) (hn : l.length = n) (hy : oneV n (fun r => (l.getD r []).length) (fun r c => ((l.getD r []).getD c 0 : Nat)) i x = y) :
    Calls Tryd.prog 9 #[.slice A n c, .int .i64 i, .int .i64 x] w fun e w' => e = .returned (.int .i64 y) ∧ ∃ j, w' = w.drewN j := by
  subst hn
  subst hy
  exact one_any l.length c B A _ _ i x w h
theorem same_is {w : World} {B B' : Nat} {A A' : Option Addr} {l : List (List Nat)} {n m : Nat} (c d : Nat) (h : Tab w B A l) (h' : Tab w B' A' l) (hn : l.length = n) (hm : l.length = m) (h1 : l.length ≤ 1000000) (h2 : ∀ q ∈ l, q.length ≤ 1000000) :
    Calls Tryd.prog 6 #[.slice A n c, .slice A' m d] w fun e w' => e = .returned (.bool true) ∧ ∃ j, w' = w.drewN j := by
  subst hn
  subst hm
  exact same_yes c d h h' h1 h2

set_option maxHeartbeats 1000000 in
theorem awake_any (w : World) : Calls Tryd.prog 4 #[] w fun e w' => e = .returned (.bool true) ∧ Below w.heap.size w w' := by
  go_enter Tryd.func4, Tryd.ntmps4
  go_wp2_with fail
  refine (mine_list (Below.refl _ w) (Nat.le_refl _) _ [52, 58, 51, 59, 49] rfl (by decide)).mono ?_
  rintro e w1 ⟨rfl, hm, hb⟩
  have M1 := Lib.hid hm
  clear hm hb
  go_wp2_with fail
  refine (mine_all M1.out _ 2 awake_pars rfl).mono ?_
  rintro e w2 ⟨rfl, ht, hm, hb⟩
  have B2 := litT_below w2 [[4, 3], [1]]
  have M2 := Lib.hid (hm.below B2)
  have T2 := Lib.hid (ht.below B2)
  have L2 := Lib.hid (litT_tab w2 [[4, 3], [1]] (by decide))
  clear hm ht hb M1 B2
  go_wp2_with fail
  refine (same_is (w := litT w2 [[4, 3], [1]]) (n := 2) (m := 2) _ _ T2.out L2.out rfl rfl (by decide) (by decide)).mono ?_
  rintro e w3 ⟨rfl, j, rfl⟩
  have M3 := Lib.hid (M2.out.drewN j)
  clear M2 T2 L2
  generalize (litT w2 [[4, 3], [1]]).drewN j = w3 at *
  go_wp2_with fail
  refine (mine_all M3.out _ 2 awake_pars rfl).mono ?_
  rintro e w4 ⟨rfl, ht, hm, hb⟩
  have M4 := Lib.hid hm
  have T4 := Lib.hid ht
  clear hm ht hb M3
  go_wp2_with fail
  refine (one_is (y := 1) _ _ _ T4.out rfl (by decide +kernel)).mono ?_
  rintro e w5 ⟨rfl, j, rfl⟩
  have M5 := Lib.hid (M4.out.drewN j)
  clear M4 T4
  generalize w4.drewN j = w5 at *
  go_wp2_with fail
  refine (mine_all M5.out _ 2 awake_pars rfl).mono ?_
  rintro e w6 ⟨rfl, ht, hm, hb⟩
  have M6 := Lib.hid hm
  have T6 := Lib.hid ht
  clear hm ht hb M5
  go_wp2_with fail
  refine (one_is (y := 9) _ _ _ T6.out rfl (by decide +kernel)).mono ?_
  rintro e w7 ⟨rfl, j, rfl⟩
  have M7 := Lib.hid (M6.out.drewN j)
  clear M6 T6
  generalize w6.drewN j = w7 at *
  go_wp2_with fail
  refine (mine_clear M7.out).mono ?_
  rintro e w8 ⟨rfl, hm⟩
  have M8 := Lib.hid hm
  clear hm M7
  go_wp2_with fail
  refine (mine_all M8.out [] 0 rfl rfl).mono ?_
  rintro e w9 ⟨rfl, ht, hm, hb⟩
  have M9 := Lib.hid hm
  clear hm ht hb M8
  go_wp2
  go_ret
  exact ⟨rfl, M9.out.old⟩
end Go.Proofs.YtjeonnlcajlghaaDoor
