/- Layer 11: rows in memory: cells that lie somewhere, and slices of the call's own; append, stores, cuts. -/
import Derived.Test.YtifolcfnknlmdaaRwM
import Derived.Test.YtifolcfnknlmdaaProg
import Derived.WalkKit
import Derived.KernelRfl
import Derived.OwnWalk
import Derived.LoopTactic
import Derived.Below
import Derived.IntWalk
import Derived.Deep.Heap
import Derived.Deep.Draws
import Derived.BigQuiet
import Derived.Deep.QuietTactic
import Derived.Deep.RegionHeld3
import Derived.Deep.AppendLies
import Derived.Deep.RegionLaw
import Derived.Laws.AppendOwnNone
import Derived.Deep.Cut
import Derived.Deep.DeepCutAuto
import Derived.Deep.CutBlock
set_option linter.unusedVariables false
namespace Go.Proofs.Ytifolcfnknlmdaa.Rw
open Go.RowKit

def cellsC (c : Ce) : List Value := [.int .i32 c.r, .int .u8 c.w, .int .u16 c.a.fl, .int .u8 c.a.fk, .int .u32 c.a.fn, .int .u8 c.a.bk, .int .u32 c.a.bn]
abbrev attrV (a : Aa) : Value := .agg #[.int .u16 (a.fl : Int), .int .u8 (a.fk : Int), .int .u32 (a.fn : Int), .int .u8 (a.bk : Int), .int .u32 (a.bn : Int)]
abbrev ceV (c : Ce) : Value := .agg #[.int .i32 c.r, .int .u8 (c.w : Int), .int .u16 (c.a.fl : Int), .int .u8 (c.a.fk : Int), .int .u32 (c.a.fn : Int), .int .u8 (c.a.bk : Int), .int .u32 (c.a.bn : Int)]
theorem info_cell : (Try.prog.info? 38).map (fun i => (i.zero, i.size, i.bytes)) = some (some (ceV zeroCe), 7, 28) := by kernel_rfl
def flatC (l : List Ce) : List Value := l.flatMap cellsC
theorem cells_len (c : Ce) : (cellsC c).length = 7 := rfl
theorem flat_len (l : List Ce) : (flatC l).length = l.length * 7 := by
  induction l with
  | nil => rfl
  | cons a l ih =>
    have e : flatC (a :: l) = cellsC a ++ flatC l := rfl
    rw [e, List.length_append, ih, cells_len, List.length_cons]; omega
theorem flat_append (l m : List Ce) : flatC (l ++ m) = flatC l ++ flatC m := List.flatMap_append
theorem flat_get (l : List Ce) (k : Nat) (hk : k < l.length) (j : Nat) (hj : j < 7) : (flatC l)[k * 7 + j]? = (cellsC (cellV l k))[j]? := by
  induction l generalizing k with
  | nil => simp at hk
  | cons a l ih =>
    have e : flatC (a :: l) = cellsC a ++ flatC l := rfl
    rw [e]
    cases k with
    | zero => rw [List.getElem?_append_left (by rw [cells_len]; omega), Nat.zero_mul, Nat.zero_add]; rfl
    | succ k =>
      rw [List.getElem?_append_right (by rw [cells_len]; omega), cells_len, show (k + 1) * 7 + j - 7 = k * 7 + j by omega, ih k (by simpa using hk)]
      rfl
theorem flat_one (l : List Ce) : ∀ u ∈ flatC l, u.oneCell' = true := by
  intro u hu
  obtain ⟨c, _, h⟩ := List.mem_flatMap.1 hu
  simp only [cellsC, List.mem_cons, List.not_mem_nil, or_false] at h
  rcases h with rfl | rfl | rfl | rfl | rfl | rfl | rfl <;> rfl

theorem cell_of {w : World} {b : Nat} {cs : Array Value} {t : TypeId} (h : w.heap[b]? = some (.cells cs t (0, 0))) (i : Nat) : w.cell? ⟨b, i, none⟩ = cs[i]? := by simp [World.cell?, h]
theorem free_of {w : World} {b : Nat} {cs : Array Value} {t : TypeId} (h : w.heap[b]? = some (.cells cs t (0, 0))) (i : Nat) : w.frozen? ⟨b, i, none⟩ = false := by simp [World.frozen?, h]
theorem blk_lt {w : World} {b : Nat} {o : Obj} (h : w.heap[b]? = some o) : b < w.heap.size := (Array.getElem?_eq_some_iff.1 h).1
theorem cell_blt {w : World} {p : Addr} {v : Value} (h : w.cell? p = some v) : p.block < w.heap.size := World.block_lt_of_cell? w p h
theorem add_zz (g k : Nat) : (⟨g, 0, none⟩ : Addr).add k = ⟨g, k, none⟩ := by
  unfold Addr.add
  split
  · rename_i h; subst h; rfl
  · simp
theorem add_oo (b o k : Nat) : (⟨b, o, none⟩ : Addr).add k = ⟨b, o + k, none⟩ := by
  unfold Addr.add
  split
  · rename_i h; subst h; rfl
  · rfl

theorem below_drew {B : Nat} {w0 w : World} (h : Below B w0 w) (n : Nat) : Below B w0 (w.drewN n) := ⟨h.os, h.tape, h.output, h.size, h.block⟩
/-! ### cells that lie somewhere -/
/-- These cells lie at A, below block B. -/
def RowR (w : World) (B : Nat) (A : Option Addr) (l : List Ce) : Prop := 0 < l.length → ∃ b o, A = some ⟨b, o, none⟩ ∧ b < B ∧ ∀ i, i < l.length → ∀ j u, (cellsC (cellV l i))[j]? = some u → w.cell? ⟨b, o + (i * 7 + j), none⟩ = some u
theorem RowR.keep {w w' : World} {B C : Nat} {A : Option Addr} {l : List Ce} (h : RowR w B A l) (hk : ∀ p : Addr, p.block < B → w'.cell? p = w.cell? p) (hC : B ≤ C) : RowR w' C A l := fun hn => by
  obtain ⟨b, o, e, hb, hr⟩ := h hn
  exact ⟨b, o, e, Nat.lt_of_lt_of_le hb hC, fun i hi j u hj => (hk _ hb).trans (hr i hi j u hj)⟩
theorem RowR.below {w w' : World} {B C : Nat} {A : Option Addr} {l : List Ce} (h : RowR w B A l) (hb : Below C w w') (hB : B ≤ C) : RowR w' B A l := h.keep (fun _ hp => hb.cell (Nat.lt_of_lt_of_le hp hB)) (Nat.le_refl _)
theorem RowR.more {w : World} {B C : Nat} {A : Option Addr} {l : List Ce} (h : RowR w B A l) (hC : B ≤ C) : RowR w C A l := h.keep (fun _ _ => rfl) hC
theorem RowR.take {w : World} {B : Nat} {A : Option Addr} {l : List Ce} (h : RowR w B A l) (k : Nat) : RowR w B A (l.take k) := fun hn => by
  have hl : (l.take k).length ≤ l.length := List.length_take_le' k l
  obtain ⟨b, o, e, hb, hr⟩ := h (by omega)
  refine ⟨b, o, e, hb, fun i hi j u hj => hr i (by omega) j u ?_⟩
  rw [List.length_take] at hi
  rwa [cell_take, if_pos (by omega)] at hj
theorem RowR.drop {w : World} {B b o : Nat} {l : List Ce} (h : RowR w B (some ⟨b, o, none⟩) l) (k : Nat) : RowR w B (some ⟨b, o + k * 7, none⟩) (l.drop k) := fun hn => by
  rw [List.length_drop] at hn
  obtain ⟨b', o', e, hb, hr⟩ := h (by omega)
  cases e
  refine ⟨b, o + k * 7, rfl, hb, fun i hi j u hj => ?_⟩
  rw [List.length_drop] at hi
  rw [cell_drop] at hj
  have := hr (k + i) (by omega) j u hj
  rwa [show o + ((k + i) * 7 + j) = o + k * 7 + (i * 7 + j) by rw [Nat.add_mul]; omega] at this
/-- A cell, number by number. -/
theorem RowR.at_ {w : World} {B : Nat} {A : Option Addr} {l : List Ce} (h : RowR w B A l) {k : Nat} (hk : k < l.length) : ∃ b o, A = some ⟨b, o, none⟩ ∧ b < B ∧
    (w.cell? ⟨b, o + k * 7, none⟩ = some (.int .i32 (cellV l k).r) ∧ w.cell? ⟨b, o + k * 7 + 1, none⟩ = some (.int .u8 ((cellV l k).w : Int)) ∧ w.cell? ⟨b, o + k * 7 + 2, none⟩ = some (.int .u16 ((cellV l k).a.fl : Int)) ∧ w.cell? ⟨b, o + k * 7 + 3, none⟩ = some (.int .u8 ((cellV l k).a.fk : Int)) ∧ w.cell? ⟨b, o + k * 7 + 4, none⟩ = some (.int .u32 ((cellV l k).a.fn : Int)) ∧ w.cell? ⟨b, o + k * 7 + 5, none⟩ = some (.int .u8 ((cellV l k).a.bk : Int)) ∧ w.cell? ⟨b, o + k * 7 + 6, none⟩ = some (.int .u32 ((cellV l k).a.bn : Int))) := by
  obtain ⟨b, o, e, hb, hr⟩ := h (by omega)
  have hc := hr k hk
  refine ⟨b, o, e, hb, hc 0 _ rfl, ?_, ?_, ?_, ?_, ?_, ?_⟩
  · rw [Nat.add_assoc]; exact hc 1 _ rfl
  · rw [Nat.add_assoc]; exact hc 2 _ rfl
  · rw [Nat.add_assoc]; exact hc 3 _ rfl
  · rw [Nat.add_assoc]; exact hc 4 _ rfl
  · rw [Nat.add_assoc]; exact hc 5 _ rfl
  · rw [Nat.add_assoc]; exact hc 6 _ rfl

/-- A slice that reads so. -/
def Lies (w : World) (u : Value) (l : List Ce) : Prop := ∃ A c, u = .slice A l.length c ∧ (A = none → c = 0) ∧ (l.length ≤ c ∧ c ≤ 9223372036854775807) ∧ RowR w w.heap.size A l
theorem Lies.below {w w' : World} {u : Value} {l : List Ce} (h : Lies w u l) (hb : Below w.heap.size w w') : Lies w' u l := by
  obtain ⟨A, c, e, h0, h1, h2⟩ := h
  exact ⟨A, c, e, h0, h1, (h2.below hb (Nat.le_refl _)).more hb.size⟩
theorem Lies.row {w : World} {A : Option Addr} {n c : Nat} {l : List Ce} (h : Lies w (.slice A n c) l) : n = l.length ∧ (A = none → c = 0) ∧ (n ≤ c ∧ c ≤ 9223372036854775807) ∧ RowR w w.heap.size A l := by
  obtain ⟨A', c', e, h0, h1, h2⟩ := h
  injection e with e1 e2 e3
  subst e1 e3
  exact ⟨e2, h0, by omega, h2⟩
theorem lies_nil (w : World) : Lies w (.slice none 0 0) [] := ⟨none, 0, rfl, fun _ => rfl, by decide, fun h => absurd h (by simp)⟩
/-- Cut at its front or its end. -/
theorem Lies.cut {w : World} {b o c : Nat} {l : List Ce} (hR : RowR w w.heap.size (some ⟨b, o, none⟩) l) (hc : l.length ≤ c) (hM : c ≤ 9223372036854775807) {x y : Nat} (hxy : x ≤ y) (hy : y ≤ l.length) {A : Option Addr} (hA : A = some ⟨b, o + x * 7, none⟩ ∨ ((∃ p, A = some p) ∧ y - x = 0)) {n c' : Nat} (hn : n = y - x) (hc' : c' = c - x) : Lies w (.slice A n c') ((l.take y).drop x) := by
  subst hn hc'
  have hl : ((l.take y).drop x).length = y - x := by rw [List.length_drop, List.length_take]; omega
  refine ⟨A, c - x, by rw [hl], fun e => ?_, by rw [hl]; omega, ?_⟩
  · rcases hA with h | ⟨⟨p, h⟩, _⟩ <;> rw [h] at e <;> cases e
  · rcases hA with rfl | ⟨_, h0⟩
    · exact (hR.take y).drop x
    · exact fun hn => by omega

/-! ### slices of the call's own -/
def OwnC (w : World) (base : Nat) (v : Value) (l : List Ce) : Prop := w.ownsRow base 38 7 v l.length (flatC l)
theorem own_none (w : World) (base : Nat) : OwnC w base (.slice none 0 0) [] := ⟨rfl, Or.inl ⟨rfl, rfl⟩⟩
theorem own_ge {w : World} {base : Nat} {v : Value} {l : List Ce} (h : OwnC w base v l) : ∀ g, v.ownBlock = some g → base ≤ g := by
  intro g hg
  rcases h.2 with ⟨rfl, _⟩ | ⟨g', cap, cur, rfl, hb, _⟩
  · simp [Value.ownBlock] at hg
  · have : g' = g := by simpa [Value.ownBlock] using hg
    omega
theorem own_keep {w w' : World} {base : Nat} {v : Value} {l : List Ce} (h : OwnC w base v l) (hk : ∀ g, v.ownBlock = some g → w'.heap[g]? = w.heap[g]?) : OwnC w' base v l := by
  refine ⟨h.1, ?_⟩
  rcases h.2 with h0 | ⟨g, cap, cur, rfl, h1, h2, h3⟩
  · exact Or.inl h0
  · exact Or.inr ⟨g, cap, cur, rfl, h1, (hk g rfl).trans h2, h3⟩
theorem own_lt {w : World} {base : Nat} {v : Value} {l : List Ce} (h : OwnC w base v l) : ∀ g, v.ownBlock = some g → g < w.heap.size := by
  intro g hg
  rcases h.2 with ⟨rfl, _⟩ | ⟨g', cap, cur, rfl, _, hh, _⟩
  · simp [Value.ownBlock] at hg
  · have : g' = g := by simpa [Value.ownBlock] using hg
    subst this
    exact blk_lt hh
theorem own_below {w w' : World} {base B : Nat} {v : Value} {l : List Ce} (h : OwnC w base v l) (hb : Below B w w') (hB : w.heap.size ≤ B) : OwnC w' base v l :=
  own_keep h fun g hg => hb.block g (Nat.lt_of_lt_of_le (own_lt h g hg) hB)
theorem own_less {w : World} {base B : Nat} {v : Value} {l : List Ce} (h : OwnC w base v l) (hB : B ≤ base) : OwnC w B v l := by
  refine ⟨h.1, ?_⟩
  rcases h.2 with h0 | ⟨g, cap, cur, rfl, h1, h2⟩
  · exact Or.inl h0
  · exact Or.inr ⟨g, cap, cur, rfl, Nat.le_trans hB h1, h2⟩
/-- Its block, cell by cell. -/
theorem own_shape {w : World} {base : Nat} {v : Value} {l : List Ce} (h : OwnC w base v l) : (v = .slice none 0 0 ∧ l = []) ∨ ∃ g c cur, v = .slice (some ⟨g, 0, none⟩) l.length c ∧ base ≤ g ∧ g < w.heap.size ∧ w.heap[g]? = some (.cells cur 38 (0, 0)) ∧ l.length ≤ c ∧ c ≤ maxLen ∧ cur.size = c * 7 ∧ cur.toList.take (l.length * 7) = flatC l := by
  rcases h.2 with ⟨rfl, h0⟩ | ⟨g, c, cur, rfl, h1, h2, h3, h4, h5, h6⟩
  · exact Or.inl ⟨rfl, List.eq_nil_of_length_eq_zero h0⟩
  · exact Or.inr ⟨g, c, cur, rfl, h1, blk_lt h2, h2, h3, h4, h5, h6⟩
theorem own_row {w : World} {base : Nat} {l : List Ce} {g n c : Nat} (h : OwnC w base (.slice (some ⟨g, 0, none⟩) n c) l) : RowR w w.heap.size (some ⟨g, 0, none⟩) l := fun _ => by
  rcases own_shape h with ⟨e, _⟩ | ⟨g', c', cur, e, _, hl, hh, _, _, _, hx⟩
  · cases e
  · cases e
    refine ⟨g, 0, rfl, hl, fun i hi j u hj => ?_⟩
    have hj7 : j < 7 := by
      have := (List.getElem?_eq_some_iff.1 hj).1
      rwa [cells_len] at this
    have h1 := flat_get l i hi j hj7
    rw [hj, ← hx, List.getElem?_take] at h1
    rw [Nat.zero_add, cell_of hh]
    split at h1
    · simpa using h1
    · cases h1
theorem own_lies {w : World} {base : Nat} {v : Value} {l : List Ce} (h : OwnC w base v l) : Lies w v l := by
  rcases own_shape h with ⟨rfl, rfl⟩ | ⟨g, c, cur, rfl, _, _, _, hc, hm, _⟩
  · exact lies_nil w
  · exact ⟨_, c, rfl, fun e => (by cases e), ⟨hc, Nat.le_trans hm (by unfold maxLen; omega)⟩, own_row h⟩
theorem own_zero (w : World) : OwnC (w.alloc (.cells #[] 38)) w.heap.size (.slice (some ⟨w.heap.size, 0, none⟩) 0 0) [] :=
  ⟨rfl, Or.inr ⟨_, 0, #[], rfl, Nat.le_refl _, heap_alloc_new w _, Nat.le_refl _, by unfold maxLen; omega, rfl, by simp; rfl⟩⟩

/-! ### append -/
/-- append of cells that stand anywhere to a slice of the call's own. -/
theorem append_cells {ops : Array Oper} {rest : List Oper} {o : Oper} {a : Act} {Q : Exit → Act → World → Prop} (w : World) (hgd : o.guard = none) (s x : Operand)
    (ho : o.op = .call { callee := .builtin .append, args := #[s, x], argTypes := #[28, 28] }) (base : Nat) (v u : Value) (xs ys : List Ce) (hs : a.eval s = v) (hown : OwnC w base v xs)
    (hx : a.eval x = u) (hr : Lies w u ys) (hlen : xs.length + ys.length ≤ 1000000) (hbase : base ≤ w.heap.size)
    (h : ∀ v' w', OwnC w' base v' (xs ++ ys) → w.grownBy w' v.ownBlock → wpList Try.prog ops Q rest (a.put o.dst v') w') : wpList Try.prog ops Q (o :: rest) a w := by
  obtain ⟨i0, hi, hz0, hz1, hz2⟩ := info_parts info_cell
  obtain ⟨A, c, rfl, h0, _, hc⟩ := hr
  cases A with
  | none =>
    have he : ys = [] := by
      cases ys with
      | nil => rfl
      | cons y l => obtain ⟨g, _, hg, _⟩ := hc (by simp); cases hg
    subst he
    obtain rfl := h0 rfl
    refine wpList_append_own_none hgd s x 28 ho base 38 i0 7 Try.underlying28 hi v xs.length (flatC xs) hs hown hx (h v w ?_ ⟨rfl, rfl, rfl, Nat.le_refl _, fun _ _ _ => rfl⟩)
    rw [List.append_nil]
    exact hown
  | some ad =>
    refine wpList_append_own w hgd s x 28 ho base 38 i0 (ceV zeroCe) 7 28 Try.underlying28 hi hz0 hz1 hz2 rfl (by decide) v xs.length (flatC xs) hs hown ad ys.length c (flatC ys) hx (flat_len ys) ?_ (flat_one ys) (by unfold maxLen; omega) (by omega) hbase ?_
    · intro j y hy
      have hj : j < ys.length * 7 := by
        have := (List.getElem?_eq_some_iff.1 hy).1
        rwa [flat_len] at this
      obtain ⟨b, o', e, _, hcell⟩ := hc (by omega)
      cases e
      have hd : j = j / 7 * 7 + j % 7 := by omega
      rw [add_oo, hd]
      refine hcell (j / 7) (by omega) (j % 7) y ?_
      rw [← flat_get ys (j / 7) (by omega) (j % 7) (by omega), ← hd]
      exact hy
    · intro v' w' h2 h3 _
      refine h v' w' ?_ h3
      unfold OwnC
      rw [List.length_append, flat_append]
      exact h2

/-! ### stores -/
/-- The world behind a cell's store. -/
def setCe (w : World) (g k : Nat) (c : Ce) : World := ((((((w.setCell ⟨g, k * 7, none⟩ (.int .i32 c.r)).setCell ⟨g, k * 7 + 1, none⟩ (.int .u8 (c.w : Int))).setCell ⟨g, k * 7 + 2, none⟩ (.int .u16 (c.a.fl : Int))).setCell ⟨g, k * 7 + 3, none⟩ (.int .u8 (c.a.fk : Int))).setCell ⟨g, k * 7 + 4, none⟩ (.int .u32 (c.a.fn : Int))).setCell ⟨g, k * 7 + 5, none⟩ (.int .u8 (c.a.bk : Int))).setCell ⟨g, k * 7 + 6, none⟩ (.int .u32 (c.a.bn : Int))
theorem setCe_below {B : Nat} {w0 w : World} (h : Below B w0 w) {g : Nat} (hg : B ≤ g) (k : Nat) (c : Ce) : Below B w0 (setCe w g k c) := by
  unfold setCe
  exact ((((((h.setCell hg _).setCell hg _).setCell hg _).setCell hg _).setCell hg _).setCell hg _).setCell hg _
theorem setCe_other {w : World} {g b : Nat} (h : b ≠ g) (k : Nat) (c : Ce) : (setCe w g k c).heap[b]? = w.heap[b]? := by
  unfold setCe
  iterate 7 rw [Below.heap_setCell _ _ _ _ h]
theorem heap_set {w : World} {g i : Nat} {cs : Array Value} {t : TypeId} (h : w.heap[g]? = some (.cells cs t (0, 0))) (v : Value) : (w.setCell ⟨g, i, none⟩ v).heap[g]? = some (.cells (cs.setIfInBounds i v) t (0, 0)) := heap_setCell_same w g i _ _ v h
theorem own_set {w : World} {base g n c : Nat} {l : List Ce} (h : OwnC w base (.slice (some ⟨g, 0, none⟩) n c) l) {k : Nat} (hk : k < l.length) (x : Ce) : OwnC (setCe w g k x) base (.slice (some ⟨g, 0, none⟩) n c) (l.set k x) := by
  unfold setCe
  rcases own_shape h with ⟨e, _⟩ | ⟨g', c', cur, e, hb, hl, hh, hc, hm, hsz, hx⟩
  · cases e
  · cases e
    refine ⟨by rw [flat_len], Or.inr ⟨g, c, (((((((cur.setIfInBounds (k * 7) (.int .i32 x.r)).setIfInBounds (k * 7 + 1) (.int .u8 (x.w : Int))).setIfInBounds (k * 7 + 2) (.int .u16 (x.a.fl : Int))).setIfInBounds (k * 7 + 3) (.int .u8 (x.a.fk : Int))).setIfInBounds (k * 7 + 4) (.int .u32 (x.a.fn : Int))).setIfInBounds (k * 7 + 5) (.int .u8 (x.a.bk : Int))).setIfInBounds (k * 7 + 6) (.int .u32 (x.a.bn : Int))), by rw [List.length_set], hb, heap_set (heap_set (heap_set (heap_set (heap_set (heap_set (heap_set hh _) _) _) _) _) _) _, by rw [List.length_set]; exact hc, hm, by simp [hsz], ?_⟩⟩
    rw [List.length_set]
    refine List.ext_getElem? fun i => ?_
    by_cases hi : i < l.length * 7
    · have hd : i = i / 7 * 7 + i % 7 := by omega
      have hr := flat_get (l.set k x) (i / 7) (by rw [List.length_set]; omega) (i % 7) (by omega)
      rw [← hd] at hr
      rw [hr, List.getElem?_take, if_pos hi, Array.getElem?_toList]
      have hcs : k * 7 + 7 ≤ cur.size := by rw [hsz]; omega
      by_cases hq : i / 7 = k
      · rw [cell_set, if_pos ⟨hq, hk⟩]
        have : i % 7 = 0 ∨ i % 7 = 1 ∨ i % 7 = 2 ∨ i % 7 = 3 ∨ i % 7 = 4 ∨ i % 7 = 5 ∨ i % 7 = 6 := by omega
        rcases this with e | e | e | e | e | e | e <;>
        · rw [e]
          have hi2 : i = k * 7 + i % 7 := by omega
          rw [e] at hi2
          subst hi2
          simp [Array.getElem?_setIfInBounds, cellsC]
          try omega
      · rw [cell_set, if_neg (fun hh => hq hh.1)]
        have hne : ∀ j, j < 7 → k * 7 + j ≠ i := fun j hj e => hq (by omega)
        have h0 := hne 0 (by omega)
        rw [Nat.add_zero] at h0
        iterate 6 rw [Array.getElem?_setIfInBounds_ne (hne _ (by omega))]
        rw [Array.getElem?_setIfInBounds_ne h0]
        have h1 := flat_get l (i / 7) (by omega) (i % 7) (by omega)
        rw [← hd, ← hx, List.getElem?_take, if_pos hi, Array.getElem?_toList] at h1
        exact h1
    · rw [List.getElem?_eq_none (by rw [List.length_take]; omega), List.getElem?_eq_none (by rw [flat_len, List.length_set]; omega)]
end Go.Proofs.Ytifolcfnknlmdaa.Rw
