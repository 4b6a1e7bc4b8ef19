/- Layer 12: numbers in memory: where a list of columns lies, slices of the call's own; append of one. -/
import Derived.Test.YtfkiihddcinckaaTbB
import Derived.OwnWalk
import Derived.Laws.AppendOwn
import Derived.Lib.SmallJoins
import Derived.Carry
import Derived.Deep.Draws
import Derived.Deep.RegionLaw
import Derived.Deep.AppendLies
import Derived.Deep.RegionHeld3
import Derived.Deep.Heap
import Derived.Deep.Cut
import Derived.Deep.CutBlock
import Derived.Deep.DeepCutAuto
import Derived.KernelRfl
set_option linter.unusedVariables false
namespace Go.Proofs.Ytfkiihddcinckaa.Tb
open Go.RowKit

theorem info_int : (Try.prog.info? 3).map (fun i => (i.zero, i.size, i.bytes)) = some (some (.int .i64 0), 1, 8) := by kernel_rfl
def intsC (l : List Nat) : List Value := l.map fun k : Nat => Value.int .i64 (k : Int)
theorem ints_len (l : List Nat) : (intsC l).length = l.length := by simp [intsC]
theorem ints_get (l : List Nat) (k : Nat) (h : k < l.length) : (intsC l)[k]? = some (.int .i64 (l.getD k 0 : Nat)) := by
  simp [intsC, List.getD_eq_getElem?_getD, List.getElem?_eq_getElem h]
theorem ints_append (l m : List Nat) : intsC (l ++ m) = intsC l ++ intsC m := by simp [intsC]
theorem cell_of {w : World} {b : Nat} {cs : Array Value} {t : TypeId} {fr : Nat × Nat} (h : w.heap[b]? = some (.cells cs t fr)) (i : Nat) : w.cell? ⟨b, i, none⟩ = cs[i]? := by simp [World.cell?, h]
theorem blk_lt {w : World} {b : Nat} {o : Obj} (h : w.heap[b]? = some o) : b < w.heap.size := (Array.getElem?_eq_some_iff.1 h).1
theorem free_of {w : World} {b : Nat} {cs : Array Value} {t : TypeId} (h : w.heap[b]? = some (.cells cs t (0, 0))) (i : Nat) : w.frozen? ⟨b, i, none⟩ = false := by simp [World.frozen?, h]
theorem below_drew {B : Nat} {w0 w : World} (h : Below B w0 w) (n : Nat) : Below B w0 (w.drewN n) := ⟨h.os, h.tape, h.output, h.size, h.block⟩
theorem heap_new (w : World) (o : Obj) : (w.alloc o).heap[w.heap.size]? = some o := by
  show (w.heap.push o)[w.heap.size]? = _
  simp

/-- A slice that reads so. -/
def LiesI (w : World) (u : Value) (l : List Nat) : Prop := ∃ A c, u = .slice A l.length c ∧ (A = none → c = 0) ∧ (l.length ≤ c ∧ c ≤ 9223372036854775807) ∧ (0 < l.length → ∃ b, A = some ⟨b, 0, none⟩ ∧ b < w.heap.size ∧ ∀ k, k < l.length → w.cell? ⟨b, k, none⟩ = some (.int .i64 (l.getD k 0 : Nat)))
theorem LiesI.below {w w' : World} {u : Value} {l : List Nat} (h : LiesI w u l) (hb : Below w.heap.size w w') : LiesI w' u l := by
  obtain ⟨A, c, e, h0, h1, h2⟩ := h
  refine ⟨A, c, e, h0, h1, fun hl => ?_⟩
  obtain ⟨b, e, hlt, hc⟩ := h2 hl
  exact ⟨b, e, Nat.lt_of_lt_of_le hlt hb.size, fun k hk => (hb.cell hlt).trans (hc k hk)⟩
theorem liesI_nil (w : World) : LiesI w (.slice none 0 0) [] := ⟨none, 0, rfl, fun _ => rfl, by decide, fun h => absurd h (by simp)⟩
/-- A slice of the call's own. -/
def OwnI (w : World) (base : Nat) (v : Value) (l : List Nat) : Prop := w.ownsRow base 3 1 v l.length (intsC l)
theorem ownI_none (w : World) (base : Nat) : OwnI w base (.slice none 0 0) [] := ⟨rfl, Or.inl ⟨rfl, rfl⟩⟩
theorem ownI_ge {w : World} {base : Nat} {v : Value} {l : List Nat} (h : OwnI w base v l) : ∀ g, v.ownBlock = some g → base ≤ g ∧ g < w.heap.size ∧ ∃ cur, w.heap[g]? = some (.cells cur 3 (0, 0)) := by
  intro g hg
  rcases h.2 with ⟨rfl, _⟩ | ⟨g', cap, cur, rfl, hb, hh, _⟩
  · simp [Value.ownBlock] at hg
  · have : g' = g := by simpa [Value.ownBlock] using hg
    subst this
    exact ⟨hb, blk_lt hh, cur, hh⟩
theorem ownI_keep {w w' : World} {base : Nat} {v : Value} {l : List Nat} (h : OwnI w base v l) (hk : ∀ g, v.ownBlock = some g → w'.heap[g]? = w.heap[g]?) : OwnI w' base v l := by
  refine ⟨h.1, ?_⟩
  rcases h.2 with h0 | ⟨g, cap, cur, rfl, h1, h2, h3⟩
  · exact Or.inl h0
  · exact Or.inr ⟨g, cap, cur, rfl, h1, (hk g rfl).trans h2, h3⟩
theorem ownI_below {w w' : World} {base : Nat} {v : Value} {l : List Nat} (h : OwnI w base v l) (hb : Below w.heap.size w w') : OwnI w' base v l := ownI_keep h fun g hg => hb.block g (ownI_ge h g hg).2.1
theorem ownI_less {w : World} {base B : Nat} {v : Value} {l : List Nat} (h : OwnI w base v l) (hB : B ≤ base) : OwnI w B v l := by
  refine ⟨h.1, ?_⟩
  rcases h.2 with h0 | ⟨g, cap, cur, rfl, h1, h2⟩
  · exact Or.inl h0
  · exact Or.inr ⟨g, cap, cur, rfl, Nat.le_trans hB h1, h2⟩
theorem ownI_lies {w : World} {base : Nat} {v : Value} {l : List Nat} (h : OwnI w base v l) : LiesI w v l := by
  rcases h.2 with ⟨rfl, h0⟩ | ⟨g, cap, cur, rfl, h1, h2, h3, h4, h5, h6⟩
  · obtain rfl := List.eq_nil_of_length_eq_zero h0
    exact liesI_nil w
  · refine ⟨_, cap, rfl, fun e => (by cases e), ⟨h3, Nat.le_trans h4 (by unfold maxLen; omega)⟩, fun _ => ⟨g, rfl, blk_lt h2, fun k hk => ?_⟩⟩
    rw [cell_of h2, ← ints_get l k hk, ← h6, List.getElem?_take, if_pos (by omega), Array.getElem?_toList]
theorem ownI_form {w : World} {base : Nat} {v : Value} {l : List Nat} (h : OwnI w base v l) : (v = .slice none 0 0 ∧ l = []) ∨ ∃ g c, v = .slice (some ⟨g, 0, none⟩) l.length c := by
  rcases h.2 with ⟨rfl, h0⟩ | ⟨g, cap, cur, rfl, _⟩
  · exact Or.inl ⟨rfl, List.eq_nil_of_length_eq_zero h0⟩
  · exact Or.inr ⟨g, cap, rfl⟩
theorem add_z (b k : Nat) : (⟨b, 0, none⟩ : Addr).add k = ⟨b, k, none⟩ := by
  unfold Addr.add
  split
  · rename_i h; subst h; rfl
  · simp
theorem idx_int (b n c k : Nat) (hk : k < n) (W : World) : (Instr.indexAt 26 (.slice (some ⟨b, 0, none⟩) n c) (.int .i64 (k : Int))).run Try.prog W = .ok (.pointer (some ⟨b, k, none⟩)) W := by
  have hs : ∀ W : World, (sizeOf (Try.prog.elem 26)).run Try.prog W = .ok 1 W := fun W => by kernel_rfl
  rw [run_indexAt_slice (P := Try.prog) W 26 ⟨b, 0, none⟩ n c .i64 k (by kernel_rfl), if_pos (by omega), hs]
  simp only [Result.andThen, Int.toNat_natCast, add_z, Nat.mul_one]
/-- One number, made as a slice. -/
theorem one_int (w : World) (k : Nat) : LiesI (w.alloc (.cells #[.int .i64 (k : Int)] 3)) (.slice (some ⟨w.heap.size, 0, none⟩) 1 1) [k] :=
  ⟨_, 1, rfl, fun e => (by cases e), ⟨Nat.le_refl 1, by decide⟩, fun _ => ⟨w.heap.size, rfl, by simp, fun i hi => by
    have h0 : i = 0 := by simpa using hi
    subst h0
    rw [cell_of (heap_new w _)]
    rfl⟩⟩
/-- append of numbers that stand anywhere (some of them) to a slice of the call's own. -/
theorem append_ints {ops : Array Oper} {rest : List Oper} {o : Oper} {a : Act} {Q : Exit → Act → World → Prop} (w : World) (hgd : o.guard = none) (s x : Operand)
    (ho : o.op = .call { callee := .builtin .append, args := #[s, x], argTypes := #[26, 26] }) (base : Nat) (v u : Value) (xs ys : List Nat) (hs : a.eval s = v) (hown : OwnI w base v xs)
    (hx : a.eval x = u) (hr : LiesI w u ys) (hp : 0 < ys.length) (hlen : xs.length + ys.length ≤ 1000000) (hbase : base ≤ w.heap.size)
    (h : ∀ g c w', OwnI w' base (.slice (some ⟨g, 0, none⟩) (xs ++ ys).length c) (xs ++ ys) → w.grownBy w' v.ownBlock → wpList Try.prog ops Q rest (a.put o.dst (.slice (some ⟨g, 0, none⟩) (xs ++ ys).length c)) w') : wpList Try.prog ops Q (o :: rest) a w := by
  obtain ⟨i0, hi, hz0, hz1, hz2⟩ := info_parts info_int
  obtain ⟨A, c, rfl, h0, _, hc⟩ := hr
  obtain ⟨b, rfl, hb, hcell⟩ := hc hp
  refine wpList_append_own w hgd s x 26 ho base 3 i0 (.int .i64 0) 1 8 Try.underlying26 hi hz0 hz1 hz2 rfl (by decide) v xs.length (intsC xs) hs hown ⟨b, 0, none⟩ ys.length c (intsC ys) hx (by rw [ints_len, Nat.mul_one]) ?_ (fun u hu => by obtain ⟨k, _, rfl⟩ := List.mem_map.1 hu; rfl) (by unfold maxLen; omega) (by omega) hbase ?_
  · intro j y hy
    have hj : j < ys.length := by
      have := (List.getElem?_eq_some_iff.1 hy).1
      rwa [ints_len] at this
    rw [add_z, hcell j hj, ← ints_get ys j hj]
    exact hy
  · intro v' w' h2 h3 _
    have e : xs.length + ys.length = (xs ++ ys).length := by rw [List.length_append]
    rw [e, ← ints_append] at h2
    obtain ⟨g, cap, rfl⟩ := Joins.ownsRow_form h2 (by rw [List.length_append]; omega)
    exact h g cap w' h2 h3
/-- The same in a region that draws. -/
theorem step_ints {ops : Array Oper} {o : Oper} {a : Act} {K : Act → World → Prop} {Q : Exit → Act → World → Prop} {E : Prop} (w : World) (hgd : o.guard = none) (s x : Operand)
    (ho : o.op = .call { callee := .builtin .append, args := #[s, x], argTypes := #[26, 26] }) (base : Nat) (v u : Value) (xs ys : List Nat) (hs : a.eval s = v) (hown : OwnI w base v xs)
    (hx : a.eval x = u) (hr : LiesI w u ys) (hp : 0 < ys.length) (hlen : xs.length + ys.length ≤ 1000000) (hbase : base ≤ w.heap.size)
    (h : ∀ g c w', OwnI w' base (.slice (some ⟨g, 0, none⟩) (xs ++ ys).length c) (xs ++ ys) → w.grownBy w' v.ownBlock → K (a.put o.dst (.slice (some ⟨g, 0, none⟩) (xs ++ ys).length c)) w') : if Region.wanted o (yielded ops a.tmps) = true then Oper.wp Try.prog o a w K Q else E := by
  obtain ⟨i0, hi, hz0, hz1, hz2⟩ := info_parts info_int
  obtain ⟨A, c, rfl, h0, _, hc⟩ := hr
  obtain ⟨b, rfl, hb, hcell⟩ := hc hp
  refine step_append_lies w hgd s x 26 ho base 3 i0 (.int .i64 0) 1 8 Try.underlying26 hi hz0 hz1 hz2 rfl (by decide) v xs.length (intsC xs) hs hown ⟨b, 0, none⟩ ys.length c (intsC ys) hx (by rw [ints_len, Nat.mul_one]) ?_ (fun u hu => by obtain ⟨k, _, rfl⟩ := List.mem_map.1 hu; rfl) hp (by unfold maxLen; omega) (by omega) hbase _ rfl ?_
  · intro j y hy
    have hj : j < ys.length := by
      have := (List.getElem?_eq_some_iff.1 hy).1
      rwa [ints_len] at this
    rw [add_z, hcell j hj, ← ints_get ys j hj]
    exact hy
  · intro g cap w' h2 h3 _ _
    have e : xs.length + ys.length = (xs ++ ys).length := by rw [List.length_append]
    rw [e, ← ints_append] at h2
    rw [e]
    exact h g cap w' h2 h3
theorem grown_below {B : Nat} {w0 w w' : World} {base : Nat} {v : Value} {l : List Nat} (hb : Below B w0 w) (hg : w.grownBy w' v.ownBlock) (ho : OwnI w base v l) (hB : B ≤ base) (hs : B ≤ w.heap.size) : Below B w0 w' := hb.grown hg hs (fun g h => Nat.le_trans hB (ownI_ge ho g h).1)
end Go.Proofs.Ytfkiihddcinckaa.Tb
