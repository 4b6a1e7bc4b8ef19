/- Layer 15: slices of the call's own whose elements fill n cells each: rows, numbers, pairs of numbers. -/
import Derived.Test.YtifolcfnknlmdaaReB
set_option linter.unusedVariables false
namespace Go.Proofs.Ytifolcfnknlmdaa.Re
open Go.RowKit Go.Proofs.Ytifolcfnknlmdaa.Rw

/-- A kind of slice: the slice's type, the element's, its zero, its cells, its bytes. -/
structure ElT (S T : TypeId) (z : Value) (n bs : Nat) : Prop where
  info : (Try.prog.info? T).map (fun i => (i.zero, i.size, i.bytes)) = some (some z, n, bs)
  und : Try.prog.underlying S = some (.slice T)
  zs : z.cells.size = n
  pos : 0 < n
  bsl : bs ≤ 64
theorem elInt : ElT 65 3 (.int .i64 0) 1 8 := ⟨by kernel_rfl, Try.underlying65, rfl, by decide, by decide⟩
theorem elRow : ElT 50 28 (.slice none 0 0) 1 24 := ⟨by kernel_rfl, Try.underlying50, rfl, by decide, by decide⟩
theorem elPair : ElT 68 73 (.agg #[.int .i64 0, .int .i64 0]) 2 16 := ⟨by kernel_rfl, Try.underlying68, rfl, by decide, by decide⟩
/-- Every element has n cells. -/
def Wide (n : Nat) (rows : List (List Value)) : Prop := ∀ r ∈ rows, r.length = n ∧ ∀ u ∈ r, u.oneCell' = true
theorem Wide.append {n : Nat} {a b : List (List Value)} (ha : Wide n a) (hb : Wide n b) : Wide n (a ++ b) := fun r hr => by
  rcases List.mem_append.1 hr with h | h
  · exact ha r h
  · exact hb r h
theorem Wide.one {n : Nat} {r : List Value} (h : r.length = n) (h2 : ∀ u ∈ r, u.oneCell' = true) : Wide n [r] := fun q hq => by
  rw [List.mem_singleton] at hq
  subst hq
  exact ⟨h, h2⟩
theorem wide_len {n : Nat} {rows : List (List Value)} (h : Wide n rows) : rows.flatten.length = rows.length * n := by
  induction rows with
  | nil => simp
  | cons a l ih =>
    rw [List.flatten_cons, List.length_append, ih fun r hr => h r (List.mem_cons_of_mem _ hr), (h a (List.mem_cons_self ..)).1, List.length_cons, Nat.add_mul, Nat.one_mul, Nat.add_comm]
theorem wide_get {n : Nat} {rows : List (List Value)} (h : Wide n rows) (k : Nat) (hk : k < rows.length) (j : Nat) (hj : j < n) : rows.flatten[k * n + j]? = (rows.getD k [])[j]? := by
  induction rows generalizing k with
  | nil => simp at hk
  | cons a l ih =>
    have ha := (h a (List.mem_cons_self ..)).1
    rw [List.flatten_cons]
    cases k with
    | zero => rw [List.getElem?_append_left (by rw [ha]; omega), Nat.zero_mul, Nat.zero_add]; rfl
    | succ k =>
      rw [List.getElem?_append_right (by rw [ha, Nat.add_mul]; omega), ha, show (k + 1) * n + j - n = k * n + j by rw [Nat.add_mul]; omega, ih (fun r hr => h r (List.mem_cons_of_mem _ hr)) k (by simpa using hk)]
      rfl
theorem wide_one {n : Nat} {rows : List (List Value)} (h : Wide n rows) : ∀ u ∈ rows.flatten, u.oneCell' = true := fun u hu => by
  obtain ⟨r, hr, hm⟩ := List.mem_flatten.1 hu
  exact (h r hr).2 u hm
/-- A slice of the call's own. -/
def OwnG (T : TypeId) (n : Nat) (w : World) (base : Nat) (v : Value) (rows : List (List Value)) : Prop := w.ownsRow base T n v rows.length rows.flatten ∧ Wide n rows
section
variable {T : TypeId} {n : Nat}
theorem ownG_none (w : World) (base : Nat) : OwnG T n w base (.slice none 0 0) [] := ⟨⟨by simp, Or.inl ⟨rfl, rfl⟩⟩, fun r hr => by cases hr⟩
theorem ownG_typed {w : World} {base : Nat} {v : Value} {l : List (List Value)} (h : OwnG T n w base v l) : ∀ g, v.ownBlock = some g → base ≤ g ∧ g < w.heap.size ∧ ∃ cur, w.heap[g]? = some (.cells cur T (0, 0)) := by
  intro g hg
  rcases h.1.2 with ⟨rfl, _⟩ | ⟨g', cap, cur, rfl, hb, hh, _⟩
  · simp [Value.ownBlock] at hg
  · have : g' = g := by simpa [Value.ownBlock] using hg
    subst this
    exact ⟨hb, blk_lt hh, cur, hh⟩
theorem ownG_keep {w w' : World} {base : Nat} {v : Value} {l : List (List Value)} (h : OwnG T n w base v l) (hk : ∀ g, v.ownBlock = some g → w'.heap[g]? = w.heap[g]?) : OwnG T n w' base v l := by
  refine ⟨⟨h.1.1, ?_⟩, h.2⟩
  rcases h.1.2 with h0 | ⟨g, cap, cur, rfl, h1, h2, h3⟩
  · exact Or.inl h0
  · exact Or.inr ⟨g, cap, cur, rfl, h1, (hk g rfl).trans h2, h3⟩
theorem ownG_below {w w' : World} {base : Nat} {v : Value} {l : List (List Value)} (h : OwnG T n w base v l) (hb : Below w.heap.size w w') : OwnG T n w' base v l := ownG_keep h fun g hg => hb.block g (ownG_typed h g hg).2.1
theorem ownG_less {w : World} {base B : Nat} {v : Value} {l : List (List Value)} (h : OwnG T n w base v l) (hB : B ≤ base) : OwnG T n w B v l := by
  refine ⟨⟨h.1.1, ?_⟩, h.2⟩
  rcases h.1.2 with h0 | ⟨g, cap, cur, rfl, h1, h2⟩
  · exact Or.inl h0
  · exact Or.inr ⟨g, cap, cur, rfl, Nat.le_trans hB h1, h2⟩
theorem ownG_slice {w : World} {base : Nat} {v : Value} {l : List (List Value)} (h : OwnG T n w base v l) : ∃ A c, v = .slice A l.length c := by
  rcases h.1.2 with ⟨rfl, h0⟩ | ⟨g, cap, cur, rfl, _⟩
  · rw [h0]; exact ⟨_, _, rfl⟩
  · exact ⟨_, _, rfl⟩
theorem ownG_at {w : World} {base : Nat} {A : Option Addr} {m c : Nat} {l : List (List Value)} (h : OwnG T n w base (.slice A m c) l) {k : Nat} (hk : k < l.length) : ∃ g, A = some ⟨g, 0, none⟩ ∧ base ≤ g ∧ g < w.heap.size ∧ ∀ j, j < n → w.cell? ⟨g, k * n + j, none⟩ = (l.getD k [])[j]? := by
  rcases h.1.2 with ⟨e, h0⟩ | ⟨g, cap, cur, e, h1, h2, h3, h4, h5, h6⟩
  · omega
  · injection e with e1 e2 e3
    subst e1
    refine ⟨g, rfl, h1, blk_lt h2, fun j hj => ?_⟩
    have hlt : k * n + j < l.length * n := by
      have : (k + 1) * n ≤ l.length * n := Nat.mul_le_mul_right n hk
      rw [Nat.add_mul] at this
      omega
    rw [cell_of h2, ← wide_get h.2 k hk j hj, ← h6, List.getElem?_take, if_pos hlt, Array.getElem?_toList]
/-- append of one element. -/
theorem append_el {S : TypeId} {z : Value} {bs : Nat} (hT : ElT S T z n bs) {ops : Array Oper} {rest : List Oper} {o : Oper} {a : Act} {Q : Exit → Act → World → Prop} (w : World) (hgd : o.guard = none) (s x : Operand)
    (ho : o.op = .call { callee := .builtin .append, args := #[s, x], argTypes := #[S, S] }) (base : Nat) (v : Value) (xs : List (List Value)) (r : List Value) (ad : Addr) (hs : a.eval s = v) (hown : OwnG T n w base v xs)
    (hx : a.eval x = .slice (some ad) 1 1) (hr : ∀ j y, r[j]? = some y → w.cell? (ad.add j) = some y) (hw : r.length = n) (hu : ∀ u ∈ r, u.oneCell' = true) (hlen : xs.length ≤ 1000000) (hbase : base ≤ w.heap.size)
    (h : ∀ g c w', OwnG T n w' base (.slice (some ⟨g, 0, none⟩) (xs.length + 1) c) (xs ++ [r]) → w.grownBy w' v.ownBlock → wpList Try.prog ops Q rest (a.put o.dst (.slice (some ⟨g, 0, none⟩) (xs.length + 1) c)) w') : wpList Try.prog ops Q (o :: rest) a w := by
  obtain ⟨i0, hi, hz0, hz1, hz2⟩ := info_parts hT.info
  have hbb : (xs.length + 1) * bs ≤ 140737488355328 := Nat.le_trans (Nat.mul_le_mul (show xs.length + 1 ≤ 1000001 by omega) hT.bsl) (by decide)
  refine wpList_append_own w hgd s x S ho base T i0 z n bs hT.und hi hz0 hz1 hz2 hT.zs hT.pos v xs.length xs.flatten hs hown.1 ad 1 1 r hx (by rw [hw, Nat.one_mul]) hr hu (by unfold maxLen; omega) hbb hbase ?_
  intro v' w' h2 h3 _
  have h2 : OwnG T n w' base v' (xs ++ [r]) := by
    refine ⟨?_, hown.2.append (Wide.one hw hu)⟩
    rw [List.length_append, List.length_singleton, List.flatten_append]
    simpa using h2
  rcases h2.1.2 with ⟨_, h0⟩ | ⟨g, cap, cur, rfl, _⟩
  · simp at h0
  · have hl : (xs ++ [r]).length = xs.length + 1 := by rw [List.length_append, List.length_singleton]
    rw [hl] at h2 ⊢
    exact h g cap w' h2 h3
theorem grownG {B : Nat} {w0 w w' : World} {base : Nat} {v : Value} {l : List (List Value)} (hb : Below B w0 w) (hg : w.grownBy w' v.ownBlock) (ho : OwnG T n w base v l) (hB : B ≤ w.heap.size) (hbs : B ≤ base) : Below B w0 w' := hb.grown hg hB fun g e => Nat.le_trans hbs (ownG_typed ho g e).1
theorem one_el (w : World) (r : List Value) : ∀ j y, r[j]? = some y → (w.alloc (.cells r.toArray T)).cell? ((⟨w.heap.size, 0, none⟩ : Addr).add j) = some y := fun j y hj => by
  rw [add_oo, Nat.zero_add, cell_of (heap_alloc_new w _)]
  simpa using hj
end
/-- Blocks of different types are different ones. -/
theorem typed_ne {w : World} {a b : Nat} {c d : Array Value} {S T : TypeId} (ha : w.heap[a]? = some (.cells c S (0, 0))) (hb : w.heap[b]? = some (.cells d T (0, 0))) (h : S ≠ T) : a ≠ b := fun e => by
  subst e
  rw [ha] at hb
  injection hb with hb
  injection hb with h1 h2
  exact h h2
theorem ownC_typed {w : World} {base : Nat} {v : Value} {l : List Ce} (h : OwnC w base v l) : ∀ g, v.ownBlock = some g → base ≤ g ∧ g < w.heap.size ∧ ∃ cur, w.heap[g]? = some (.cells cur 38 (0, 0)) := by
  intro g hg
  rcases h.2 with ⟨rfl, _⟩ | ⟨g', cap, cur, rfl, hb, hh, _⟩
  · simp [Value.ownBlock] at hg
  · have : g' = g := by simpa [Value.ownBlock] using hg
    subst this
    exact ⟨hb, blk_lt hh, cur, hh⟩
/-- Cut at its end. -/
theorem ownC_take {w : World} {base : Nat} {A : Option Addr} {n c : Nat} {l : List Ce} (h : OwnC w base (.slice A n c) l) (m : Nat) (hm : m ≤ l.length) (h0 : 0 < n) : OwnC w base (.slice A m c) (l.take m) := by
  have hl : (l.take m).length = m := by rw [List.length_take]; omega
  rcases own_shape h with ⟨e, e2⟩ | ⟨g, c', cur, e, h1, h2, h3, h4, h5, h6, h7⟩
  · injection e with e1 e2' e3
    omega
  · injection e with e1 e2 e3
    subst e1 e3
    refine ⟨by rw [flat_len], Or.inr ⟨g, c, cur, by rw [hl], h1, h3, by omega, h5, h6, ?_⟩⟩
    rw [hl]
    have e : flatC (l.take m) = (flatC l).take (m * 7) := by
      refine List.ext_getElem? fun i => ?_
      rw [List.getElem?_take]
      by_cases hi : i < m * 7
      · rw [if_pos hi]
        have hd : i = i / 7 * 7 + i % 7 := by omega
        rw [hd, flat_get _ _ (by rw [hl]; omega) _ (by omega), flat_get _ _ (by omega) _ (by omega), cell_take, if_pos (by omega)]
      · rw [if_neg hi, List.getElem?_eq_none (by rw [flat_len, hl]; omega)]
    rw [e, ← h7, List.take_take, Nat.min_eq_left (by omega)]
end Go.Proofs.Ytifolcfnknlmdaa.Re
