/- Layer 14: numbers in memory: where a list lies, slices of the call's own; append of one; the law's same. -/
import Derived.Test.YtpanhkhiomgclaaBaM
import Derived.Test.YtpanhkhiomgclaaProg
import Derived.WalkKit
import Derived.OwnWalk
import Derived.LoopTactic
import Derived.Below
import Derived.IntWalk
import Derived.BigQuiet
import Derived.Laws.AppendOwn
import Derived.Lib.SmallJoins
import Derived.Carry
import Derived.Deep.Draws
import Derived.Deep.RegionLaw
import Derived.Deep.AppendLies
import Derived.Deep.QuietTactic
import Derived.Deep.RegionHeld3
import Derived.Deep.Heap
import Derived.Deep.Cut
import Derived.Deep.CutBlock
import Derived.Deep.DeepCutAuto
import Derived.KernelRfl
import Derived.Laws.Slices
import Derived.Lib.Hide
set_option linter.unusedVariables false
namespace Go.Proofs.Ytpanhkhiomgclaa.Ba
open Go.RowKit

theorem info_int : (Try.prog.info? 3).map (fun i => (i.zero, i.size, i.bytes)) = some (some (.int .i64 0), 1, 8) := by kernel_rfl
def intsC (l : List Int) : List Value := l.map fun k : Int => Value.int .i64 k
theorem ints_len (l : List Int) : (intsC l).length = l.length := by simp [intsC]
theorem ints_get (l : List Int) (k : Nat) (h : k < l.length) : (intsC l)[k]? = some (.int .i64 (l.getD k 0)) := by
  simp [intsC, List.getD_eq_getElem?_getD, List.getElem?_eq_getElem h]
theorem ints_append (l m : List Int) : intsC (l ++ m) = intsC l ++ intsC m := by simp [intsC]
theorem cell_of {w : World} {b : Nat} {cs : Array Value} {t : TypeId} {fr : Nat × Nat} (h : w.heap[b]? = some (.cells cs t fr)) (i : Nat) : w.cell? ⟨b, i, none⟩ = cs[i]? := by simp [World.cell?, h]
theorem blk_lt {w : World} {b : Nat} {o : Obj} (h : w.heap[b]? = some o) : b < w.heap.size := (Array.getElem?_eq_some_iff.1 h).1
theorem free_of {w : World} {b : Nat} {cs : Array Value} {t : TypeId} (h : w.heap[b]? = some (.cells cs t (0, 0))) (i : Nat) : w.frozen? ⟨b, i, none⟩ = false := by simp [World.frozen?, h]
theorem below_drew {B : Nat} {w0 w : World} (h : Below B w0 w) (n : Nat) : Below B w0 (w.drewN n) := ⟨h.os, h.tape, h.output, h.size, h.block⟩
theorem heap_new (w : World) (o : Obj) : (w.alloc o).heap[w.heap.size]? = some o := by
  show (w.heap.push o)[w.heap.size]? = _
  simp
theorem add_oo (b o k : Nat) : (⟨b, o, none⟩ : Addr).add k = ⟨b, o + k, none⟩ := by
  unfold Addr.add
  split
  · rename_i h; subst h; rfl
  · rfl
/-- A slice that reads so. -/
def LiesI (w : World) (u : Value) (l : List Int) : Prop := ∃ A c, u = .slice A l.length c ∧ (A = none → c = 0) ∧ (l.length ≤ c ∧ c ≤ 9223372036854775807) ∧ (0 < l.length → ∃ b o, A = some ⟨b, o, none⟩ ∧ b < w.heap.size ∧ ∀ k, k < l.length → w.cell? ⟨b, o + k, none⟩ = some (.int .i64 (l.getD k 0)))
theorem LiesI.below {w w' : World} {u : Value} {l : List Int} (h : LiesI w u l) (hb : Below w.heap.size w w') : LiesI w' u l := by
  obtain ⟨A, c, e, h0, h1, h2⟩ := h
  refine ⟨A, c, e, h0, h1, fun hl => ?_⟩
  obtain ⟨b, o, e, hlt, hc⟩ := h2 hl
  exact ⟨b, o, e, Nat.lt_of_lt_of_le hlt hb.size, fun k hk => (hb.cell hlt).trans (hc k hk)⟩
theorem liesI_nil (w : World) : LiesI w (.slice none 0 0) [] := ⟨none, 0, rfl, fun _ => rfl, by decide, fun h => absurd h (by simp)⟩
theorem LiesI.len {w : World} {A : Option Addr} {n c : Nat} {l : List Int} (h : LiesI w (.slice A n c) l) : n = l.length ∧ (A = none → c = 0) ∧ n ≤ c ∧ c ≤ 9223372036854775807 := by
  obtain ⟨A', c', e, h0, h1, h2⟩ := h
  injection e with e1 e2 e3
  subst e1 e3
  exact ⟨e2, h0, by omega, h1.2⟩
theorem LiesI.at_ {w : World} {A : Option Addr} {n c : Nat} {l : List Int} (h : LiesI w (.slice A n c) l) {k : Nat} (hk : k < n) : ∃ b o, A = some ⟨b, o, none⟩ ∧ b < w.heap.size ∧ w.cell? ⟨b, o + k, none⟩ = some (.int .i64 (l.getD k 0)) := by
  obtain ⟨A', c', e, h0, h1, h2⟩ := h
  injection e with e1 e2 e3
  subst e1 e3
  obtain ⟨b, o, e2', hb, hc⟩ := h2 (by omega)
  exact ⟨b, o, e2', hb, hc k (by omega)⟩
theorem idx_int (b o n c k : Nat) (hk : k < n) (W : World) : (Instr.indexAt 22 (.slice (some ⟨b, o, none⟩) n c) (.int .i64 (k : Int))).run Try.prog W = .ok (.pointer (some ⟨b, o + k, none⟩)) W := by
  have hs : ∀ W : World, (sizeOf (Try.prog.elem 22)).run Try.prog W = .ok 1 W := fun W => by kernel_rfl
  rw [run_indexAt_slice (P := Try.prog) W 22 ⟨b, o, none⟩ n c .i64 k (by kernel_rfl), if_pos (by omega), hs]
  simp only [Result.andThen, Int.toNat_natCast, add_oo, Nat.mul_one]
/-- A slice of the call's own. -/
def OwnI (w : World) (base : Nat) (v : Value) (l : List Int) : Prop := w.ownsRow base 3 1 v l.length (intsC l)
theorem ownI_none (w : World) (base : Nat) : OwnI w base (.slice none 0 0) [] := ⟨rfl, Or.inl ⟨rfl, rfl⟩⟩
theorem ownI_ge {w : World} {base : Nat} {v : Value} {l : List Int} (h : OwnI w base v l) : ∀ g, v.ownBlock = some g → base ≤ g ∧ g < w.heap.size ∧ ∃ cur, w.heap[g]? = some (.cells cur 3 (0, 0)) := by
  intro g hg
  rcases h.2 with ⟨rfl, _⟩ | ⟨g', cap, cur, rfl, hb, hh, _⟩
  · simp [Value.ownBlock] at hg
  · have : g' = g := by simpa [Value.ownBlock] using hg
    subst this
    exact ⟨hb, blk_lt hh, cur, hh⟩
theorem ownI_keep {w w' : World} {base : Nat} {v : Value} {l : List Int} (h : OwnI w base v l) (hk : ∀ g, v.ownBlock = some g → w'.heap[g]? = w.heap[g]?) : OwnI w' base v l := by
  refine ⟨h.1, ?_⟩
  rcases h.2 with h0 | ⟨g, cap, cur, rfl, h1, h2, h3⟩
  · exact Or.inl h0
  · exact Or.inr ⟨g, cap, cur, rfl, h1, (hk g rfl).trans h2, h3⟩
theorem ownI_below {w w' : World} {base : Nat} {v : Value} {l : List Int} (h : OwnI w base v l) (hb : Below w.heap.size w w') : OwnI w' base v l := ownI_keep h fun g hg => hb.block g (ownI_ge h g hg).2.1
theorem ownI_less {w : World} {base B : Nat} {v : Value} {l : List Int} (h : OwnI w base v l) (hB : B ≤ base) : OwnI w B v l := by
  refine ⟨h.1, ?_⟩
  rcases h.2 with h0 | ⟨g, cap, cur, rfl, h1, h2⟩
  · exact Or.inl h0
  · exact Or.inr ⟨g, cap, cur, rfl, Nat.le_trans hB h1, h2⟩
theorem ownI_lies {w : World} {base : Nat} {v : Value} {l : List Int} (h : OwnI w base v l) : LiesI w v l := by
  rcases h.2 with ⟨rfl, h0⟩ | ⟨g, cap, cur, rfl, h1, h2, h3, h4, h5, h6⟩
  · obtain rfl := List.eq_nil_of_length_eq_zero h0
    exact liesI_nil w
  · refine ⟨_, cap, rfl, fun e => (by cases e), ⟨h3, Nat.le_trans h4 (by unfold maxLen; omega)⟩, fun _ => ⟨g, 0, rfl, blk_lt h2, fun k hk => ?_⟩⟩
    rw [cell_of h2, Nat.zero_add, ← ints_get l k hk, ← h6, List.getElem?_take, if_pos (by omega), Array.getElem?_toList]
theorem ownI_slice {w : World} {base : Nat} {v : Value} {l : List Int} (h : OwnI w base v l) : ∃ A c, v = .slice A l.length c := by
  rcases h.2 with ⟨rfl, h0⟩ | ⟨g, cap, cur, rfl, _⟩
  · rw [h0]; exact ⟨_, _, rfl⟩
  · exact ⟨_, _, rfl⟩
/-- append of numbers that stand anywhere (some of them) to a slice of the call's own. -/
theorem append_ints {ops : Array Oper} {rest : List Oper} {o : Oper} {a : Act} {Q : Exit → Act → World → Prop} (w : World) (hgd : o.guard = none) (s x : Operand)
    (ho : o.op = .call { callee := .builtin .append, args := #[s, x], argTypes := #[22, 22] }) (base : Nat) (v u : Value) (xs ys : List Int) (hs : a.eval s = v) (hown : OwnI w base v xs)
    (hx : a.eval x = u) (hr : LiesI w u ys) (hp : 0 < ys.length) (hlen : xs.length + ys.length ≤ 1000000) (hbase : base ≤ w.heap.size)
    (h : ∀ g c w', OwnI w' base (.slice (some ⟨g, 0, none⟩) (xs ++ ys).length c) (xs ++ ys) → w.grownBy w' v.ownBlock → wpList Try.prog ops Q rest (a.put o.dst (.slice (some ⟨g, 0, none⟩) (xs ++ ys).length c)) w') : wpList Try.prog ops Q (o :: rest) a w := by
  obtain ⟨i0, hi, hz0, hz1, hz2⟩ := info_parts info_int
  obtain ⟨A, c, rfl, h0, _, hc⟩ := hr
  obtain ⟨b, off, rfl, hb, hcell⟩ := hc hp
  refine wpList_append_own w hgd s x 22 ho base 3 i0 (.int .i64 0) 1 8 Try.underlying22 hi hz0 hz1 hz2 rfl (by decide) v xs.length (intsC xs) hs hown ⟨b, off, none⟩ ys.length c (intsC ys) hx (by rw [ints_len, Nat.mul_one]) ?_ (fun u hu => by obtain ⟨k, _, rfl⟩ := List.mem_map.1 hu; rfl) (by unfold maxLen; omega) (by omega) hbase ?_
  · intro j y hy
    have hj : j < ys.length := by
      have := (List.getElem?_eq_some_iff.1 hy).1
      rwa [ints_len] at this
    rw [add_oo, hcell j hj, ← ints_get ys j hj]
    exact hy
  · intro v' w' h2 h3 _
    have e : xs.length + ys.length = (xs ++ ys).length := by rw [List.length_append]
    rw [e, ← ints_append] at h2
    obtain ⟨g, cap, rfl⟩ := Joins.ownsRow_form h2 (by rw [List.length_append]; omega)
    exact h g cap w' h2 h3
theorem grown_below {B : Nat} {w0 w w' : World} {base : Nat} {v : Value} {l : List Int} (hb : Below B w0 w) (hg : w.grownBy w' v.ownBlock) (ho : OwnI w base v l) (hB : B ≤ base) (hs : B ≤ w.heap.size) : Below B w0 w' := hb.grown hg hs (fun g h => Nat.le_trans hB (ownI_ge ho g h).1)

/-! ### the law's same -/
theorem get_eq {l m : List Int} (h : l.length = m.length) (hk : ∀ k, k < l.length → l.getD k 0 = m.getD k 0) : l = m := by
  refine List.ext_getElem h fun k h1 h2 => ?_
  have := hk k h1
  rwa [List.getD_eq_getElem?_getD, List.getD_eq_getElem?_getD, List.getElem?_eq_getElem h1, List.getElem?_eq_getElem h2] at this
set_option maxRecDepth 100000 in
set_option maxHeartbeats 2000000 in
theorem same_any {u v : Value} {l m : List Int} {w : World} (h1 : LiesI w u l) (h2 : LiesI w v m) (hl : l.length ≤ 100000) : Calls Try.prog 17 #[u, v] w fun e w' => e = .returned (.bool (decide (l = m))) ∧ Below w.heap.size w w' := by
  obtain ⟨A1, c1, rfl, -⟩ := id h1
  obtain ⟨A2, c2, rfl, -⟩ := id h2
  obtain ⟨n, hn⟩ : ∃ n, n = l.length := ⟨_, rfl⟩
  obtain ⟨q, hq⟩ : ∃ q, q = m.length := ⟨_, rfl⟩
  rw [← hn] at h1 hl ⊢
  rw [← hq] at h2 ⊢
  by_cases hnq : n = q
  · subst hnq
    have g1 : ((n : Int) != (n : Int)) = false := by simp
    have HL := Lib.hid (And.intro hn hq)
    have H1 := Lib.hid h1
    have H2 := Lib.hid h2
    have H0 : Hid (Below w.heap.size w w) := Lib.hid (Below.refl _ _)
    clear hn hq h1 h2
    go_enter Try.func17, Try.ntmps17
    go_wp2
    go_loopw [5] (fun i wr => ∃ k : Nat, k ≤ n ∧ i = .int .i64 k ∧ Hid (∀ j, j < k → l.getD j 0 = m.getD j 0) ∧ Hid (Below w.heap.size w wr)) (fun i _ => n - (RowKit.intOf i).toNat)
    case atStart => exact ⟨0, Nat.zero_le _, rfl, Lib.hid fun j hj => absurd hj (Nat.not_lt_zero _), H0⟩
    case round =>
      obtain ⟨k, hk, rfl, HE, HB⟩ := hrel
      rename_i wr
      by_cases hlt : k < n
      · have glt : decide ((k : Int) < (n : Int)) = true := by simp; omega
        obtain ⟨b1, o1, rfl, hb1, q1⟩ := H1.out.at_ hlt
        obtain ⟨b2, o2, rfl, hb2, q2⟩ := H2.out.at_ hlt
        replace q1 := fun V (hV : Below w.heap.size w V) => (hV.cell (p := ⟨b1, o1 + k, none⟩) hb1).trans q1
        replace q2 := fun V (hV : Below w.heap.size w V) => (hV.cell (p := ⟨b2, o2 + k, none⟩) hb2).trans q2
        have i1 := idx_int b1 o1 n c1 k hlt
        have i2 := idx_int b2 o2 n c2 k hlt
        have q1' := q1 _ HB.out
        have q2' := q2 _ HB.out
        clear q1 q2 hb1 hb2
        by_cases hx : l.getD k 0 = m.getD k 0
        · have g2 : ((l.getD k 0) != (m.getD k 0)) = false := by rw [hx]; simp
          have HE2 : Hid (∀ j, j < k + 1 → l.getD j 0 = m.getD j 0) := Lib.hid fun j hj => by
            by_cases e : j = k
            · rw [e]; exact hx
            · exact HE.out j (by omega)
          clear HE hx
          generalize l.getD k 0 = X at *
          generalize m.getD k 0 = Y at *
          go_wp2_with fail
          go_quiet (fail)
          have HB2 := Lib.hid (below_drew HB.out nq)
          go_wp2
          go_roundw
          case rel => exact ⟨k + 1, by omega, by go_num, HE2, HB2⟩
          case measure => simp [RowKit.intOf]; omega
        · have g2 : ((l.getD k 0) != (m.getD k 0)) = true := by simpa using hx
          have HNe : Hid (l ≠ m) := Lib.hid fun e => hx (by rw [e])
          clear HE hx
          generalize l.getD k 0 = X at *
          generalize m.getD k 0 = Y at *
          go_wp2_with fail
          go_quiet (fail)
          have HB2 := Lib.hid (below_drew HB.out nq)
          go_wp2
          go_ret
          exact ⟨by rw [decide_eq_false HNe.out]; rfl, HB2.out⟩
      · have hkn : k = n := by omega
        have glt : decide ((k : Int) < (n : Int)) = false := by simp; omega
        have HF : Hid (l = m) := Lib.hid (get_eq (by rw [← HL.out.1]; exact HL.out.2) fun j hj => HE.out j (by have := HL.out.1; omega))
        clear HE hkn
        go_wp2
        go_ret
        exact ⟨by rw [decide_eq_true HF.out]; rfl, HB.out⟩
  · have g1 : ((n : Int) != (q : Int)) = true := by simp; omega
    have HF : Hid (l ≠ m) := Lib.hid fun e => hnq (by rw [hn, hq, e])
    clear h1 h2 hn hq hnq
    go_enter Try.func17, Try.ntmps17
    go_wp2
    go_ret
    exact ⟨by rw [decide_eq_false HF.out]; rfl, Below.refl _ _⟩
end Go.Proofs.Ytpanhkhiomgclaa.Ba
