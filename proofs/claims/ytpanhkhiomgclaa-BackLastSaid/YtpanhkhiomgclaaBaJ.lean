/- Layer 14: numbers in memory: windows, append of any to a slice of the call's own. -/
import Derived.Test.YtpanhkhiomgclaaBaI
import Derived.Laws.AppendOwnNone
import Derived.Test.YtpanhkhiomgclaaBaV
set_option linter.unusedVariables false
namespace Go.Proofs.Ytpanhkhiomgclaa.Ba
open Go.RowKit

theorem int_under : Try.prog.underlying 22 = some (.slice (Try.prog.elem 22)) := by kernel_rfl
theorem int_size (W : World) : (sizeOf (Try.prog.elem 22)).run Try.prog W = .ok 1 W := by kernel_rfl
theorem getD_drop (l : List Int) (x k : Nat) : (l.drop x).getD k 0 = l.getD (x + k) 0 := by
  rw [List.getD_eq_getElem?_getD, List.getD_eq_getElem?_getD, List.getElem?_drop]
theorem getD_take (l : List Int) (x k : Nat) (h : k < x) : (l.take x).getD k 0 = l.getD k 0 := by
  rw [List.getD_eq_getElem?_getD, List.getD_eq_getElem?_getD, List.getElem?_take, if_pos h]
/-- From x on. -/
theorem from_ints {w : World} {A : Option Addr} {n c : Nat} {l : List Int} (h : LiesI w (.slice A n c) l) (x : Nat) (hx : x ≤ n) : ∃ p m d, m = n - x ∧ (∀ W, (Instr.slice 22 (.slice A n c) (some (.int .i64 (x : Int))) none none).run Try.prog W = .ok (.slice p m d) W) ∧ LiesI w (.slice p m d) (l.drop x) := by
  have hl := h.len
  have hll : (l.drop x).length = n - x := by rw [List.length_drop, hl.1]
  cases A with
  | none =>
    obtain rfl := hl.2.1 rfl
    have h0 : n = 0 := by omega
    have hx0 : x = 0 := by omega
    subst h0 hx0
    refine ⟨none, 0, 0, rfl, fun W => by kernel_rfl, ?_⟩
    rw [List.drop_zero]
    exact h
  | some ad =>
    by_cases hn : 0 < n
    · obtain ⟨b, o, e, hb, _⟩ := h.at_ hn
      cases e
      refine ⟨if c = x then some ⟨b, o, none⟩ else some ⟨b, o + x, none⟩, n - x, c - x, rfl, fun W => ?_, ?_⟩
      · rw [run_slice_l W 22 (some ⟨b, o, none⟩) n c int_under .i64 (x : Int) (by omega) (by omega), int_size]
        simp only [Result.andThen, sliced, Int.toNat_natCast, Option.map_some, add_oo, Nat.mul_one]
      · refine ⟨_, c - x, by rw [hll], fun e => ?_, by omega, fun hp => ?_⟩
        · split at e <;> cases e
        · rw [hll] at hp
          have hcx : ¬ c = x := by omega
          rw [if_neg hcx]
          refine ⟨b, o + x, rfl, hb, fun k hk => ?_⟩
          rw [hll] at hk
          obtain ⟨b', o', e, _, q⟩ := h.at_ (k := x + k) (by omega)
          cases e
          rw [getD_drop, Nat.add_assoc]
          exact q
    · have h0 : n = 0 := by omega
      have hx0 : x = 0 := by omega
      subst h0 hx0
      refine ⟨some ad, 0, c, rfl, fun W => ?_, ?_⟩
      · have := run_slice_l (P := Try.prog) W 22 (some ad) 0 c int_under .i64 ((0 : Nat) : Int) (by omega) (by omega)
        rw [this, int_size]
        obtain ⟨b, o, q⟩ := ad
        cases c <;> simp [Result.andThen, sliced, Addr.add]
      · rw [List.drop_zero]
        exact h
/-- Cut at its end. -/
theorem to_ints {w : World} {A : Option Addr} {n c : Nat} {l : List Int} (h : LiesI w (.slice A n c) l) (y : Nat) (hy : y ≤ n) (hn : 0 < n) : (∀ W, (Instr.slice 22 (.slice A n c) none (some (.int .i64 (y : Int))) none).run Try.prog W = .ok (.slice A y c) W) ∧ LiesI w (.slice A y c) (l.take y) := by
  have hl := h.len
  have hll : (l.take y).length = y := by rw [List.length_take, ← hl.1]; omega
  obtain ⟨b, o, e, hb, _⟩ := h.at_ hn
  subst e
  refine ⟨fun W => ?_, ⟨_, c, (by rw [hll]), fun e => (by cases e), (by omega), fun hp => ⟨b, o, rfl, hb, fun k hk => ?_⟩⟩⟩
  · rw [run_slice_h W 22 (some ⟨b, o, none⟩) n c int_under .i64 (y : Int) (by omega) (by omega), int_size]
    simp [Result.andThen, sliced]
    try (intro _; exact (add_oo _ _ _).trans rfl)
  · rw [hll] at hk
    obtain ⟨b', o', e, _, q⟩ := h.at_ (k := k) (by omega)
    cases e
    rw [getD_take _ _ _ hk]
    exact q
/-- append of numbers that stand anywhere to a slice of the call's own. -/
theorem append_gen {ops : Array Oper} {rest : List Oper} {o : Oper} {a : Act} {Q : Exit → Act → World → Prop} (w : World) (hgd : o.guard = none) (s x : Operand)
    (ho : o.op = .call { callee := .builtin .append, args := #[s, x], argTypes := #[22, 22] }) (base : Nat) (v u : Value) (xs ys : List Int) (hs : a.eval s = v) (hown : OwnI w base v xs)
    (hx : a.eval x = u) (hr : LiesI w u ys) (hlen : xs.length + ys.length ≤ 1000000) (hbase : base ≤ w.heap.size)
    (h : ∀ A c w', OwnI w' base (.slice A (xs ++ ys).length c) (xs ++ ys) → w.grownBy w' v.ownBlock → wpList Try.prog ops Q rest (a.put o.dst (.slice A (xs ++ ys).length c)) w') : wpList Try.prog ops Q (o :: rest) a w := by
  obtain ⟨i0, hi, hz0, hz1, hz2⟩ := info_parts info_int
  obtain ⟨A, c, rfl, h0, _, hc⟩ := hr
  cases A with
  | none =>
    have he : ys = [] := by
      cases ys with
      | nil => rfl
      | cons y l => obtain ⟨b, o', e, _⟩ := hc (by simp); cases e
    subst he
    obtain rfl := h0 rfl
    obtain ⟨A', c', rfl⟩ := ownI_slice hown
    rw [List.append_nil] at h
    exact wpList_append_own_none hgd s x 22 ho base 3 i0 1 Try.underlying22 hi _ xs.length (intsC xs) hs hown hx (h A' c' w hown ⟨rfl, rfl, rfl, Nat.le_refl _, fun _ _ _ => rfl⟩)
  | some ad =>
    refine wpList_append_own w hgd s x 22 ho base 3 i0 (.int .i64 0) 1 8 Try.underlying22 hi hz0 hz1 hz2 rfl (by decide) v xs.length (intsC xs) hs hown ad ys.length c (intsC ys) hx (by rw [ints_len, Nat.mul_one]) ?_ (fun u hu => by obtain ⟨k, _, rfl⟩ := List.mem_map.1 hu; rfl) (by unfold maxLen; omega) (by omega) hbase ?_
    · intro j y hy
      have hj : j < ys.length := by
        have := (List.getElem?_eq_some_iff.1 hy).1
        rwa [ints_len] at this
      obtain ⟨b, o', e, _, hcell⟩ := hc (by omega)
      cases e
      rw [add_oo, hcell j hj, ← ints_get ys j hj]
      exact hy
    · intro v' w' h2 h3 _
      have e : xs.length + ys.length = (xs ++ ys).length := by rw [List.length_append]
      rw [e, ← ints_append] at h2
      have h2 : OwnI w' base v' (xs ++ ys) := h2
      obtain ⟨A', c', rfl⟩ := ownI_slice h2
      exact h A' c' w' h2 h3
theorem own_zero (w : World) : OwnI (w.alloc (.cells #[] 3)) w.heap.size (.slice (some ⟨w.heap.size, 0, none⟩) 0 0) [] :=
  ⟨rfl, Or.inr ⟨_, 0, #[], rfl, Nat.le_refl _, heap_new w _, Nat.le_refl _, by unfold maxLen; omega, rfl, by simp; rfl⟩⟩
theorem one_int (w : World) (x : Int) : LiesI (w.alloc (.cells #[.int .i64 x] 3)) (.slice (some ⟨w.heap.size, 0, none⟩) 1 1) [x] :=
  ⟨_, 1, rfl, fun e => (by cases e), ⟨Nat.le_refl 1, by decide⟩, fun _ => ⟨w.heap.size, 0, rfl, by simp, fun i hi => by
    have h0 : i = 0 := by simpa using hi
    subst h0
    rw [cell_of (heap_new w _)]
    rfl⟩⟩
/-! ### a window of a row of the call's own -/
def WinI (w : World) (base : Nat) (v : Value) (l : List Int) : Prop := OwnW w base 3 v (intsC l)
theorem winI_own {w : World} {base : Nat} {v : Value} {l : List Int} (h : OwnI w base v l) : WinI w base v l := OwnW.of_row h
theorem winI_none (w : World) (base : Nat) : WinI w base (.slice none 0 0) [] := Or.inl ⟨rfl, rfl⟩
theorem winI_slice {w : World} {base : Nat} {v : Value} {l : List Int} (h : WinI w base v l) : ∃ A c, v = .slice A l.length c := by
  rcases h with ⟨rfl, h0⟩ | ⟨g, o, cap, cur, rfl, _⟩
  · have := ints_len l
    rw [h0] at this
    exact ⟨none, 0, by rw [← this]; rfl⟩
  · exact ⟨_, _, by rw [ints_len]⟩
theorem winI_ge {w : World} {base : Nat} {v : Value} {l : List Int} (h : WinI w base v l) : ∀ g, v.ownBlock = some g → base ≤ g ∧ g < w.heap.size ∧ ∃ cur, w.heap[g]? = some (.cells cur 3 (0, 0)) := by
  intro g hg
  rcases h with ⟨rfl, _⟩ | ⟨g', o, cap, cur, rfl, hb, hh, _⟩
  · simp [Value.ownBlock] at hg
  · have : g' = g := by simpa [Value.ownBlock] using hg
    subst this
    exact ⟨hb, blk_lt hh, cur, hh⟩
theorem winI_keep {w w' : World} {base : Nat} {v : Value} {l : List Int} (h : WinI w base v l) (hk : ∀ g, v.ownBlock = some g → w'.heap[g]? = w.heap[g]?) : WinI w' base v l := by
  rcases h with h0 | ⟨g, o, cap, cur, rfl, h1, h2, h3⟩
  · exact Or.inl h0
  · exact Or.inr ⟨g, o, cap, cur, rfl, h1, (hk g rfl).trans h2, h3⟩
theorem winI_below {w w' : World} {base : Nat} {v : Value} {l : List Int} (h : WinI w base v l) (hb : Below w.heap.size w w') : WinI w' base v l := winI_keep h fun g hg => hb.block g (winI_ge h g hg).2.1
theorem winI_less {w : World} {base B : Nat} {v : Value} {l : List Int} (h : WinI w base v l) (hB : B ≤ base) : WinI w B v l := by
  rcases h with h0 | ⟨g, o, cap, cur, rfl, h1, h2⟩
  · exact Or.inl h0
  · exact Or.inr ⟨g, o, cap, cur, rfl, Nat.le_trans hB h1, h2⟩
theorem winI_lies {w : World} {base : Nat} {v : Value} {l : List Int} (h : WinI w base v l) : LiesI w v l := by
  rcases h with ⟨rfl, h0⟩ | ⟨g, o, cap, cur, rfl, h1, h2, h3, h4, h5, h6⟩
  · have := ints_len l
    rw [h0] at this
    obtain rfl := List.eq_nil_of_length_eq_zero this.symm
    exact liesI_nil w
  · refine ⟨_, cap, by rw [ints_len], fun e => (by cases e), ⟨by rwa [ints_len] at h3, Nat.le_trans h4 (by unfold maxLen; omega)⟩, fun _ => ⟨g, o, rfl, blk_lt h2, fun k hk => ?_⟩⟩
    rw [cell_of h2, ← ints_get l k hk, ← h6, List.getElem?_take, if_pos (by rw [ints_len]; exact hk), List.getElem?_drop, Array.getElem?_toList]
/-- From x on, and up to y. -/
theorem winI_from {w : World} {base : Nat} {A : Option Addr} {n c : Nat} {l : List Int} (h : WinI w base (.slice A n c) l) (x : Nat) (hx : x ≤ n) : ∃ p m d, m = n - x ∧ (∀ W, (Instr.slice 22 (.slice A n c) (some (.int .i64 (x : Int))) none none).run Try.prog W = .ok (.slice p m d) W) ∧ WinI w base (.slice p m d) (l.drop x) ∧ (∀ k, (Value.slice p m d).ownBlock = some k → (Value.slice A n c).ownBlock = some k) := by
  have hl := (winI_lies h).len
  have hll : (l.drop x).length = n - x := by rw [List.length_drop, hl.1]
  rcases h with ⟨e, h0⟩ | ⟨g, o, cap, cur, e, h1, h2, h3, h4, h5, h6⟩
  · injection e with e1 e2 e3
    subst e1 e2 e3
    have hx0 : x = 0 := by omega
    subst hx0
    have hl0 : l = [] := List.eq_nil_of_length_eq_zero hl.1.symm
    subst hl0
    exact ⟨none, 0, 0, rfl, fun W => by kernel_rfl, winI_none _ _, fun k hk => hk⟩
  · injection e with e1 e2 e3
    subst e1 e3
    rw [ints_len] at e2 h3 h6
    refine ⟨if c = x then some ⟨g, o, none⟩ else some ⟨g, o + x, none⟩, n - x, c - x, rfl, fun W => ?_, Or.inr ?_, fun k hk => ?_⟩
    · rw [run_slice_l W 22 (some ⟨g, o, none⟩) n c int_under .i64 (x : Int) (by omega) (by omega), int_size]
      simp only [Result.andThen, sliced, Int.toNat_natCast, Option.map_some, add_oo, Nat.mul_one]
    · by_cases hcx : c = x
      · have hn : l.drop x = [] := List.eq_nil_of_length_eq_zero (by omega)
        rw [if_pos hcx, hn]
        exact ⟨g, o, c - x, cur, by rw [show n - x = 0 by omega]; rfl, h1, h2, Nat.zero_le _, by omega, by omega, rfl⟩
      · rw [if_neg hcx]
        refine ⟨g, o + x, c - x, cur, by rw [ints_len, hll], h1, h2, by rw [ints_len, hll]; omega, by omega, by omega, ?_⟩
        rw [ints_len, hll]
        have e : intsC (l.drop x) = (intsC l).drop x := by simp [intsC]
        rw [e, ← h6, List.drop_take, List.drop_drop, ← e2]
    · split at hk <;> simpa [Value.ownBlock] using hk
theorem winI_to {w : World} {base : Nat} {A : Option Addr} {n c : Nat} {l : List Int} (h : WinI w base (.slice A n c) l) (y : Nat) (hy : y ≤ n) (hn : 0 < n) : (∀ W, (Instr.slice 22 (.slice A n c) none (some (.int .i64 (y : Int))) none).run Try.prog W = .ok (.slice A y c) W) ∧ WinI w base (.slice A y c) (l.take y) := by
  have hl := (winI_lies h).len
  have hll : (l.take y).length = y := by rw [List.length_take]; omega
  refine ⟨(to_ints (winI_lies h) y hy hn).1, ?_⟩
  rcases h with ⟨e, h0⟩ | ⟨g, o, cap, cur, e, h1, h2, h3, h4, h5, h6⟩
  · injection e with e1 e2 e3
    omega
  · injection e with e1 e2 e3
    subst e1 e3
    rw [ints_len] at e2 h3 h6
    refine Or.inr ⟨g, o, c, cur, by rw [ints_len, hll], h1, h2, by rw [ints_len, hll]; omega, h4, h5, ?_⟩
    rw [ints_len, hll]
    have e : intsC (l.take y) = (intsC l).take y := by simp [intsC]
    rw [e, ← h6, List.take_take, Nat.min_eq_left (by omega)]
end Go.Proofs.Ytpanhkhiomgclaa.Ba
