/- Layer 15: slices of lines of the call's own (built by append), and the law's given. -/
import Derived.Test.YtifolcfnknlmdaaReA
import Derived.Laws.AppendOwnNone
import Derived.Lib.Hide
set_option linter.unusedVariables false
namespace Go.Proofs.Ytifolcfnknlmdaa.Re
open Go.RowKit Go.Proofs.Ytifolcfnknlmdaa.Rw

/-- A line as it stands in memory: where its cells are, joined, short. -/
structure Raw where
  u : Value
  j : Bool
  s : Bool
def noRaw : Raw := ⟨.slice none 0 0, false, false⟩
def rawC (r : Raw) : List Value := [r.u, .bool r.j, .bool r.s]
def rawsC (rs : List Raw) : List Value := rs.flatMap rawC
theorem raw_len (r : Raw) : (rawC r).length = 3 := rfl
theorem raws_len (rs : List Raw) : (rawsC rs).length = rs.length * 3 := by
  induction rs with
  | nil => rfl
  | cons a l ih =>
    have e : rawsC (a :: l) = rawC a ++ rawsC l := rfl
    rw [e, List.length_append, ih, raw_len, List.length_cons]; omega
theorem raws_append (l m : List Raw) : rawsC (l ++ m) = rawsC l ++ rawsC m := List.flatMap_append
theorem raws_get (l : List Raw) (k : Nat) (hk : k < l.length) (j : Nat) (hj : j < 3) : (rawsC l)[k * 3 + j]? = (rawC (l.getD k noRaw))[j]? := by
  induction l generalizing k with
  | nil => simp at hk
  | cons a l ih =>
    have e : rawsC (a :: l) = rawC a ++ rawsC l := rfl
    rw [e]
    cases k with
    | zero => rw [List.getElem?_append_left (by rw [raw_len]; omega), Nat.zero_mul, Nat.zero_add]; rfl
    | succ k =>
      rw [List.getElem?_append_right (by rw [raw_len]; omega), raw_len, show (k + 1) * 3 + j - 3 = k * 3 + j by omega, ih k (by simpa using hk)]
      rfl
/-- Its values fill one cell each. -/
def RawOk (rs : List Raw) : Prop := ∀ r ∈ rs, r.u.oneCell' = true
theorem raws_one {rs : List Raw} (h : RawOk rs) : ∀ u ∈ rawsC rs, u.oneCell' = true := by
  intro u hu
  obtain ⟨r, hr, hm⟩ := List.mem_flatMap.1 hu
  simp only [rawC, List.mem_cons, List.not_mem_nil, or_false] at hm
  rcases hm with rfl | rfl | rfl
  · exact h r hr
  · rfl
  · rfl
/-- The two types of lines: the document's, the package's. -/
structure LineT (S T : TypeId) : Prop where
  info : (Try.prog.info? T).map (fun i => (i.zero, i.size, i.bytes)) = some (some (.agg #[.slice none 0 0, .bool false, .bool false]), 3, 32)
  und : Try.prog.underlying S = some (.slice T)
theorem lineDoc : LineT 48 71 := ⟨by kernel_rfl, Try.underlying48⟩
theorem linePro : LineT 22 30 := ⟨by kernel_rfl, Try.underlying22⟩
/-- Lines of the call's own. -/
def OwnL (T : TypeId) (w : World) (base : Nat) (v : Value) (rs : List Raw) : Prop := w.ownsRow base T 3 v rs.length (rawsC rs)
section
variable {T : TypeId}
theorem ownL_none (w : World) (base : Nat) : OwnL T w base (.slice none 0 0) [] := ⟨rfl, Or.inl ⟨rfl, rfl⟩⟩
theorem ownL_ge {w : World} {base : Nat} {v : Value} {l : List Raw} (h : OwnL T w base v l) : ∀ g, v.ownBlock = some g → base ≤ g ∧ g < w.heap.size := by
  intro g hg
  rcases h.2 with ⟨rfl, _⟩ | ⟨g', cap, cur, rfl, hb, hh, _⟩
  · simp [Value.ownBlock] at hg
  · have : g' = g := by simpa [Value.ownBlock] using hg
    subst this
    exact ⟨hb, blk_lt hh⟩
theorem ownL_keep {w w' : World} {base : Nat} {v : Value} {l : List Raw} (h : OwnL T w base v l) (hk : ∀ g, v.ownBlock = some g → w'.heap[g]? = w.heap[g]?) : OwnL T w' base v l := by
  refine ⟨h.1, ?_⟩
  rcases h.2 with h0 | ⟨g, cap, cur, rfl, h1, h2, h3⟩
  · exact Or.inl h0
  · exact Or.inr ⟨g, cap, cur, rfl, h1, (hk g rfl).trans h2, h3⟩
theorem ownL_below {w w' : World} {base : Nat} {v : Value} {l : List Raw} (h : OwnL T w base v l) (hb : Below w.heap.size w w') : OwnL T w' base v l := ownL_keep h fun g hg => hb.block g (ownL_ge h g hg).2
theorem ownL_less {w : World} {base B : Nat} {v : Value} {l : List Raw} (h : OwnL T w base v l) (hB : B ≤ base) : OwnL T w B v l := by
  refine ⟨h.1, ?_⟩
  rcases h.2 with h0 | ⟨g, cap, cur, rfl, h1, h2⟩
  · exact Or.inl h0
  · exact Or.inr ⟨g, cap, cur, rfl, Nat.le_trans hB h1, h2⟩
theorem ownL_slice {w : World} {base : Nat} {v : Value} {l : List Raw} (h : OwnL T w base v l) : ∃ A c, v = .slice A l.length c := by
  rcases h.2 with ⟨rfl, h0⟩ | ⟨g, cap, cur, rfl, _⟩
  · rw [h0]; exact ⟨_, _, rfl⟩
  · exact ⟨_, _, rfl⟩
/-- Cell by cell. -/
theorem ownL_at {w : World} {base : Nat} {A : Option Addr} {n c : Nat} {l : List Raw} (h : OwnL T w base (.slice A n c) l) {k : Nat} (hk : k < l.length) : ∃ g, A = some ⟨g, 0, none⟩ ∧ base ≤ g ∧ g < w.heap.size ∧ w.cell? ⟨g, k * 3, none⟩ = some (l.getD k noRaw).u ∧ w.cell? ⟨g, k * 3 + 1, none⟩ = some (.bool (l.getD k noRaw).j) ∧ w.cell? ⟨g, k * 3 + 2, none⟩ = some (.bool (l.getD k noRaw).s) ∧ ∀ i, w.frozen? ⟨g, i, none⟩ = false := by
  rcases h.2 with ⟨e, h0⟩ | ⟨g, cap, cur, e, h1, h2, h3, h4, h5, h6⟩
  · omega
  · injection e with e1 e2 e3
    subst e1
    have hq : ∀ j, j < 3 → w.cell? ⟨g, k * 3 + j, none⟩ = (rawC (l.getD k noRaw))[j]? := fun j hj => by
      rw [cell_of h2, ← raws_get l k hk j hj, ← h6, List.getElem?_take, if_pos (by omega), Array.getElem?_toList]
    exact ⟨g, rfl, h1, blk_lt h2, hq 0 (by omega), hq 1 (by omega), hq 2 (by omega), fun i => free_of h2 i⟩
theorem ownL_lines {F : Nat → Prop} {w : World} {base : Nat} {v : Value} {rs : List Raw} {ls : List LnC} (h : OwnL T w base v rs) (hl : rs.length = ls.length) (hr : ∀ k, k < ls.length → (rs.getD k noRaw).j = (ls.getD k noLn).joined ∧ (rs.getD k noRaw).s = (ls.getD k noLn).short ∧ RowF F w (rs.getD k noRaw).u (ls.getD k noLn).cells) : LinesAt (fun b => F b ∨ base ≤ b) w v ls := by
  rcases h.2 with ⟨rfl, h0⟩ | ⟨g, cap, cur, rfl, h1, h2, h3, h4, h5, h6⟩
  · obtain rfl := List.eq_nil_of_length_eq_zero (hl.symm.trans h0)
    exact lines_nil _ w
  · refine ⟨_, cap, by rw [hl], fun e => (by cases e), ⟨by omega, Nat.le_trans h4 (by unfold maxLen; omega)⟩, fun _ => ⟨g, 0, rfl, Or.inr h1, blk_lt h2, fun k hk => ?_⟩⟩
    obtain ⟨g', e, _, _, q0, q1, q2, _⟩ := ownL_at (T := T) h (k := k) (by omega)
    cases e
    obtain ⟨r1, r2, r3⟩ := hr k hk
    rw [Nat.zero_add]
    exact ⟨_, q0, by rw [← r1]; exact q1, by rw [← r2]; exact q2, r3.more fun b hb => Or.inl hb⟩
theorem one_raw (w : World) (r : Raw) : ∀ j y, (rawC r)[j]? = some y → (w.alloc (.cells #[r.u, .bool r.j, .bool r.s] T)).cell? ((⟨w.heap.size, 0, none⟩ : Addr).add j) = some y := fun j y hj => by
  rw [add_oo, Nat.zero_add, cell_of (heap_alloc_new w _)]
  simpa [rawC] using hj
/-- append of one line to lines of the call's own. -/
theorem append_line {S : TypeId} (hT : LineT S T) {ops : Array Oper} {rest : List Oper} {o : Oper} {a : Act} {Q : Exit → Act → World → Prop} (w : World) (hgd : o.guard = none) (s x : Operand)
    (ho : o.op = .call { callee := .builtin .append, args := #[s, x], argTypes := #[S, S] }) (base : Nat) (v : Value) (xs : List Raw) (r : Raw) (ad : Addr) (hs : a.eval s = v) (hown : OwnL T w base v xs)
    (hx : a.eval x = .slice (some ad) 1 1) (hr : ∀ j y, (rawC r)[j]? = some y → w.cell? (ad.add j) = some y) (hu : r.u.oneCell' = true) (hlen : xs.length ≤ 1000000) (hbase : base ≤ w.heap.size)
    (h : ∀ g c w', OwnL T w' base (.slice (some ⟨g, 0, none⟩) (xs.length + 1) c) (xs ++ [r]) → w.grownBy w' v.ownBlock → wpList Try.prog ops Q rest (a.put o.dst (.slice (some ⟨g, 0, none⟩) (xs.length + 1) c)) w') : wpList Try.prog ops Q (o :: rest) a w := by
  obtain ⟨i0, hi, hz0, hz1, hz2⟩ := info_parts hT.info
  refine wpList_append_own w hgd s x S ho base T i0 _ 3 32 hT.und hi hz0 hz1 hz2 rfl (by decide) v xs.length (rawsC xs) hs hown ad 1 1 (rawC r) hx (raw_len r) hr (fun u hu' => ?_) (by unfold maxLen; omega) (by omega) hbase ?_
  · have := raws_one (rs := [r]) (fun q hq => by rw [List.mem_singleton] at hq; subst hq; exact hu) u
    exact this (by simpa [rawsC] using hu')
  · intro v' w' h2 h3 _
    have h2 : w'.ownsRow base T 3 v' (xs ++ [r]).length (rawsC (xs ++ [r])) := by
      rw [List.length_append, List.length_singleton, raws_append]
      simpa [rawsC] using h2
    rcases h2.2 with ⟨_, h0⟩ | ⟨g, cap, cur, rfl, _⟩
    · simp at h0
    · rw [List.length_append, List.length_singleton] at h2 ⊢
      refine h g cap w' ?_ h3
      unfold OwnL
      rw [List.length_append, List.length_singleton]
      exact h2
end
/-- Lines that came in, as they stand in memory. -/
theorem LinesAt.raws {F : Nat → Prop} {w : World} {A : Option Addr} {n c : Nat} {ls : List LnC} (h : LinesAt F w (.slice A n c) ls) : ∃ rs : List Raw, rs.length = n ∧ RawOk rs ∧ ∀ k, k < n → (rs.getD k noRaw).j = (ls.getD k noLn).joined ∧ (rs.getD k noRaw).s = (ls.getD k noLn).short ∧ RowF F w (rs.getD k noRaw).u (ls.getD k noLn).cells ∧ ∃ b o, A = some ⟨b, o, none⟩ ∧ F b ∧ b < w.heap.size ∧ w.cell? ⟨b, o + k * 3, none⟩ = some (rs.getD k noRaw).u ∧ w.cell? ⟨b, o + k * 3 + 1, none⟩ = some (.bool (rs.getD k noRaw).j) ∧ w.cell? ⟨b, o + k * 3 + 2, none⟩ = some (.bool (rs.getD k noRaw).s) := by
  by_cases h0 : 0 < n
  · obtain ⟨b, o, -, rfl, -⟩ := h.at_ (k := 0) h0
    let f : Nat → Raw := fun k => ⟨(w.cell? ⟨b, o + k * 3, none⟩).getD (.slice none 0 0), (ls.getD k noLn).joined, (ls.getD k noLn).short⟩
    have hg : ∀ k, k < n → ((List.range n).map f).getD k noRaw = f k := fun k hk => by simp [hk]
    refine ⟨(List.range n).map f, by simp, fun r hr => ?_, fun k hk => ?_⟩
    · obtain ⟨k, hk, rfl⟩ := List.mem_map.1 hr
      obtain ⟨b', o', u, e, _, _, q0, _, _, r0⟩ := h.at_ (k := k) (List.mem_range.1 hk)
      cases e
      show ((w.cell? ⟨b, o + k * 3, none⟩).getD _).oneCell' = true
      rw [q0]
      obtain ⟨A', c', rfl, _⟩ := r0.1
      rfl
    · obtain ⟨b', o', u, e, hf, hb, q0, q1, q2, r0⟩ := h.at_ hk
      cases e
      rw [hg k hk]
      have hu : (f k).u = u := by
        show (w.cell? ⟨b, o + k * 3, none⟩).getD _ = u
        rw [q0]
        rfl
      exact ⟨rfl, rfl, by rw [hu]; exact r0, b, o, rfl, hf, hb, by rw [hu]; exact q0, q1, q2⟩
  · exact ⟨[], by simp; omega, fun r hr => (by cases hr), fun k hk => by omega⟩
end Go.Proofs.Ytifolcfnknlmdaa.Re
