/- Layer 13, the program: slices of the call's own whose elements fill one cell; lines that are made one behind the other. -/
import Derived.Test.YtomfeehebkknoaaScC
import Derived.Test.YtomfeehebkknoaaRwZ
set_option linter.unusedVariables false
namespace Go.Proofs.Ytomfeehebkknoaa.Rw
open Go.RowKit

/-! ### slices whose elements fill one cell -/
theorem one_shape {t : TypeId} {w : World} {base n : Nat} {v : Value} {us : List Value} (h : w.ownsRow base t 1 v n us) : (v = .slice none 0 0 ∧ n = 0 ∧ us = []) ∨ ∃ g c cur, v = .slice (some ⟨g, 0, none⟩) n c ∧ base ≤ g ∧ g < w.heap.size ∧ w.heap[g]? = some (.cells cur t (0, 0)) ∧ n ≤ c ∧ c ≤ maxLen ∧ cur.size = c ∧ us.length = n ∧ ∀ k, k < n → cur[k]? = us[k]? := by
  obtain ⟨hl, ⟨rfl, h0⟩ | ⟨g, c, cur, rfl, hb, hh, hn, hm, hs, hx⟩⟩ := h
  · exact Or.inl ⟨rfl, h0, List.eq_nil_of_length_eq_zero (by omega)⟩
  · refine Or.inr ⟨g, c, cur, rfl, hb, blk_lt hh, hh, hn, hm, by omega, by omega, fun k hk => ?_⟩
    rw [← hx, List.getElem?_take, if_pos (by omega), Array.getElem?_toList]
theorem one_keep {t : TypeId} {w w' : World} {base n : Nat} {v : Value} {us : List Value} (h : w.ownsRow base t 1 v n us) (hk : ∀ g, v.ownBlock = some g → w'.heap[g]? = w.heap[g]?) : w'.ownsRow base t 1 v n us := by
  refine ⟨h.1, ?_⟩
  rcases h.2 with h0 | ⟨g, cap, cur, rfl, h1, h2, h3⟩
  · exact Or.inl h0
  · exact Or.inr ⟨g, cap, cur, rfl, h1, (hk g rfl).trans h2, h3⟩
theorem one_lt {t : TypeId} {w : World} {base n : Nat} {v : Value} {us : List Value} (h : w.ownsRow base t 1 v n us) : ∀ g, v.ownBlock = some g → base ≤ g ∧ g < w.heap.size := by
  intro g hg
  rcases one_shape h with ⟨rfl, _⟩ | ⟨g', c, cur, rfl, hb, hl, _⟩
  · simp [Value.ownBlock] at hg
  · have : g' = g := by simpa [Value.ownBlock] using hg
    subst this
    exact ⟨hb, hl⟩
theorem one_below {t : TypeId} {w w' : World} {base n : Nat} {v : Value} {us : List Value} (h : w.ownsRow base t 1 v n us) (hb : Below w.heap.size w w') : w'.ownsRow base t 1 v n us := one_keep h fun g hg => hb.block g (one_lt h g hg).2
theorem one_less {t : TypeId} {w : World} {base B n : Nat} {v : Value} {us : List Value} (h : w.ownsRow base t 1 v n us) (hB : B ≤ base) : w.ownsRow B t 1 v n us := by
  refine ⟨h.1, ?_⟩
  rcases h.2 with h0 | ⟨g, cap, cur, rfl, h1, h2⟩
  · exact Or.inl h0
  · exact Or.inr ⟨g, cap, cur, rfl, Nat.le_trans hB h1, h2⟩
theorem made_one (z : Value) (n : Nat) (h : z.cells = #[z]) : (madeCells z.cells (n * 1)).toList = List.replicate n z := by
  refine List.ext_getElem? fun j => ?_
  rw [h, Nat.mul_one]
  by_cases hj : j < n
  · simp only [madeCells, Array.toList_map, Array.toList_range, List.getElem?_map, List.getElem?_range hj, Option.map_some, List.getElem?_replicate, hj, if_true]
    simp [Nat.mod_one]
  · rw [List.getElem?_eq_none (by simp [madeCells]; omega), List.getElem?_eq_none (by simp; omega)]

/-! ### a slice that is filled from its front on -/
/-- A slice of n such, made in the call, in block g; its first ones are us, the others still zero. -/
def Hdr (t : TypeId) (w0 : World) (g n : Nat) (z : Value) (wr : World) (us : List Value) : Prop := (∃ cur : Array Value, wr.heap[g]? = some (.cells cur t (0, 0)) ∧ cur.size = n ∧ (∀ k, k < us.length → cur[k]? = us[k]?) ∧ ∀ k, us.length ≤ k → k < n → cur[k]? = some z) ∧ us.length ≤ n ∧ Below g w0 wr
theorem Hdr.lt {t : TypeId} {w0 wr : World} {g n : Nat} {z : Value} {us : List Value} (h : Hdr t w0 g n z wr us) : g < wr.heap.size := by
  obtain ⟨⟨cur, h1, _⟩, _⟩ := h
  exact blk_lt h1
theorem Hdr.cell {t : TypeId} {w0 wr : World} {g n k : Nat} {z : Value} {us : List Value} (h : Hdr t w0 g n z wr us) (hk : us.length = k) (hn : k < n) : wr.cell? ⟨g, k, none⟩ = some z ∧ wr.frozen? ⟨g, k, none⟩ = false := by
  obtain ⟨⟨cur, h1, h2, h3, h4⟩, _⟩ := h
  exact ⟨(cell_of h1 k).trans (h4 k (by omega) hn), free_of h1 k⟩
theorem Hdr.below {t : TypeId} {w0 wr wx : World} {g n B : Nat} {z : Value} {us : List Value} (h : Hdr t w0 g n z wr us) (hx : Below B wr wx) (hB : g < B) : Hdr t w0 g n z wx us := by
  obtain ⟨⟨cur, h1, h2⟩, h3, h4⟩ := h
  exact ⟨⟨cur, (hx.block g hB).trans h1, h2⟩, h3, h4.trans (hx.mono (Nat.le_of_lt hB))⟩
theorem Hdr.set {t : TypeId} {w0 wr : World} {g n k : Nat} {z : Value} {us : List Value} (h : Hdr t w0 g n z wr us) (hk : us.length = k) (hn : k < n) (x : Value) : Hdr t w0 g n z (wr.setCell ⟨g, k, none⟩ x) (us ++ [x]) ∧ (wr.setCell ⟨g, k, none⟩ x).cell? ⟨g, k, none⟩ = some x := by
  obtain ⟨⟨cur, h1, h2, h3, h4⟩, h5, h6⟩ := h
  have hh := heap_setCell_same wr g k cur t x h1
  refine ⟨⟨⟨_, hh, by rw [Array.size_setIfInBounds]; exact h2, fun j hj => ?_, fun j hj hjn => ?_⟩, by rw [List.length_append, List.length_singleton]; omega, h6.setCell (Nat.le_refl _) x⟩, ?_⟩
  · rw [List.length_append, List.length_singleton] at hj
    rw [Array.getElem?_setIfInBounds]
    by_cases hjk : k = j
    · rw [if_pos hjk, if_pos (by omega), List.getElem?_append_right (by omega), hk, hjk, Nat.sub_self]
      rfl
    · rw [if_neg hjk, h3 j (by omega), List.getElem?_append_left (by omega)]
  · rw [List.length_append, List.length_singleton] at hj
    rw [Array.getElem?_setIfInBounds, if_neg (by omega)]
    exact h4 j (by omega) hjn
  · rw [cell_of hh, Array.getElem?_setIfInBounds, if_pos rfl, if_pos (by omega)]
theorem Hdr.other {wr : World} {g k b : Nat} (h : b ≠ g) (x : Value) : (wr.setCell ⟨g, k, none⟩ x).heap[b]? = wr.heap[b]? := Below.heap_setCell _ _ _ _ h
theorem Hdr.done {t : TypeId} {w0 wr : World} {g n : Nat} {z : Value} {us : List Value} (h : Hdr t w0 g n z wr us) (hn : us.length = n) (hm : n ≤ 1000000) : wr.ownsRow g t 1 (.slice (some ⟨g, 0, none⟩) n n) n us := by
  obtain ⟨⟨cur, h1, h2, h3, h4⟩, h5, h6⟩ := h
  refine ⟨by omega, Or.inr ⟨g, n, cur, rfl, Nat.le_refl _, h1, Nat.le_refl _, by unfold maxLen; omega, by omega, ?_⟩⟩
  refine List.ext_getElem? fun j => ?_
  rw [Nat.mul_one, List.getElem?_take, Array.getElem?_toList]
  split
  · exact h3 j (by omega)
  · rw [List.getElem?_eq_none (by omega)]
/-- make of n of them. -/
theorem hdr_make {t ty : TypeId} {z : Value} {bytes : Nat} (hi : (Try.prog.info? t).map (fun i => (i.zero, i.size, i.bytes)) = some (some z, 1, bytes)) (hu : Try.prog.underlying ty = some (.slice t)) (hz : z.cells = #[z]) (hb : bytes ≤ 100) (w : World) (n : Nat) (hn : n ≤ 1000000) :
    ∃ w', (Instr.makeSlice ty (.int .i64 (n : Int)) (.int .i64 (n : Int))).run Try.prog w = .ok (.slice (some ⟨w.heap.size, 0, none⟩) n n) w' ∧ Hdr t w w.heap.size n z w' [] := by
  obtain ⟨i0, hi, hz0, hz1, hz2⟩ := info_parts hi
  have hbn : bytes * n ≤ 100 * 1000000 := Nat.mul_le_mul hb hn
  have hb2 : (i0.bytes : Int) * (n : Int) ≤ 281474976710656 := by
    have h2 : ((bytes * n : Nat) : Int) ≤ 100000000 := by omega
    rw [Int.natCast_mul] at h2
    rw [hz2]
    omega
  have hr := run_make w (P := Try.prog) ty t i0 _ hu hi hz0 .i64 .i64 n n (by omega) (Int.le_refl _) hb2 (by omega)
  simp only [Int.toNat_natCast, hz1] at hr
  refine ⟨_, hr, ⟨_, heap_alloc_new w _, by rw [size_madeCells, Nat.mul_one], fun k hk => absurd hk (Nat.not_lt_zero _), fun k _ hk => ?_⟩, Nat.zero_le _, (Below.refl _ _).alloc (Nat.le_refl _) _⟩
  rw [← Array.getElem?_toList, made_one z n hz, List.getElem?_replicate, if_pos hk]

/-! ### lines -/
theorem RowAt.own {F : Nat → Prop} {w : World} {base : Nat} {v : Value} {l : List Ce} (h : OwnC w base v l) (hF : ∀ b, base ≤ b → F b) : RowAt F w v l ∧ RowW F w v := by
  rcases own_shape h with ⟨rfl, rfl⟩ | ⟨g, c, cur, rfl, hb, hl, hh, hc, hm, hs, hx⟩
  · exact ⟨⟨none, 0, rfl, fun _ => rfl, by decide, fun h => absurd h (by simp)⟩, ⟨none, 0, 0, rfl, by decide, fun h => absurd h (by omega)⟩⟩
  · have hm' : c ≤ 9223372036854775807 := Nat.le_trans hm (by unfold maxLen; omega)
    refine ⟨⟨_, c, rfl, fun e => (by cases e), ⟨hc, hm'⟩, fun h0 => ?_⟩, ⟨_, _, c, rfl, ⟨hc, hm'⟩, fun _ => ⟨g, 0, cur, rfl, hF g hb, hh, by rw [hs]; omega⟩⟩⟩
    obtain ⟨b, o, e, _, hr⟩ := own_row h h0
    cases e
    exact ⟨g, 0, rfl, hF g hb, hl, hr⟩
theorem RowW.more {F G : Nat → Prop} {w : World} {u : Value} (h : RowW F w u) (hF : ∀ b, F b → G b) : RowW G w u := by
  obtain ⟨A, n, c, e, h1, h2⟩ := h
  refine ⟨A, n, c, e, h1, fun hn => ?_⟩
  obtain ⟨b, o, cs, e2, hf, hs⟩ := h2 hn
  exact ⟨b, o, cs, e2, hF b hf, hs⟩
/-- These slices read so, and may be written, in blocks of F. -/
def RowsAt (F : Nat → Prop) (w : World) (us : List Value) (ls : Ls) : Prop := us.length = ls.length ∧ ∀ k, k < us.length → ∃ u, us[k]? = some u ∧ RowAt F w u (lineV ls k) ∧ RowW F w u
theorem rows_nil (F : Nat → Prop) (w : World) : RowsAt F w [] [] := ⟨rfl, fun k hk => absurd hk (Nat.not_lt_zero _)⟩
theorem RowsAt.keep {F : Nat → Prop} {w w' : World} {us : List Value} {ls : Ls} (h : RowsAt F w us ls) (hk : ∀ b, F b → b < w.heap.size → w'.heap[b]? = w.heap[b]?) (hs : w.heap.size ≤ w'.heap.size) : RowsAt F w' us ls := by
  refine ⟨h.1, fun k hk' => ?_⟩
  obtain ⟨u, hu, h1, h2⟩ := h.2 k hk'
  exact ⟨u, hu, h1.keep hk hs, h2.keep hk⟩
theorem RowsAt.below {F : Nat → Prop} {w w' : World} {us : List Value} {ls : Ls} (h : RowsAt F w us ls) (hb : Below w.heap.size w w') : RowsAt F w' us ls := h.keep (fun b _ hl => hb.block b hl) hb.size
theorem RowsAt.more {F G : Nat → Prop} {w : World} {us : List Value} {ls : Ls} (h : RowsAt F w us ls) (hF : ∀ b, F b → G b) : RowsAt G w us ls := by
  refine ⟨h.1, fun k hk' => ?_⟩
  obtain ⟨u, hu, h1, h2⟩ := h.2 k hk'
  exact ⟨u, hu, h1.more hF, h2.more hF⟩
theorem line_left {l m : Ls} {k : Nat} (h : k < l.length) : lineV (l ++ m) k = lineV l k := by
  unfold lineV
  rw [List.getD_eq_getElem?_getD, List.getD_eq_getElem?_getD, List.getElem?_append_left h]
theorem line_right {l m : Ls} {k : Nat} (h : l.length ≤ k) : lineV (l ++ m) k = lineV m (k - l.length) := by
  unfold lineV
  rw [List.getD_eq_getElem?_getD, List.getD_eq_getElem?_getD, List.getElem?_append_right h]
theorem RowsAt.append {F : Nat → Prop} {w : World} {us vs : List Value} {ls ms : Ls} (h1 : RowsAt F w us ls) (h2 : RowsAt F w vs ms) : RowsAt F w (us ++ vs) (ls ++ ms) := by
  refine ⟨by rw [List.length_append, List.length_append, h1.1, h2.1], fun k hk => ?_⟩
  rw [List.length_append] at hk
  by_cases hk' : k < us.length
  · rw [List.getElem?_append_left hk', line_left (by rw [← h1.1]; exact hk')]
    exact h1.2 k hk'
  · rw [List.getElem?_append_right (by omega), line_right (by rw [← h1.1]; omega), ← h1.1]
    exact h2.2 _ (by omega)
theorem rows_one {F : Nat → Prop} {w : World} {u : Value} {l : List Ce} (h1 : RowAt F w u l) (h2 : RowW F w u) : RowsAt F w [u] [l] := ⟨rfl, fun k hk => by
  have : k = 0 := by simpa using hk
  subst this
  exact ⟨u, rfl, h1, h2⟩⟩
theorem RowsAt.take {F : Nat → Prop} {w : World} {us : List Value} {ls : Ls} (h : RowsAt F w us ls) (n : Nat) : RowsAt F w (us.take n) (ls.take n) := by
  refine ⟨by rw [List.length_take, List.length_take, h.1], fun k hk => ?_⟩
  rw [List.length_take] at hk
  rw [List.getElem?_take, if_pos (by omega), line_take _ _ _ (by omega)]
  exact h.2 k (by omega)
theorem RowsAt.cells1 {F : Nat → Prop} {w : World} {us : List Value} {ls : Ls} (h : RowsAt F w us ls) : ∀ u ∈ us, u.oneCell' = true := by
  intro u hu
  obtain ⟨k, hk, rfl⟩ := List.mem_iff_getElem.1 hu
  obtain ⟨u', hu', ⟨A, c, e, _⟩, _⟩ := h.2 k hk
  rw [List.getElem?_eq_getElem hk] at hu'
  rw [Option.some.inj hu', e]
  rfl
/-- Lines of the call's own: the slice itself, and its rows. -/
def OwnT (w : World) (base : Nat) (v : Value) (us : List Value) (ls : Ls) : Prop := w.ownsRow base 38 1 v ls.length us ∧ RowsAt (fun b => base ≤ b) w us ls
theorem OwnT.below {w w' : World} {base : Nat} {v : Value} {us : List Value} {ls : Ls} (h : OwnT w base v us ls) (hb : Below w.heap.size w w') : OwnT w' base v us ls := ⟨one_below h.1 hb, h.2.below hb⟩
theorem OwnT.at_ {w : World} {base : Nat} {v : Value} {us : List Value} {ls : Ls} (h : OwnT w base v us ls) {F : Nat → Prop} (hF : ∀ b, base ≤ b → b < w.heap.size → F b) : TabAt F w v ls ∧ TabW F w v ls.length := by
  have hG : ∀ b, (base ≤ b ∧ b < w.heap.size) → F b := fun b hb => hF b hb.1 hb.2
  have hrow : ∀ k, k < us.length → ∃ u, us[k]? = some u ∧ RowAt F w u (lineV ls k) ∧ RowW F w u := fun k hk => by
    obtain ⟨u, hu, ⟨A, c, e, h0, h1, h2⟩, ⟨A', n', c', e', h1', h2'⟩⟩ := h.2.2 k hk
    refine ⟨u, hu, ⟨A, c, e, h0, h1, fun hl => ?_⟩, ⟨A', n', c', e', h1', fun hl => ?_⟩⟩
    · obtain ⟨b, o, e2, hb, hlt, hc⟩ := h2 hl
      exact ⟨b, o, e2, hF b hb hlt, hlt, hc⟩
    · obtain ⟨b, o, cs, e2, hb, hh, hs⟩ := h2' hl
      exact ⟨b, o, cs, e2, hF b hb (blk_lt hh), hh, hs⟩
  rcases one_shape h.1 with ⟨rfl, h0, h1⟩ | ⟨g, c, cur, rfl, hb, hl, hh, hc, hm, hs, hul, hx⟩
  · have : ls = [] := List.eq_nil_of_length_eq_zero h0
    subst this
    exact ⟨tab_nil _ _, ⟨none, 0, rfl, by decide, fun h => absurd h (by simp)⟩⟩
  · have hm' : c ≤ 9223372036854775807 := Nat.le_trans hm (by unfold maxLen; omega)
    refine ⟨⟨_, c, rfl, fun e => (by cases e), ⟨hc, hm'⟩, fun _ => ⟨g, 0, rfl, hF g hb hl, hl, fun k hk => ?_⟩⟩, ⟨_, c, rfl, ⟨hc, hm'⟩, fun _ => ⟨g, 0, cur, rfl, hF g hb hl, hh, by omega, fun k hk => ?_⟩⟩⟩
    · obtain ⟨u, hu, h1, _⟩ := hrow k (by omega)
      exact ⟨u, by rw [cell_of hh, Nat.zero_add, hx k hk]; exact hu, h1⟩
    · obtain ⟨u, hu, _, h2⟩ := hrow k (by omega)
      exact ⟨u, by rw [Nat.zero_add, hx k hk]; exact hu, h2⟩
end Go.Proofs.Ytomfeehebkknoaa.Rw
