/- Layer 13: lines of the call's own are written over (for ScrollApart). -/
import Derived.Test.YtomfeehebkknoaaScQ
set_option linter.unusedVariables false
namespace Go.Proofs.Ytomfeehebkknoaa.Rw
open Go.RowKit

/-- A store keeps a block's kind and size; it turns its own block alone. -/
theorem set_kind {w : World} {b r i : Nat} {cs : Array Value} {t : TypeId} (h : w.heap[b]? = some (.cells cs t (0, 0))) (x : Value) : ∃ cs', (w.setCell ⟨r, i, none⟩ x).heap[b]? = some (.cells cs' t (0, 0)) ∧ cs'.size = cs.size ∧ (b ≠ r → cs' = cs) ∧ (b = r → cs' = cs.setIfInBounds i x) := by
  by_cases e : b = r
  · subst e
    exact ⟨_, heap_setCell_same w _ _ _ _ x h, by simp, fun hn => absurd rfl hn, fun _ => rfl⟩
  · exact ⟨cs, (Below.heap_setCell _ _ _ _ e).trans h, rfl, fun _ => rfl, fun e' => absurd e' e⟩
theorem RowW.set {F : Nat → Prop} {w : World} {u : Value} (h : RowW F w u) (r i : Nat) (x : Value) : RowW F (w.setCell ⟨r, i, none⟩ x) u := by
  obtain ⟨A, n, c, e, h1, h2⟩ := h
  refine ⟨A, n, c, e, h1, fun hn => ?_⟩
  obtain ⟨b, o, cs, e2, hF, hb, hs⟩ := h2 hn
  obtain ⟨cs', h3, h4, -⟩ := set_kind (r := r) (i := i) hb x
  exact ⟨b, o, cs', e2, hF, h3, by omega⟩
theorem row_nilW (F : Nat → Prop) (w : World) : RowW F w (.slice none 0 0) := ⟨none, 0, 0, rfl, by decide, fun h => absurd h (Nat.lt_irrefl 0)⟩
/-- A cell of a line is stored: the lines may be written as before. -/
theorem TabW.cell {F : Nat → Prop} {w : World} {v : Value} {N r i : Nat} {cs : Array Value} (h : TabW F w v N) (hr : w.heap[r]? = some (.cells cs 40 (0, 0))) (x : Value) : TabW F (w.setCell ⟨r, i, none⟩ x) v N := by
  obtain ⟨A, c, e, h1, h2⟩ := h
  refine ⟨A, c, e, h1, fun hn => ?_⟩
  obtain ⟨b, o, ct, e2, hF, hb, hs, hk⟩ := h2 hn
  have hne : b ≠ r := fun e => by subst e; rw [hr] at hb; simp at hb
  obtain ⟨ct', h3, h4, h5, -⟩ := set_kind (r := r) (i := i) hb x
  rw [h5 hne] at h3
  refine ⟨b, o, ct, e2, hF, h3, hs, fun k hk' => ?_⟩
  obtain ⟨u, hu, hw⟩ := hk k hk'
  exact ⟨u, hu, hw.set r i x⟩
/-- A line is made nil. -/
theorem TabW.line {F : Nat → Prop} {w : World} {b o n c N : Nat} (h : TabW F w (.slice (some ⟨b, o, none⟩) n c) N) {k : Nat} (hk : k < n) : TabW F (w.setCell ⟨b, o + k, none⟩ (.slice none 0 0)) (.slice (some ⟨b, o, none⟩) n c) N := by
  obtain ⟨A, c', e, h1, h2⟩ := h
  cases e
  refine ⟨_, c, rfl, h1, fun hn => ?_⟩
  obtain ⟨b', o', ct, e2, hF, hb, hs, hr⟩ := h2 hn
  cases e2
  obtain ⟨ct', h3, h4, -, h5⟩ := set_kind (r := b) (i := o + k) hb (.slice none 0 0)
  rw [h5 rfl] at h3
  refine ⟨b, o, _, rfl, hF, h3, by simp; omega, fun j hj => ?_⟩
  by_cases e : j = k
  · subst e
    exact ⟨.slice none 0 0, by rw [Array.getElem?_setIfInBounds, if_pos rfl, if_pos (by omega)], row_nilW _ _⟩
  · obtain ⟨u, hu, hw⟩ := hr j hj
    exact ⟨u, by rw [Array.getElem?_setIfInBounds, if_neg (by omega)]; exact hu, hw.set _ _ _⟩
/-- One line, to be written. -/
theorem TabW.at_ {F : Nat → Prop} {w : World} {A : Option Addr} {n c N : Nat} (h : TabW F w (.slice A n c) N) {k : Nat} (hk : k < n) : ∃ b o u, A = some ⟨b, o, none⟩ ∧ F b ∧ w.cell? ⟨b, o + k, none⟩ = some u ∧ w.frozen? ⟨b, o + k, none⟩ = false ∧ RowW F w u := by
  obtain ⟨A', c', e, h1, h2⟩ := h
  injection e with e1 e2 e3
  subst e1 e2 e3
  obtain ⟨b, o, ct, e2', hF, hb, hs, hr⟩ := h2 (by omega)
  obtain ⟨u, hu, hw⟩ := hr k hk
  exact ⟨b, o, u, e2', hF, by rw [cell_of hb]; exact hu, free_of hb _, hw⟩
theorem RowW.at_ {F : Nat → Prop} {w : World} {A : Option Addr} {n c : Nat} (h : RowW F w (.slice A n c)) {i : Nat} (hi : i < n) : ∃ b o cs x, A = some ⟨b, o, none⟩ ∧ F b ∧ w.heap[b]? = some (.cells cs 40 (0, 0)) ∧ w.cell? ⟨b, o + i * 7 + 1, none⟩ = some x ∧ w.frozen? ⟨b, o + i * 7 + 1, none⟩ = false := by
  obtain ⟨A', n', c', e, h1, h2⟩ := h
  injection e with e1 e2 e3
  subst e1 e2 e3
  obtain ⟨b, o, cs, e2', hF, hb, hs⟩ := h2 (by omega)
  exact ⟨b, o, cs, cs[o + i * 7 + 1]'(by omega), e2', hF, hb, by rw [cell_of hb, Array.getElem?_eq_getElem (by omega)], free_of hb _⟩
/-- Only blocks of F have turned. -/
def OnlyF (F : Nat → Prop) (w w' : World) : Prop := w'.heap.size = w.heap.size ∧ (∀ b, ¬ F b → w'.heap[b]? = w.heap[b]?) ∧ ∀ B w0, (∀ b, F b → B ≤ b) → Below B w0 w → Below B w0 w'
theorem only_refl (F : Nat → Prop) (w : World) : OnlyF F w w := ⟨rfl, fun _ _ => rfl, fun _ _ _ h => h⟩
theorem OnlyF.set {F : Nat → Prop} {w w' : World} (h : OnlyF F w w') {r : Nat} (hr : F r) (i : Nat) (x : Value) : OnlyF F w (w'.setCell ⟨r, i, none⟩ x) :=
  ⟨by rw [World.size_setCell]; exact h.1, fun b hb => (Below.heap_setCell _ _ _ _ (fun e => hb (by rw [e]; exact hr))).trans (h.2.1 b hb), fun B w0 hF hb => (h.2.2 B w0 hF hb).setCell (hF r hr) x⟩
/-- The six answers, from the j-th on as they were. -/
structure SixC (x : Nat → Value) (F : Nat → Nat → Prop) (L : Nat → Ls) (j : Nat) (w0 wr : World) : Prop where
  at_ : ∀ i, j ≤ i → i < 6 → TabAt (F i) wr (x i) (L i)
  w_ : ∀ i, j ≤ i → i < 6 → TabW (F i) wr (x i) (L i).length
  size : wr.heap.size = w0.heap.size
  keep : ∀ b, (∀ i, i < 6 → ¬ F i b) → wr.heap[b]? = w0.heap[b]?
  bel : ∀ B w00, (∀ i b, i < 6 → F i b → B ≤ b) → Below B w00 w0 → Below B w00 wr
/-- No two of them share. -/
def SixF (F : Nat → Nat → Prop) : Prop := ∀ i k b, i < 6 → k < 6 → i ≠ k → F i b → ¬ F k b
theorem SixC.step {x : Nat → Value} {F : Nat → Nat → Prop} {L : Nat → Ls} {j : Nat} {w0 wr w' : World} (h : SixC x F L j w0 wr) (hF : SixF F) (hj : j < 6) (ho : OnlyF (F j) wr w') : SixC x F L (j + 1) w0 w' := by
  refine ⟨fun i hi h6 => ?_, fun i hi h6 => ?_, ho.1.trans h.size, fun b hb => (ho.2.1 b (hb j hj)).trans (h.keep b hb), fun B w00 hb hB => ho.2.2 B w00 (fun b hf => hb j b hj hf) (h.bel B w00 hb hB)⟩
  · exact (h.at_ i (by omega) h6).keep (fun b hb _ => ho.2.1 b (hF i j b h6 hj (by omega) hb)) (Nat.le_of_eq ho.1.symm)
  · exact (h.w_ i (by omega) h6).keep fun b hb _ => ho.2.1 b (hF i j b h6 hj (by omega) hb)
end Go.Proofs.Ytomfeehebkknoaa.Rw
