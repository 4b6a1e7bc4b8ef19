/- Layer 13: lines in memory: slices of rows that lie somewhere, in blocks of F; the document's Same. -/
import Derived.Test.YtomfeehebkknoaaScM
import Derived.Test.YtomfeehebkknoaaRwE
set_option linter.unusedVariables false
namespace Go.Proofs.Ytomfeehebkknoaa.Rw
open Go.RowKit

/-- A slice that reads so, its cells in blocks of F. -/
def RowAt (F : Nat → Prop) (w : World) (u : Value) (l : List Ce) : Prop := ∃ A c, u = .slice A l.length c ∧ (A = none → c = 0) ∧ (l.length ≤ c ∧ c ≤ 9223372036854775807) ∧ (0 < l.length → ∃ b o, A = some ⟨b, o, none⟩ ∧ F b ∧ b < w.heap.size ∧ ∀ i, i < l.length → ∀ j x, (cellsC (cellV l i))[j]? = some x → w.cell? ⟨b, o + (i * 7 + j), none⟩ = some x)
theorem RowAt.keep {F : Nat → Prop} {w w' : World} {u : Value} {l : List Ce} (h : RowAt F w u l) (hk : ∀ b, F b → b < w.heap.size → w'.heap[b]? = w.heap[b]?) (hs : w.heap.size ≤ w'.heap.size) : RowAt F w' u l := by
  obtain ⟨A, c, e, h0, h1, h2⟩ := h
  refine ⟨A, c, e, h0, h1, fun hl => ?_⟩
  obtain ⟨b, o, e2, hF, hb, hc⟩ := h2 hl
  exact ⟨b, o, e2, hF, Nat.lt_of_lt_of_le hb hs, fun i hi j x hj => (World.cell?_of_block (hk b hF hb)).trans (hc i hi j x hj)⟩
theorem RowAt.more {F G : Nat → Prop} {w : World} {u : Value} {l : List Ce} (h : RowAt F w u l) (hF : ∀ b, F b → G b) : RowAt G w u l := by
  obtain ⟨A, c, e, h0, h1, h2⟩ := h
  refine ⟨A, c, e, h0, h1, fun hl => ?_⟩
  obtain ⟨b, o, e2, hf, hb, hc⟩ := h2 hl
  exact ⟨b, o, e2, hF b hf, hb, hc⟩
theorem RowAt.lies {F : Nat → Prop} {w : World} {u : Value} {l : List Ce} (h : RowAt F w u l) : Lies w u l := by
  obtain ⟨A, c, e, h0, h1, h2⟩ := h
  refine ⟨A, c, e, h0, h1, fun hl => ?_⟩
  obtain ⟨b, o, e2, hf, hb, hc⟩ := h2 hl
  exact ⟨b, o, e2, hb, hc⟩
/-- A slice of rows that reads so, all of it in blocks of F. -/
def TabAt (F : Nat → Prop) (w : World) (v : Value) (ls : Ls) : Prop := ∃ A c, v = .slice A ls.length c ∧ (A = none → c = 0) ∧ (ls.length ≤ c ∧ c ≤ 9223372036854775807) ∧ (0 < ls.length → ∃ b o, A = some ⟨b, o, none⟩ ∧ F b ∧ b < w.heap.size ∧ ∀ k, k < ls.length → ∃ u, w.cell? ⟨b, o + k, none⟩ = some u ∧ RowAt F w u (lineV ls k))
theorem TabAt.keep {F : Nat → Prop} {w w' : World} {v : Value} {ls : Ls} (h : TabAt F w v ls) (hk : ∀ b, F b → b < w.heap.size → w'.heap[b]? = w.heap[b]?) (hs : w.heap.size ≤ w'.heap.size) : TabAt F w' v ls := by
  obtain ⟨A, c, e, h0, h1, h2⟩ := h
  refine ⟨A, c, e, h0, h1, fun hl => ?_⟩
  obtain ⟨b, o, e2, hF, hb, hc⟩ := h2 hl
  refine ⟨b, o, e2, hF, Nat.lt_of_lt_of_le hb hs, fun k hk' => ?_⟩
  obtain ⟨u, hu, hr⟩ := hc k hk'
  exact ⟨u, (World.cell?_of_block (hk b hF hb)).trans hu, hr.keep hk hs⟩
theorem TabAt.below {F : Nat → Prop} {w w' : World} {v : Value} {ls : Ls} (h : TabAt F w v ls) (hb : Below w.heap.size w w') : TabAt F w' v ls := h.keep (fun b _ hl => hb.block b hl) hb.size
theorem TabAt.more {F G : Nat → Prop} {w : World} {v : Value} {ls : Ls} (h : TabAt F w v ls) (hF : ∀ b, F b → G b) : TabAt G w v ls := by
  obtain ⟨A, c, e, h0, h1, h2⟩ := h
  refine ⟨A, c, e, h0, h1, fun hl => ?_⟩
  obtain ⟨b, o, e2, hf, hb, hc⟩ := h2 hl
  refine ⟨b, o, e2, hF b hf, hb, fun k hk => ?_⟩
  obtain ⟨u, hu, hr⟩ := hc k hk
  exact ⟨u, hu, hr.more hF⟩
theorem tab_nil (F : Nat → Prop) (w : World) : TabAt F w (.slice none 0 0) [] := ⟨none, 0, rfl, fun _ => rfl, by decide, fun h => absurd h (by simp)⟩
/-- One line of it. -/
theorem TabAt.at_ {F : Nat → Prop} {w : World} {A : Option Addr} {n c : Nat} {ls : Ls} (h : TabAt F w (.slice A n c) ls) {k : Nat} (hk : k < n) : ∃ b o u, A = some ⟨b, o, none⟩ ∧ F b ∧ b < w.heap.size ∧ w.cell? ⟨b, o + k, none⟩ = some u ∧ RowAt F w u (lineV ls k) := by
  obtain ⟨A', c', e, h0, h1, h2⟩ := h
  injection e with e1 e2 e3
  subst e1 e3
  obtain ⟨b, o, e2', hf, hb, hc⟩ := h2 (by omega)
  obtain ⟨u, hu, hr⟩ := hc k (by omega)
  exact ⟨b, o, u, e2', hf, hb, hu, hr⟩
theorem TabAt.len {F : Nat → Prop} {w : World} {A : Option Addr} {n c : Nat} {ls : Ls} (h : TabAt F w (.slice A n c) ls) : n = ls.length ∧ (A = none → c = 0) ∧ n ≤ c ∧ c ≤ 9223372036854775807 := by
  obtain ⟨A', c', e, h0, h1, h2⟩ := h
  injection e with e1 e2 e3
  subst e1 e3
  exact ⟨e2, h0, by omega, h1.2⟩
/-- Cut at its front or its end: x to y of it. -/
theorem TabAt.cut {F : Nat → Prop} {w : World} {b o n c : Nat} {ls : Ls} (h : TabAt F w (.slice (some ⟨b, o, none⟩) n c) ls) {x y : Nat} (hxy : x ≤ y) (hy : y ≤ n) {A : Option Addr} (hA : A = some ⟨b, o + x, none⟩ ∨ ((∃ p, A = some p) ∧ y - x = 0)) {n' c' : Nat} (hn : n' = y - x) (hc' : c' = c - x) : TabAt F w (.slice A n' c') ((ls.take y).drop x) := by
  subst hn hc'
  have hlen := h.len
  have hl : ((ls.take y).drop x).length = y - x := by rw [List.length_drop, List.length_take]; omega
  refine ⟨A, c - x, by rw [hl], fun e => ?_, by rw [hl]; omega, fun hp => ?_⟩
  · rcases hA with h' | ⟨⟨p, h'⟩, _⟩ <;> rw [h'] at e <;> cases e
  · rw [hl] at hp
    rcases hA with rfl | ⟨_, h0⟩
    · obtain ⟨b', o', u', e, hf, hb, _, _⟩ := h.at_ (k := x) (by omega)
      cases e
      refine ⟨b, o + x, rfl, hf, hb, fun k hk => ?_⟩
      rw [hl] at hk
      obtain ⟨b', o', u, e, _, _, hu, hr⟩ := h.at_ (k := x + k) (by omega)
      cases e
      exact ⟨u, by rw [Nat.add_assoc]; exact hu, by rw [line_drop, line_take _ _ _ (by omega)]; exact hr⟩
    · omega
theorem idx_tab (b o n c k : Nat) (hk : k < n) (W : World) : (Instr.indexAt 22 (.slice (some ⟨b, o, none⟩) n c) (.int .i64 (k : Int))).run Try.prog W = .ok (.pointer (some ⟨b, o + k, none⟩)) W := by
  have hs : ∀ W : World, (sizeOf (Try.prog.elem 22)).run Try.prog W = .ok 1 W := fun W => by kernel_rfl
  rw [run_indexAt_slice (P := Try.prog) W 22 ⟨b, o, none⟩ n c .i64 k (by kernel_rfl), if_pos (by omega), hs]
  simp only [Result.andThen, Int.toNat_natCast, add_oo, Nat.mul_one]

/-! ### the document's Same -/
theorem same_line {F G : Nat → Prop} {u1 u2 : Value} {l1 l2 : List Ce} {w : World} (h1 : RowAt F w u1 l1) (h2 : RowAt G w u2 l2) (hl : l1.length ≤ 100000) : Calls Try.prog 21 #[u1, u2] w fun e w' => e = .returned (.bool (decide (l1 = l2))) ∧ Below w.heap.size w w' := by
  obtain ⟨A1, c1, rfl, _⟩ := id h1
  obtain ⟨A2, c2, rfl, _⟩ := id h2
  exact same_any l1 l2 A1 A2 _ _ c1 c2 w h1.lies h2.lies hl
end Go.Proofs.Ytomfeehebkknoaa.Rw
