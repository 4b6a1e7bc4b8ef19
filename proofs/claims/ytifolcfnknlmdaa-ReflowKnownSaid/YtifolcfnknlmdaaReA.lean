/- Layer 15: lines in memory: slices of Line (a slice of cells, two booleans: three cells each), of the package's type and of the document's; all of it in blocks of F. -/
import Derived.Test.YtifolcfnknlmdaaRwA
import Derived.Test.YtifolcfnknlmdaaReFX
set_option linter.unusedVariables false
namespace Go.Proofs.Ytifolcfnknlmdaa.Re
open Go.RowKit Go.Proofs.Ytifolcfnknlmdaa.Rw

/-- A slice of cells that reads so, its cells in blocks of F. -/
def RowF (F : Nat → Prop) (w : World) (u : Value) (l : List Ce) : Prop := Lies w u l ∧ ∀ b, u.ownBlock = some b → 0 < l.length → F b
theorem ownBlock_some {b o n c : Nat} : (Value.slice (some ⟨b, o, none⟩) n c).ownBlock = some b := rfl
theorem RowF.keep {F : Nat → Prop} {w w' : World} {u : Value} {l : List Ce} (h : RowF F w u l) (hk : ∀ b, F b → b < w.heap.size → w'.heap[b]? = w.heap[b]?) (hs : w.heap.size ≤ w'.heap.size) : RowF F w' u l := by
  obtain ⟨⟨A, c, rfl, h0, h1, hr⟩, hF⟩ := h
  refine ⟨⟨A, c, rfl, h0, h1, fun hl => ?_⟩, hF⟩
  obtain ⟨b, o, e, hb, hc⟩ := hr hl
  subst e
  have hf := hF b rfl hl
  exact ⟨b, o, rfl, Nat.lt_of_lt_of_le hb hs, fun i hi j u hu => (World.cell?_of_block (hk b hf hb)).trans (hc i hi j u hu)⟩
theorem RowF.more {F G : Nat → Prop} {w : World} {u : Value} {l : List Ce} (h : RowF F w u l) (hF : ∀ b, F b → G b) : RowF G w u l := ⟨h.1, fun b e hl => hF b (h.2 b e hl)⟩

/-- Lines that read so. -/
def LinesAt (F : Nat → Prop) (w : World) (v : Value) (ls : List LnC) : Prop := ∃ A c, v = .slice A ls.length c ∧ (A = none → c = 0) ∧ (ls.length ≤ c ∧ c ≤ 9223372036854775807) ∧ (0 < ls.length → ∃ b o, A = some ⟨b, o, none⟩ ∧ F b ∧ b < w.heap.size ∧ ∀ k, k < ls.length → ∃ u, w.cell? ⟨b, o + k * 3, none⟩ = some u ∧ w.cell? ⟨b, o + k * 3 + 1, none⟩ = some (.bool (ls.getD k noLn).joined) ∧ w.cell? ⟨b, o + k * 3 + 2, none⟩ = some (.bool (ls.getD k noLn).short) ∧ RowF F w u (ls.getD k noLn).cells)
theorem LinesAt.keep {F : Nat → Prop} {w w' : World} {v : Value} {ls : List LnC} (h : LinesAt F w v ls) (hk : ∀ b, F b → b < w.heap.size → w'.heap[b]? = w.heap[b]?) (hs : w.heap.size ≤ w'.heap.size) : LinesAt F w' v ls := by
  obtain ⟨A, c, e, h0, h1, h2⟩ := h
  refine ⟨A, c, e, h0, h1, fun hl => ?_⟩
  obtain ⟨b, o, e2, hF, hb, hc⟩ := h2 hl
  refine ⟨b, o, e2, hF, Nat.lt_of_lt_of_le hb hs, fun k hk' => ?_⟩
  obtain ⟨u, hu, hj, hs', hr⟩ := hc k hk'
  have hbk := hk b hF hb
  exact ⟨u, (World.cell?_of_block hbk).trans hu, (World.cell?_of_block hbk).trans hj, (World.cell?_of_block hbk).trans hs', hr.keep hk hs⟩
theorem LinesAt.below {F : Nat → Prop} {w w' : World} {v : Value} {ls : List LnC} (h : LinesAt F w v ls) (hb : Below w.heap.size w w') : LinesAt F w' v ls := h.keep (fun b _ hl => hb.block b hl) hb.size
theorem LinesAt.more {F G : Nat → Prop} {w : World} {v : Value} {ls : List LnC} (h : LinesAt F w v ls) (hF : ∀ b, F b → G b) : LinesAt G w v ls := by
  obtain ⟨A, c, e, h0, h1, h2⟩ := h
  refine ⟨A, c, e, h0, h1, fun hl => ?_⟩
  obtain ⟨b, o, e2, hf, hb, hc⟩ := h2 hl
  refine ⟨b, o, e2, hF b hf, hb, fun k hk => ?_⟩
  obtain ⟨u, hu, hj, hs', hr⟩ := hc k hk
  exact ⟨u, hu, hj, hs', hr.more hF⟩
theorem lines_nil (F : Nat → Prop) (w : World) : LinesAt F w (.slice none 0 0) [] := ⟨none, 0, rfl, fun _ => rfl, by decide, fun h => absurd h (by simp)⟩
theorem LinesAt.len {F : Nat → Prop} {w : World} {A : Option Addr} {n c : Nat} {ls : List LnC} (h : LinesAt F w (.slice A n c) ls) : n = ls.length ∧ (A = none → c = 0) ∧ n ≤ c ∧ c ≤ 9223372036854775807 := by
  obtain ⟨A', c', e, h0, h1, h2⟩ := h
  injection e with e1 e2 e3
  subst e1 e3
  exact ⟨e2, h0, by omega, h1.2⟩
/-- One line of it. -/
theorem LinesAt.at_ {F : Nat → Prop} {w : World} {A : Option Addr} {n c : Nat} {ls : List LnC} (h : LinesAt F w (.slice A n c) ls) {k : Nat} (hk : k < n) : ∃ b o u, A = some ⟨b, o, none⟩ ∧ F b ∧ b < w.heap.size ∧ w.cell? ⟨b, o + k * 3, none⟩ = some u ∧ w.cell? ⟨b, o + k * 3 + 1, none⟩ = some (.bool (ls.getD k noLn).joined) ∧ w.cell? ⟨b, o + k * 3 + 2, none⟩ = some (.bool (ls.getD k noLn).short) ∧ RowF F w u (ls.getD k noLn).cells := by
  obtain ⟨A', c', e, h0, h1, h2⟩ := h
  injection e with e1 e2 e3
  subst e1 e3
  obtain ⟨b, o, e2', hf, hb, hc⟩ := h2 (by omega)
  obtain ⟨u, hu, hj, hs, hr⟩ := hc k (by omega)
  exact ⟨b, o, u, e2', hf, hb, hu, hj, hs, hr⟩
theorem idx_line (b o n c k : Nat) (hk : k < n) (W : World) : (Instr.indexAt 22 (.slice (some ⟨b, o, none⟩) n c) (.int .i64 (k : Int))).run Try.prog W = .ok (.pointer (some ⟨b, o + k * 3, none⟩)) W := by
  have hs : ∀ W : World, (sizeOf (Try.prog.elem 22)).run Try.prog W = .ok 3 W := fun W => by kernel_rfl
  rw [run_indexAt_slice (P := Try.prog) W 22 ⟨b, o, none⟩ n c .i64 k (by kernel_rfl), if_pos (by omega), hs]
  simp only [Result.andThen, Int.toNat_natCast, add_oo]
theorem idx_given (b o n c k : Nat) (hk : k < n) (W : World) : (Instr.indexAt 48 (.slice (some ⟨b, o, none⟩) n c) (.int .i64 (k : Int))).run Try.prog W = .ok (.pointer (some ⟨b, o + k * 3, none⟩)) W := by
  have hs : ∀ W : World, (sizeOf (Try.prog.elem 48)).run Try.prog W = .ok 3 W := fun W => by kernel_rfl
  rw [run_indexAt_slice (P := Try.prog) W 48 ⟨b, o, none⟩ n c .i64 k (by kernel_rfl), if_pos (by omega), hs]
  simp only [Result.andThen, Int.toNat_natCast, add_oo]
end Go.Proofs.Ytifolcfnknlmdaa.Re
