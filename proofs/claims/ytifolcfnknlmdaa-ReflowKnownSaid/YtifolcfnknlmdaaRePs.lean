/- Layer 15: what the program's contracts speak of. -/
import Derived.Test.YtifolcfnknlmdaaReU
import Derived.Test.YtifolcfnknlmdaaReV
set_option linter.unusedVariables false
namespace Go.Proofs.Ytifolcfnknlmdaa.Re
open Go.RowKit Go.Proofs.Ytifolcfnknlmdaa.Rw

def IntIn (x : Int) : Prop := -9223372036854775808 ≤ x ∧ x ≤ 9223372036854775807
/-- Lines at whatever width. -/
def linesI (W : Int) (l : List LnC) : List LnC := if 2 ≤ W ∧ W ≤ 400 then linesV blC wdC W.toNat l else []
/-- Rows that read so. -/
def TabR (F : Nat → Prop) (w : World) (v : Value) (ps : List (List Ce)) : Prop := ∃ A c, v = .slice A ps.length c ∧ (0 < ps.length → ∃ b o, A = some ⟨b, o, none⟩ ∧ F b ∧ b < w.heap.size ∧ ∀ k, k < ps.length → ∃ u, w.cell? ⟨b, o + k, none⟩ = some u ∧ RowF F w u (ps.getD k []))
/-- Texts that read so. -/
def TextsAt (w : World) (v : Value) (ts : List ByteArray) : Prop := ∃ A c, v = .slice A ts.length c ∧ (0 < ts.length → ∃ b o, A = some ⟨b, o, none⟩ ∧ b < w.heap.size ∧ ∀ k, k < ts.length → w.cell? ⟨b, o + k, none⟩ = some (.string (ts.getD k ByteArray.empty)))
theorem TabR.keep {F : Nat → Prop} {w w' : World} {v : Value} {ps : List (List Ce)} (h : TabR F w v ps) (hk : ∀ b, F b → b < w.heap.size → w'.heap[b]? = w.heap[b]?) (hs : w.heap.size ≤ w'.heap.size) : TabR F w' v ps := by
  obtain ⟨A, c, e, h2⟩ := h
  refine ⟨A, c, e, fun hl => ?_⟩
  obtain ⟨b, o, e2, hF, hb, hc⟩ := h2 hl
  refine ⟨b, o, e2, hF, Nat.lt_of_lt_of_le hb hs, fun k hk' => ?_⟩
  obtain ⟨u, hu, hr⟩ := hc k hk'
  exact ⟨u, (World.cell?_of_block (hk b hF hb)).trans hu, hr.keep hk hs⟩
theorem TabR.below {F : Nat → Prop} {w w' : World} {v : Value} {ps : List (List Ce)} (h : TabR F w v ps) (hb : Below w.heap.size w w') : TabR F w' v ps := h.keep (fun b _ hl => hb.block b hl) hb.size
theorem TabR.at_ {F : Nat → Prop} {w : World} {A : Option Addr} {n c : Nat} {ps : List (List Ce)} (h : TabR F w (.slice A n c) ps) {k : Nat} (hk : k < ps.length) : ∃ b o u, A = some ⟨b, o, none⟩ ∧ b < w.heap.size ∧ w.cell? ⟨b, o + k, none⟩ = some u ∧ RowF F w u (ps.getD k []) := by
  obtain ⟨A', c', e, h2⟩ := h
  injection e with e1 e2 e3
  subst e1
  obtain ⟨b, o, e4, hF, hb, hc⟩ := h2 (by omega)
  obtain ⟨u, hu, hr⟩ := hc k hk
  exact ⟨b, o, u, e4, hb, hu, hr⟩
theorem TabR.len {F : Nat → Prop} {w : World} {A : Option Addr} {n c : Nat} {ps : List (List Ce)} (h : TabR F w (.slice A n c) ps) : n = ps.length := by
  obtain ⟨A', c', e, h2⟩ := h
  injection e
theorem idx_rows (b o n c k : Nat) (hk : k < n) (W : World) : (Instr.indexAt 50 (.slice (some ⟨b, o, none⟩) n c) (.int .i64 (k : Int))).run Try.prog W = .ok (.pointer (some ⟨b, o + k, none⟩)) W := by
  have hs : ∀ W : World, (sizeOf (Try.prog.elem 50)).run Try.prog W = .ok 1 W := fun W => by kernel_rfl
  rw [run_indexAt_slice (P := Try.prog) W 50 ⟨b, o, none⟩ n c .i64 k (by kernel_rfl), if_pos (by omega), hs]
  simp only [Result.andThen, Int.toNat_natCast, add_oo, Nat.mul_one]
theorem idx_text (b o n c k : Nat) (hk : k < n) (W : World) : (Instr.indexAt 45 (.slice (some ⟨b, o, none⟩) n c) (.int .i64 (k : Int))).run Try.prog W = .ok (.pointer (some ⟨b, o + k, none⟩)) W := by
  have hs : ∀ W : World, (sizeOf (Try.prog.elem 45)).run Try.prog W = .ok 1 W := fun W => by kernel_rfl
  rw [run_indexAt_slice (P := Try.prog) W 45 ⟨b, o, none⟩ n c .i64 k (by kernel_rfl), if_pos (by omega), hs]
  simp only [Result.andThen, Int.toNat_natCast, add_oo, Nat.mul_one]
end Go.Proofs.Ytifolcfnknlmdaa.Re
