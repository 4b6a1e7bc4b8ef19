/- Layer 11: writing into a row of the call's own, in place: what turns, windows, a run of blanks. -/
import Derived.Test.YtifolcfnknlmdaaRwZ
import Derived.Test.YtifolcfnknlmdaaRwD
set_option linter.unusedVariables false
namespace Go.Proofs.Ytifolcfnknlmdaa.Rw
open Go.RowKit

/-- Only block g and new ones have turned. -/
structure Turns (g : Nat) (w w' : World) : Prop where
  os : w'.os = w.os
  tape : w'.tape = w.tape
  output : w'.output = w.output
  size : w.heap.size ≤ w'.heap.size
  block : ∀ k, k < w.heap.size → k ≠ g → w'.heap[k]? = w.heap[k]?
namespace Turns
variable {g : Nat} {w w' w2 : World}
theorem refl (g : Nat) (w : World) : Turns g w w := ⟨rfl, rfl, rfl, Nat.le_refl _, fun _ _ _ => rfl⟩
theorem trans (h : Turns g w w') (h2 : Turns g w' w2) : Turns g w w2 := ⟨h2.os.trans h.os, h2.tape.trans h.tape, h2.output.trans h.output, Nat.le_trans h.size h2.size, fun k hk hg => (h2.block k (Nat.lt_of_lt_of_le hk h.size) hg).trans (h.block k hk hg)⟩
theorem of (h : Below w.heap.size w w') : Turns g w w' := ⟨h.os, h.tape, h.output, h.size, fun k hk _ => h.block k hk⟩
theorem below (h : Turns g w w') {B : Nat} {w0 : World} (hb : Below B w0 w) (hg : B ≤ g) (hs : B ≤ w.heap.size) : Below B w0 w' :=
  hb.trans ⟨h.os, h.tape, h.output, h.size, fun k hk => h.block k (by omega) (by omega)⟩
theorem set (h : Turns g w w') (k : Nat) (c : Ce) : Turns g w (setCe w' g k c) := by
  have hb : Below 0 w' (setCe w' g k c) := setCe_below (Below.refl _ _) (Nat.zero_le _) k c
  exact h.trans ⟨hb.os, hb.tape, hb.output, hb.size, fun b _ hg => setCe_other hg k c⟩
end Turns

theorem idx_win (g x n c k : Nat) (hk : k < n) (W : World) : (Instr.indexAt 28 (.slice (some ⟨g, x * 7, none⟩) n c) (.int .i64 (k : Int))).run Try.prog W = .ok (.pointer (some ⟨g, (x + k) * 7, none⟩)) W := by
  have := idx_cell g (x * 7) n c k hk W
  rwa [← Nat.add_mul] at this
/-- k blanks from x on. -/
def fillV (l : List Ce) (x k : Nat) (a : Aa) : List Ce := l.take x ++ List.replicate k (blankC a) ++ l.drop (x + k)
theorem fillV_len (l : List Ce) (x k : Nat) (a : Aa) (h : x + k ≤ l.length) : (fillV l x k a).length = l.length := by
  unfold fillV
  simp only [List.length_append, List.length_take, List.length_replicate, List.length_drop]
  omega
theorem fillV_zero (l : List Ce) (x : Nat) (a : Aa) : fillV l x 0 a = l := by simp [fillV]
theorem fillV_succ (l : List Ce) (x k : Nat) (a : Aa) (h : x + k < l.length) : (fillV l x k a).set (x + k) (blankC a) = fillV l x (k + 1) a := by
  have e1 : (l.take x ++ List.replicate k (blankC a)).length = x + k := by simp only [List.length_append, List.length_take, List.length_replicate]; omega
  unfold fillV
  rw [List.set_append_right _ _ (by omega), e1, Nat.sub_self, List.drop_eq_getElem_cons h, List.set_cons_zero, List.replicate_succ', ← Nat.add_assoc]
  simp only [List.append_assoc, List.cons_append, List.nil_append]
end Go.Proofs.Ytifolcfnknlmdaa.Rw
