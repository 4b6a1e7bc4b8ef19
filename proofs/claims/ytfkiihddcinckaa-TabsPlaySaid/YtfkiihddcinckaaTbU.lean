/- Layer 12: stops beside the document's. -/
import Derived.Test.YtfkiihddcinckaaTbT
import Derived.Test.YtfkiihddcinckaaTbO
set_option linter.unusedVariables false
namespace Go.Proofs.Ytfkiihddcinckaa.Tb
open Go.RowKit

theorem LiesI.keep {w w' : World} {v : Value} {l : List Nat} (h : LiesI w v l) (hs : w.heap.size ≤ w'.heap.size) (hk : ∀ b, v.ownBlock = some b → b < w.heap.size → w'.heap[b]? = w.heap[b]?) : LiesI w' v l := by
  obtain ⟨A, c, rfl, h0, h1, h2⟩ := h
  refine ⟨A, c, rfl, h0, h1, fun hl => ?_⟩
  obtain ⟨b, rfl, hb, hc⟩ := h2 hl
  refine ⟨b, rfl, Nat.lt_of_lt_of_le hb hs, fun k hk' => ?_⟩
  rw [← hc k hk']
  exact World.cell?_of_block (hk b rfl hb)
/-- Stops s (that are bs), and the document's in block o (W columns, the list v that is l). -/
structure DuoD (w : World) (s : Value) (o : Nat) (bs : List Bool) (W : Nat) (v : Value) (l : List Nat) (wr : World) : Prop where
  below : Below w.heap.size w wr
  st : ∃ F : Nat → Prop, IsSt F wr s bs ∧ (∀ k, F k → w.heap.size ≤ k) ∧ ¬ F o ∧ ∀ b, v.ownBlock = some b → ¬ F b
  box : wr.heap[o]? = some (refO W v)
  lies : LiesI wr v l
  ho : w.heap.size ≤ o
  ne : v.ownBlock ≠ some o
  vlt : ∀ b, v.ownBlock = some b → b < wr.heap.size
namespace DuoD
variable {w wr U : World} {s v v' : Value} {o W W' : Nat} {bs bs' : List Bool} {l l' : List Nat}
theorem old (h : DuoD w s o bs W v l wr) (hb : Below wr.heap.size wr U) : DuoD w s o bs W v l U := by
  obtain ⟨F, h1, h2, h3, h4⟩ := h.st
  exact ⟨h.below.trans (hb.mono h.below.size), ⟨F, st_old h1 hb, h2, h3, h4⟩, (hb.block o (blk_lt h.box)).trans h.box, h.lies.below hb, h.ho, h.ne, fun b hb' => Nat.lt_of_lt_of_le (h.vlt b hb') hb.size⟩
theorem turn (h : DuoD w s o bs W v l wr) {F : Nat → Prop} (h1 : IsSt F wr s bs) (h2 : ∀ k, F k → w.heap.size ≤ k) (h3 : ¬ F o) (h4 : ∀ b, v.ownBlock = some b → ¬ F b) {r : Value} {e : Ending} (hp : MPost F wr s bs' r e U) : e = .returned r ∧ DuoD w s o bs' W v l U := by
  obtain ⟨he, F', g1, g2, g3⟩ := hp
  refine ⟨he, ⟨MineT.turn h.below h2 g3, ⟨F', g1, fun k hk => ?_, fun hf => ?_, fun b hb hf => ?_⟩, (g3.block o (blk_lt h.box) h3).trans h.box, h.lies.keep g3.size fun b hb hl => g3.block b hl (h4 b hb), h.ho, h.ne, fun b hb => Nat.lt_of_lt_of_le (h.vlt b hb) g3.size⟩⟩
  · rcases g2 k hk with h' | h'
    · exact h2 k h'
    · exact Nat.le_trans h.below.size h'
  · rcases g2 o hf with h' | h'
    · exact h3 h'
    · have := blk_lt h.box; omega
  · rcases g2 b hf with h' | h'
    · exact h4 b hb h'
    · have := h.vlt b hb; omega
theorem cell0 (h : DuoD w s o bs W v l wr) : wr.cell? ⟨o, 0, none⟩ = some (.int .i64 (W : Int)) := cell_of h.box 0
theorem cell1 (h : DuoD w s o bs W v l wr) : wr.cell? ⟨o, 1, none⟩ = some v := cell_of h.box 1
theorem free (h : DuoD w s o bs W v l wr) (i : Nat) : wr.frozen? ⟨o, i, none⟩ = false := free_of h.box i
/-- The document's new value is stored. -/
theorem put (h : DuoD w s o bs W v l wr) (hb : Below wr.heap.size wr U) (hl : LiesI U v' l') (hf : v' = v ∨ ∀ b, v'.ownBlock = some b → wr.heap.size ≤ b ∧ b < U.heap.size) (W' : Nat) : DuoD w s o bs W' v' l' (setR U o W' v') := by
  obtain ⟨F, h1, h2, h3, h4⟩ := h.st
  have ho := blk_lt h.box
  have hne : v'.ownBlock ≠ some o := by
    rcases hf with rfl | hf
    · exact h.ne
    · exact fun e => by have := (hf o e).1; omega
  have hkeep : ∀ k, k ≠ o → (setR U o W' v').heap[k]? = U.heap[k]? := fun k hk => by
    unfold setR
    rw [Below.heap_setCell _ _ _ _ hk, Below.heap_setCell _ _ _ _ hk]
  have hsz : (setR U o W' v').heap.size = U.heap.size := by unfold setR; simp [World.size_setCell]
  have hbU := h.below.trans (hb.mono h.below.size)
  refine ⟨setR_below hbU h.ho W' v', ⟨F, st_keep (st_old h1 hb) fun k hk => hkeep k (fun e => h3 (e ▸ hk)), h2, h3, fun b hb' hFb => ?_⟩, setR_at ((hb.block o ho).trans h.box) W' v', hl.keep (Nat.le_of_eq hsz.symm) (fun b hb' _ => hkeep b (fun e => hne (e ▸ hb'))), h.ho, hne, fun b hb' => ?_⟩
  · rcases hf with rfl | hf
    · exact h4 b hb' hFb
    · have := st_lt h1 b hFb; have := (hf b hb').1; omega
  · rw [hsz]
    rcases hf with rfl | hf
    · exact Nat.lt_of_lt_of_le (h.vlt b hb') hb.size
    · exact (hf b hb').2
theorem putL (h : DuoD w s o bs W v l wr) : DuoD w s o bs W (.slice none 0 0) [] (wr.setCell ⟨o, 1, none⟩ (.slice none 0 0)) := by
  obtain ⟨F, h1, h2, h3, h4⟩ := h.st
  have hkeep : ∀ k, k ≠ o → (wr.setCell ⟨o, 1, none⟩ (.slice none 0 0)).heap[k]? = wr.heap[k]? := fun k hk => Below.heap_setCell _ _ _ _ hk
  refine ⟨h.below.setCell h.ho _, ⟨F, st_keep h1 fun k hk => hkeep k (fun e => h3 (e ▸ hk)), h2, h3, fun b hb' => by simp [Value.ownBlock] at hb'⟩, ?_, liesI_nil _, h.ho, by simp [Value.ownBlock], fun b hb' => by simp [Value.ownBlock] at hb'⟩
  have := heap_setCell_same wr o 1 _ _ (.slice none 0 0) h.box
  rw [this]
  rfl
end DuoD
section
variable {w wr : World} {s v : Value} {o W : Nat} {bs : List Bool} {l : List Nat} (h : DuoD w s o bs W v l wr)
include h
theorem duo_set (x : Int) : Calls Try.prog 12 #[s, .int .i64 x] wr fun e w' => e = .returned (.bool (setOk bs x)) ∧ DuoD w s o (setB bs x) W v l w' := by
  obtain ⟨F, h1, h2, h3, h4⟩ := h.st
  exact (set_any h1 x).mono fun e w' hp => h.turn h1 h2 h3 h4 hp
theorem duo_clr (x : Int) : Calls Try.prog 14 #[s, .int .i64 x] wr fun e w' => e = .returned (.bool (clrOk bs x)) ∧ DuoD w s o (clrB bs x) W v l w' := by
  obtain ⟨F, h1, h2, h3, h4⟩ := h.st
  exact (clr_any h1 x).mono fun e w' hp => h.turn h1 h2 h3 h4 hp
theorem duo_wipe : Calls Try.prog 16 #[s] wr fun e w' => e = .returned (.tuple #[]) ∧ DuoD w s o (wipeB bs) W v l w' := by
  obtain ⟨F, h1, h2, h3, h4⟩ := h.st
  exact (wipe_any h1).mono fun e w' hp => h.turn h1 h2 h3 h4 hp
theorem duo_size (x : Int) : Calls Try.prog 17 #[s, .int .i64 x] wr fun e w' => e = .returned (.tuple #[]) ∧ DuoD w s o (sizeB bs x) W v l w' := by
  obtain ⟨F, h1, h2, h3, h4⟩ := h.st
  exact (size_any h1 x).mono fun e w' hp => h.turn h1 h2 h3 h4 hp
end
end Go.Proofs.Ytfkiihddcinckaa.Tb
