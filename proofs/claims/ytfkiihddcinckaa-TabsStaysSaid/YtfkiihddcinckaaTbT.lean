/- Layer 12: stops of the call's own, from call to call. -/
import Derived.Test.YtfkiihddcinckaaTbK
set_option linter.unusedVariables false
namespace Go.Proofs.Ytfkiihddcinckaa.Tb
open Go.RowKit

def MineT (w : World) (s : Value) (bs : List Bool) (V : World) : Prop := Below w.heap.size w V ∧ ∃ F : Nat → Prop, IsSt F V s bs ∧ ∀ k, F k → w.heap.size ≤ k
namespace MineT
variable {w V U : World} {s : Value} {bs : List Bool}
theorem old (h : MineT w s bs V) (hb : Below V.heap.size V U) : MineT w s bs U := by
  obtain ⟨h1, F, h2, h3⟩ := h
  exact ⟨h1.trans (hb.mono h1.size), F, st_old h2 hb, h3⟩
theorem turn {F : Nat → Prop} (hb : Below w.heap.size w V) (hF : ∀ k, F k → w.heap.size ≤ k) (ht : TurnF F V U) : Below w.heap.size w U :=
  hb.trans ⟨ht.os, ht.tape, ht.output, ht.size, fun k hk => ht.block k (Nat.lt_of_lt_of_le hk hb.size) (fun hf => absurd (hF k hf) (by omega))⟩
theorem post {F : Nat → Prop} {bs' : List Bool} {r : Value} {e : Ending} (hb : Below w.heap.size w V) (hF : ∀ k, F k → w.heap.size ≤ k) (hp : MPost F V s bs' r e U) : e = .returned r ∧ MineT w s bs' U := by
  obtain ⟨he, F', h1, h2, h3⟩ := hp
  refine ⟨he, turn hb hF h3, F', h1, fun k hk => ?_⟩
  rcases h2 k hk with h | h
  · exact hF k h
  · exact Nat.le_trans hb.size h
theorem len (h : MineT w s bs V) : 1 ≤ bs.length ∧ bs.length ≤ 400 := by
  obtain ⟨_, F, h2, _⟩ := h
  exact st_len400 h2
end MineT
theorem mine_new (x : Int) (w V : World) (hb : Below w.heap.size w V) : Calls Try.prog 10 #[.int .i64 x] V fun e w' => ∃ s, e = .returned s ∧ MineT w s (newB x) w' :=
  (new_any x V).mono fun e w' ⟨s, F, he, h1, h2, h3⟩ => ⟨s, he, hb.trans (h3.mono hb.size), F, h1, fun k hk => Nat.le_trans hb.size (h2 k hk)⟩
section
variable {w V : World} {s : Value} {bs : List Bool} (h : MineT w s bs V)
include h
theorem mine_set (x : Int) : Calls Try.prog 12 #[s, .int .i64 x] V fun e w' => e = .returned (.bool (setOk bs x)) ∧ MineT w s (setB bs x) w' := by
  obtain ⟨h1, F, h2, h3⟩ := h
  exact (set_any h2 x).mono fun e w' hp => MineT.post h1 h3 hp
theorem mine_clr (x : Int) : Calls Try.prog 14 #[s, .int .i64 x] V fun e w' => e = .returned (.bool (clrOk bs x)) ∧ MineT w s (clrB bs x) w' := by
  obtain ⟨h1, F, h2, h3⟩ := h
  exact (clr_any h2 x).mono fun e w' hp => MineT.post h1 h3 hp
theorem mine_wipe : Calls Try.prog 16 #[s] V fun e w' => e = .returned (.tuple #[]) ∧ MineT w s (wipeB bs) w' := by
  obtain ⟨h1, F, h2, h3⟩ := h
  exact (wipe_any h2).mono fun e w' hp => MineT.post h1 h3 hp
theorem mine_size (x : Int) : Calls Try.prog 17 #[s, .int .i64 x] V fun e w' => e = .returned (.tuple #[]) ∧ MineT w s (sizeB bs x) w' := by
  obtain ⟨h1, F, h2, h3⟩ := h
  exact (size_any h2 x).mono fun e w' hp => MineT.post h1 h3 hp
theorem mine_next (x n : Int) (hx : IntIn x) (hn : IntIn n) : Calls Try.prog 21 #[s, .int .i64 x, .int .i64 n] V fun e w' => e = .returned (.int .i64 (nextV bs x n : Nat)) ∧ MineT w s bs w' ∧ Below V.heap.size V w' := by
  obtain ⟨h1, F, h2, h3⟩ := id h
  exact (next_any h2 x n hx hn).mono fun e w' ⟨he, hb⟩ => ⟨he, h.old hb, hb⟩
theorem mine_prev (x n : Int) (hx : IntIn x) (hn : IntIn n) : Calls Try.prog 23 #[s, .int .i64 x, .int .i64 n] V fun e w' => e = .returned (.int .i64 (prevV bs x n : Nat)) ∧ MineT w s bs w' ∧ Below V.heap.size V w' := by
  obtain ⟨h1, F, h2, h3⟩ := id h
  exact (prev_any h2 x n hx hn).mono fun e w' ⟨he, hb⟩ => ⟨he, h.old hb, hb⟩
theorem mine_all (most : Nat) (h1 : 1 ≤ most) (h2 : most ≤ 100000) : Calls Try.prog 20 #[s, .int .i64 (most : Int)] V fun e w' => ∃ v, e = .returned v ∧ OwnI w' V.heap.size v ((stL bs).take most) ∧ MineT w s bs w' ∧ Below V.heap.size V w' := by
  obtain ⟨_, F, hst, _⟩ := id h
  have h3 := st_len bs
  have h4 := h.len.2
  exact (all_any s (stL bs) most V (by omega) h1 h2 V.heap.size (by omega) (every_any hst)).mono fun e w' ⟨v, he, ho, hb⟩ => ⟨v, he, ho, h.old hb, hb⟩
end
end Go.Proofs.Ytfkiihddcinckaa.Tb
