/- Layer 14: a back of the call's own, from call to call. -/
import Derived.Test.YtpanhkhiomgclaaBaR
set_option linter.unusedVariables false
namespace Go.Proofs.Ytpanhkhiomgclaa.Ba
open Go.RowKit

/-- Everything that may turn at it lies above the world w. -/
def MineB (w V : World) (s : Value) (M G : Nat) (L : List Int) : Prop := Below w.heap.size w V ∧ BkAt V s M G L ∧ ∀ k, BkOwn V s k → w.heap.size ≤ k
theorem in_small {n : Int} (h1 : -1000000 ≤ n) (h2 : n ≤ 1000000) : IntIn n := ⟨by omega, by omega⟩
namespace MineB
variable {w V U : World} {s : Value} {M G M' G' : Nat} {L L' : List Int}
theorem below (h : MineB w V s M G L) : Below w.heap.size w V := h.1
theorem old (h : MineB w V s M G L) (hb : Below V.heap.size V U) : MineB w U s M G L := by
  obtain ⟨h1, h2, h3⟩ := h
  have hk := h2.keep (fun k hk => hb.block k (h2.lt k hk)) hb.size
  exact ⟨h1.trans (hb.mono h1.size), hk.1, fun k hk' => h3 k (hk.2 k hk')⟩
theorem turn (h : MineB w V s M G L) (ht : TurnB s V U) (h2 : BkAt U s M' G' L') : MineB w U s M' G' L' := by
  obtain ⟨h1, _, h3⟩ := h
  refine ⟨h1.trans ⟨ht.os, ht.tape, ht.output, ht.size, fun k hk => ht.block k (Nat.lt_of_lt_of_le hk h1.size) (fun hf => absurd (h3 k hf) (by omega))⟩, h2, fun k hk => ?_⟩
  rcases ht.own k hk with h | h
  · exact h3 k h
  · exact Nat.le_trans h1.size h
/-- What lies below w stays. -/
theorem cap (h : MineB w V s M G L) : L.length ≤ M ∧ M ≤ 500 := h.2.1.cap
theorem ptr (h : MineB w V s M G L) : ∃ p, s = .pointer (some ⟨p, 0, none⟩) := h.2.1.ptr
end MineB
theorem mine_new {m : Int} {w V : World} (hm : newB m = true) (hb : Below w.heap.size w V) {e : Ending} {w' : World} (h : NewPost V m e w') : ∃ s, e = .returned (.tuple #[s, .int .i64 0]) ∧ MineB w w' s m.toNat 0 [] := by
  obtain ⟨h1, h2⟩ := h
  rw [if_pos hm] at h2
  obtain ⟨s, he, ha, ho⟩ := h2
  exact ⟨s, he, hb.trans (h1.mono hb.size), ha, fun k hk => Nat.le_trans hb.size (ho k hk)⟩
section
variable {w V : World} {s : Value} {M G : Nat} {L : List Int} (h : MineB w V s M G L)
include h
theorem mine_put (x : Int) (hG : G ≤ 1000000) : Calls Try.prog 10 #[s, .int .i64 x] V fun e w' => e = .returned (.bool (putB M L)) ∧ MineB w w' s M (goneV M L G) (putV M L x) ∧ TurnB s V w' := (put_any h.2.1 x hG).mono fun e w' ⟨he, ha, ht⟩ => ⟨he, h.turn ht ha, ht⟩
theorem mine_pop : Calls Try.prog 12 #[s] V fun e w' => e = .returned (.tuple #[.int .i64 (popX L), .bool (someB L)]) ∧ MineB w w' s M G L.dropLast ∧ TurnB s V w' := (pop_any h.2.1).mono fun e w' ⟨he, ha, ht⟩ => ⟨he, h.turn ht ha, ht⟩
theorem mine_clear : Calls Try.prog 21 #[s] V fun e w' => e = .returned (.tuple #[]) ∧ MineB w w' s M G [] ∧ TurnB s V w' := (clear_any h.2.1).mono fun e w' ⟨he, ha, ht⟩ => ⟨he, h.turn ht ha, ht⟩
theorem mine_at (i : Int) (hi : IntIn i) : Calls Try.prog 14 #[s, .int .i64 i] V fun e w' => e = .returned (.tuple #[.int .i64 (atX L i), .bool (atB L i)]) ∧ MineB w w' s M G L ∧ Below V.heap.size V w' := (at_any h.2.1 i hi).mono fun e w' ⟨he, hb⟩ => ⟨he, h.old hb, hb⟩
theorem mine_last (n : Int) (hn : IntIn n) : Calls Try.prog 18 #[s, .int .i64 n] V fun e w' => ∃ A c, e = .returned (.slice A (lastV L n).length c) ∧ OwnI w' V.heap.size (.slice A (lastV L n).length c) (lastV L n) ∧ MineB w w' s M G L ∧ Below V.heap.size V w' := (last_any h.2.1 n hn).mono fun e w' ⟨v, he, ho, hb⟩ => by
  obtain ⟨A, c, rfl⟩ := ownI_slice ho
  exact ⟨A, c, he, ho, h.old hb, hb⟩
theorem mine_len : Calls Try.prog 15 #[s] V fun e w' => e = .returned (.int .i64 (L.length : Int)) ∧ MineB w w' s M G L ∧ Below V.heap.size V w' := (len_any h.2.1).mono fun e w' ⟨he, hb⟩ => ⟨he, h.old hb, hb⟩
theorem mine_gone : Calls Try.prog 16 #[s] V fun e w' => e = .returned (.int .i64 (G : Int)) ∧ MineB w w' s M G L ∧ Below V.heap.size V w' := (gone_any h.2.1).mono fun e w' ⟨he, hb⟩ => ⟨he, h.old hb, hb⟩
theorem mine_all (most : Nat) (h1 : 1 ≤ most) (h2 : most ≤ 100000) : Calls Try.prog 20 #[s, .int .i64 (most : Int)] V fun e w' => ∃ A c, e = .returned (.slice A (L.take most).length c) ∧ OwnI w' V.heap.size (.slice A (L.take most).length c) (L.take most) ∧ MineB w w' s M G L ∧ Below V.heap.size V w' :=
  (all_any s L most V (by have := h.cap; omega) h1 h2 (fun U hU => All_any (h.old hU).2.1)).mono fun e w' ⟨v, he, ho, hb⟩ => by
    obtain ⟨A, c, rfl⟩ := ownI_slice ho
    exact ⟨A, c, he, ho, h.old hb, hb⟩
end
theorem lit_ints (w : World) (l : List Int) (h : l.length ≤ 1000) : LiesI (w.alloc (.cells (intsC l).toArray 3)) (.slice (some ⟨w.heap.size, 0, none⟩) l.length l.length) l :=
  ⟨_, l.length, rfl, fun e => (by cases e), by omega, fun _ => ⟨w.heap.size, 0, rfl, by simp, fun k hk => by
    rw [cell_of (heap_new w _), Nat.zero_add]
    simpa using ints_get l k hk⟩⟩
end Go.Proofs.Ytpanhkhiomgclaa.Ba
