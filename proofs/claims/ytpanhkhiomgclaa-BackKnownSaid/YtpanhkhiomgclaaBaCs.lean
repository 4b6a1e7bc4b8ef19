/- Layer 14: a back of texts of the call's own, from call to call. -/
import Derived.Test.YtpanhkhiomgclaaBaK
import Derived.Test.YtpanhkhiomgclaaBaS9
set_option linter.unusedVariables false
namespace Go.Proofs.Ytpanhkhiomgclaa.Ba
open Go.RowKit

abbrev noText : ByteArray := Tx.noText
abbrev putVS (M : Nat) (L : List ByteArray) (x : ByteArray) : List ByteArray := Tx.putV M L x
abbrev lastVS (L : List ByteArray) (n : Int) : List ByteArray := Tx.lastV L n
/-- A slice of texts that reads so. -/
abbrev LiesS (w : World) (u : Value) (l : List ByteArray) : Prop := Tx.LiesI w u l
def MineS (w V : World) (s : Value) (M G : Nat) (L : List ByteArray) : Prop := Below w.heap.size w V ∧ Tx.BkAt V s M G L ∧ ∀ k, Tx.BkOwn V s k → w.heap.size ≤ k
namespace MineS
variable {w V U : World} {s : Value} {M G M' G' : Nat} {L L' : List ByteArray}
theorem ptr (h : MineS w V s M G L) : ∃ p, s = .pointer (some ⟨p, 0, none⟩) := h.2.1.ptr
theorem below (h : MineS w V s M G L) : Below w.heap.size w V := h.1
theorem old (h : MineS w V s M G L) (hb : Below V.heap.size V U) : MineS w U s M G L := by
  obtain ⟨h1, h2, h3⟩ := h
  have hk := h2.keep (fun k hk => hb.block k (h2.lt k hk)) hb.size
  exact ⟨h1.trans (hb.mono h1.size), hk.1, fun k hk' => h3 k (hk.2 k hk')⟩
theorem turn (h : MineS w V s M G L) (ht : Tx.TurnB s V U) (h2 : Tx.BkAt U s M' G' L') : MineS w U s M' G' L' := by
  obtain ⟨h1, _, h3⟩ := h
  refine ⟨h1.trans ⟨ht.os, ht.tape, ht.output, ht.size, fun k hk => ht.block k (Nat.lt_of_lt_of_le hk h1.size) (fun hf => absurd (h3 k hf) (by omega))⟩, h2, fun k hk => ?_⟩
  rcases ht.own k hk with h | h
  · exact h3 k h
  · exact Nat.le_trans h1.size h
end MineS
theorem newS_any (m : Nat) (w : World) (hm : m ≤ 500) : Calls Try.prog 23 #[.int .i64 (m : Int)] w fun e w' => ∃ s, e = .returned (.tuple #[s, .int .i64 0]) ∧ MineS w w' s m 0 [] :=
  (Tx.new_any (m : Int) w ⟨by omega, by omega⟩).mono fun e w' ⟨h1, h2⟩ => by
    rw [if_pos (by unfold newB; simp; omega), Int.toNat_natCast] at h2
    obtain ⟨s, he, ha, ho⟩ := h2
    exact ⟨s, he, h1, ha, ho⟩
section
variable {w V : World} {s : Value} {M G : Nat} {L : List ByteArray} (h : MineS w V s M G L)
include h
theorem putS_any (x : ByteArray) (hG : G ≤ 1000000) : Calls Try.prog 24 #[s, .string x] V fun e w' => e = .returned (.bool (decide (M < L.length + 1))) ∧ MineS w w' s M (if M < L.length + 1 then G + 1 else G) (putVS M L x) := (Tx.put_any h.2.1 x hG).mono fun e w' ⟨he, ha, ht⟩ => ⟨he, h.turn ht ha⟩
theorem popS_any : Calls Try.prog 29 #[s] V fun e w' => e = .returned (.tuple #[.string (L.getD (L.length - 1) noText), .bool (decide (0 < L.length))]) ∧ MineS w w' s M G L.dropLast := (Tx.pop_any h.2.1).mono fun e w' ⟨he, ha, ht⟩ => ⟨he, h.turn ht ha⟩
theorem atS_any (i : Int) (hi : IntIn i) : Calls Try.prog 27 #[s, .int .i64 i] V fun e w' => e = .returned (.tuple #[.string (if 0 ≤ i ∧ i < L.length then L.getD i.toNat noText else noText), .bool (decide (0 ≤ i) && decide (i < L.length))]) ∧ MineS w w' s M G L := (Tx.at_any h.2.1 i hi).mono fun e w' ⟨he, hb⟩ => ⟨he, h.old hb⟩
theorem lastS_any (n : Int) (hn : IntIn n) : Calls Try.prog 28 #[s, .int .i64 n] V fun e w' => ∃ A c, e = .returned (.slice A (lastVS L n).length c) ∧ LiesS w' (.slice A (lastVS L n).length c) (lastVS L n) ∧ MineS w w' s M G L := (Tx.last_any h.2.1 n hn).mono fun e w' ⟨v, he, ho, hb⟩ => by
  obtain ⟨A, c, rfl⟩ := Tx.ownI_slice ho
  exact ⟨A, c, he, Tx.ownI_lies ho, h.old hb⟩
theorem lenS_any : Calls Try.prog 25 #[s] V fun e w' => e = .returned (.int .i64 (L.length : Int)) ∧ MineS w w' s M G L := (Tx.len_any h.2.1).mono fun e w' ⟨he, hb⟩ => ⟨he, h.old hb⟩
theorem goneS_any : Calls Try.prog 26 #[s] V fun e w' => e = .returned (.int .i64 (G : Int)) ∧ MineS w w' s M G L := (Tx.gone_any h.2.1).mono fun e w' ⟨he, hb⟩ => ⟨he, h.old hb⟩
end
end Go.Proofs.Ytpanhkhiomgclaa.Ba
