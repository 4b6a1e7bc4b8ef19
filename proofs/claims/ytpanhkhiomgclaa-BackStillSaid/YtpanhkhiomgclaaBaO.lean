/- Layer 14: a []int that came in, opened as a list that lies somewhere. -/
import Derived.Test.YtpanhkhiomgclaaBaI
import Derived.ProofKit
import Derived.OpenShut
import Derived.ChangeSlices
import Derived.ChangeOld
import Derived.Deep.Fields
import Derived.Deep.Slices
import Derived.ChangeSame
set_option linter.unusedVariables false
namespace Go.Proofs.Ytpanhkhiomgclaa.Ba
open Go.RowKit Go.Joins Go.ChangeShapes Go.WideShapes Go.Deep

theorem open_lies {H : Type} {enc : TypeId × Value → H} {W : World} {A : Option Addr} {len cap : Nat} {d : DataW H} {p : List MemPlace} (h : DataW.Trod enc Try.prog W 0 (fun _ => true) true 22 (.slice A len cap) d p) :
    ∃ l : List Int, LiesI W (.slice A len cap) l ∧ ∀ k, k < l.length → IntIn (l.getD k 0) := by
  obtain ⟨fuel, h⟩ := h
  rcases open_ints Try.underlying22 Try.underlying3 (by kernel_rfl) h with ⟨h0, _⟩ | ⟨a, l, c, zs, h0, hb, hl, hm, hz, _, hr, hw⟩
  · simp only [Value.cells] at h0
    injection h0 with h0
    injection h0 with h1 h2 h3
    subst h1 h2 h3
    exact ⟨[], liesI_nil W, fun k hk => absurd hk (by simp)⟩
  · simp only [Value.cells] at h0
    injection h0 with h0
    injection h0 with h1 h2 h3
    subst h1 h2 h3
    have hm' : cap ≤ 9223372036854775807 := by unfold maxLen at hm; omega
    have hlz : len ≤ zs.length := by rw [hz]; split <;> omega
    have hll : (zs.take len).length = len := by rw [List.length_take]; omega
    have hget : ∀ k, k < len → (zs.take len).getD k 0 = zs.getD k 0 := fun k hk => by
      rw [List.getD_eq_getElem?_getD, List.getD_eq_getElem?_getD, List.getElem?_take, if_pos hk]
    refine ⟨zs.take len, ⟨some a, cap, by rw [hll], fun e => (by cases e), by omega, fun hn => ?_⟩, fun k hk => ?_⟩
    · rw [hll] at hn
      have hr0 := hr 0 (by omega)
      obtain ⟨b, o, s⟩ := a
      have hs : s = none := by simpa [Addr.add] using World.cell?_spot hr0
      subst hs
      refine ⟨b, o, rfl, ?_, fun k hk => ?_⟩
      · rcases Nat.lt_or_ge b W.heap.size with h | h
        · exact h
        · simp [World.cell?, Addr.add, Array.getElem?_eq_none h] at hr0
      · rw [hll] at hk
        have := hr k (by omega)
        rw [hget k hk, ← add_oo]
        exact this
    · rw [hll] at hk
      rw [hget k hk]
      have hmem : zs.getD k 0 ∈ zs := by
        rw [List.getD_eq_getElem?_getD, List.getElem?_eq_getElem (by omega)]
        simp
      exact bounds_i64 (hw _ hmem)
end Go.Proofs.Ytpanhkhiomgclaa.Ba
