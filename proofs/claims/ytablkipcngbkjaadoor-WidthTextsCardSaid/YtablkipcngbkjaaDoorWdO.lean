/- Layer 9: a slice of characters that came in, opened. -/
import Derived.Test.YtablkipcngbkjaaDoorWdB
import Derived.ProofKit
import Derived.Deep.Slices
namespace Go.Proofs.YtablkipcngbkjaaDoor
open Go.RowKit Wid

theorem open_runesIn {H : Type} {enc : TypeId × Value → H} {P : Program} {W : World} {t q : TypeId} (ht : P.underlying t = some (.slice q)) (hq : P.underlying q = some (.int .i32)) (cq : P.cellsOf q = 1)
    {A : Option Addr} {len cap : Nat} {d : DataW H} {p : List MemPlace} (h : DataW.Trod enc P W 0 (fun _ => true) true t (.slice A len cap) d p) :
    ∃ X : List Int, len ≤ 9223372036854775807 ∧ (len ≤ cap ∧ (A = none → cap = 0)) ∧ len = X.length ∧ RunesAt W W.heap.size A X := by
  obtain ⟨fuel, hf⟩ := h
  rcases Deep.open_slice1 ht cq hf with ⟨hcs, _⟩ | ⟨a, l', c', m, n, V, D, Pl, hcs, hb, hl, hm, hmm, _, hx⟩
  · simp [Value.cells] at hcs
    obtain ⟨rfl, rfl, rfl⟩ := hcs
    exact ⟨[], by omega, ⟨by omega, fun _ => rfl⟩, rfl, fun h => by simp at h⟩
  · simp [Value.cells] at hcs
    obtain ⟨rfl, rfl, rfl⟩ := hcs
    simp only [if_true] at hmm
    unfold maxLen at hm
    have each : ∀ r, r < m → ∃ b : Int, V r = .int .i32 b := by
      intro r hr
      obtain ⟨b, h1, _, _⟩ := DataW.trod_int hq (hx r hr).2
      exact ⟨b, by simpa using h1⟩
    obtain ⟨y, hy⟩ := Deep.choose_lt each
    refine ⟨(List.range len).map y, by omega, ⟨by omega, fun h => by cases h⟩, by simp, fun hp => ?_⟩
    have hp : 0 < len := by simpa using hp
    have hc0 := (hx 0 (by omega)).1
    have hs : a = ⟨a.block, a.off, none⟩ := by
      have := World.cell?_spot hc0
      obtain ⟨b, o, s⟩ := a
      cases s with
      | none => rfl
      | some q => simp [Addr.add] at this
    have hlt : a.block < W.heap.size := by
      rw [hs, add_off] at hc0
      rcases Nat.lt_or_ge a.block W.heap.size with hl | hg
      · exact hl
      · simp [World.cell?, Array.getElem?_eq_none hg] at hc0
    refine ⟨a.block, a.off, congrArg some hs, hlt, fun i hi => ?_⟩
    have hi' : i < len := by simpa using hi
    have := (hx i (by omega)).1
    rw [hy i (by omega), hs, add_off] at this
    rw [this]
    simp
end Go.Proofs.YtablkipcngbkjaaDoor
