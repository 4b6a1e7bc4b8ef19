/- A table of bools that came in, opened. -/
import Derived.Test.YtjfonbkeamhnmaaLatE
import Derived.ProofKit
import Derived.Deep.Grids
namespace Go.Proofs.Ytjfonbkeamhnmaa
open Go.RowKit Lat

theorem lt_of_cell {w : World} {a : Addr} {v : Value} (h : w.cell? a = some v) : a.block < w.heap.size := by
  rcases Nat.lt_or_ge a.block w.heap.size with hlt | hge
  · exact hlt
  · simp [World.cell?, Array.getElem?_eq_none hge] at h

theorem open_grid {H : Type} {enc : TypeId × Value → H} {P : Program} {W : World} {t e q : TypeId} (ht : P.underlying t = some (.slice e)) (he : P.underlying e = some (.slice q)) (hq : P.underlying q = some .bool) (ce : P.cellsOf e = 1) (cq : P.cellsOf q = 1)
    {A : Option Addr} {len cap : Nat} {d : DataW H} {p : List MemPlace} (h : DataW.Trod enc P W 0 (fun _ => true) true t (.slice A len cap) d p) :
    ∃ (L : Nat → Nat) (T : Nat → Nat → Bool), len ≤ 9223372036854775807 ∧ Grid W W.heap.size A len L T := by
  obtain ⟨fuel, hf⟩ := h
  rcases Deep.open_bool_rows ht he hq ce cq hf with ⟨hcs, _⟩ | ⟨a, len', cap', A', L, C, B, hcs, _, hl, hm, _, hcell⟩
  · simp [Value.cells] at hcs
    obtain ⟨rfl, rfl, rfl⟩ := hcs
    exact ⟨fun _ => 0, fun _ _ => false, by omega, fun h => by omega⟩
  · simp [Value.cells] at hcs
    obtain ⟨rfl, rfl, rfl⟩ := hcs
    unfold maxLen at hm
    refine ⟨L, B, by omega, fun hp => ⟨a, rfl, ?_, fun r hr => ?_⟩⟩
    · have := lt_of_cell (hcell 0 (by omega)).1
      rwa [add_block] at this
    · obtain ⟨h1, h2, h3, _, h5⟩ := hcell r (by omega)
      unfold maxLen at h3
      refine ⟨_, _, h1, by omega, fun c hc => ?_⟩
      cases ha : A' r with
      | none => rename_i h4; have := h4 ha; omega
      | some a' =>
        have hx := (h5 a' ha).2 c (by omega)
        refine ⟨a', rfl, ?_, hx⟩
        have := lt_of_cell hx
        rwa [add_block] at this
end Go.Proofs.Ytjfonbkeamhnmaa
