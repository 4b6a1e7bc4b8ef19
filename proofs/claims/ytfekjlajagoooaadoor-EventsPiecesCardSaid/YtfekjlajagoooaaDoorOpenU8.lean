/- A slice of bytes that came in, opened. -/
import Derived.Test.YtfekjlajagoooaaDoorEpPie
import Derived.ProofKit
import Derived.Deep.Slices
namespace Go.Proofs.YtfekjlajagoooaaDoor
open Go.RowKit

theorem open_u8sIn {H : Type} {enc : TypeId × Value → H} {P : Program} {W : World} {t q : TypeId} (ht : P.underlying t = some (.slice q)) (hq : P.underlying q = some (.int .u8)) (cq : P.cellsOf q = 1)
    {A : Option Addr} {len cap : Nat} {d : DataW H} {p : List MemPlace} (h : DataW.Trod enc P W 0 (fun _ => true) true t (.slice A len cap) d p) :
    ∃ X : Nat → Nat, len ≤ 9223372036854775807 ∧ U8sIn W W.heap.size A len X := by
  obtain ⟨fuel, hf⟩ := h
  rcases Deep.open_slice1 ht cq hf with ⟨hcs, _⟩ | ⟨a, l', c', m, n, V, D, Pl, hcs, _, hl, hm, hmm, _, hx⟩
  · simp [Value.cells] at hcs
    obtain ⟨rfl, rfl, rfl⟩ := hcs
    exact ⟨fun _ => 0, by omega, fun h => by omega⟩
  · simp [Value.cells] at hcs
    obtain ⟨rfl, rfl, rfl⟩ := hcs
    simp only [if_true] at hmm
    unfold maxLen at hm
    have each : ∀ r, r < m → ∃ b : Nat, V r = .int .u8 (b : Int) ∧ b < 256 := by
      intro r hr
      obtain ⟨b, h1, _, h3⟩ := DataW.trod_int hq (hx r hr).2
      have hb : 0 ≤ b ∧ b < 256 := by
        simp [Lit.wf, IntKind.min, IntKind.max, IntKind.signed, IntKind.bits] at h3
        omega
      exact ⟨b.toNat, by have : V r = .int .u8 b := by simpa using h1
                         rw [this, Int.toNat_of_nonneg hb.1], by omega⟩
    obtain ⟨y, hy⟩ := Deep.choose_lt each
    refine ⟨y, by omega, fun hp => ?_⟩
    have hc0 := (hx 0 (by omega)).1
    rw [(hy 0 (by omega)).1] at hc0
    have hs := spot_none hc0
    refine ⟨a.block, a.off, by rw [← hs], ?_, fun i hi => ⟨?_, (hy i (by omega)).2⟩⟩
    · have := cell_lt hc0
      unfold Addr.add at this
      simpa using this
    · have := (hx i (by omega)).1
      rw [(hy i (by omega)).1, hs] at this
      rwa [P7.add_off] at this
end Go.Proofs.YtfekjlajagoooaaDoor
