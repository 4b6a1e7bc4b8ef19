/- A table of numbers that came in, opened. -/
import Derived.ProofKit
import Derived.Deep.Slices
import Derived.Test.YtfekjlajagoooaaDoorEpQ
namespace Go.Proofs.YtfekjlajagoooaaDoor
open Go.RowKit

/-- As Grid, of any kind of numbers, each within its kind. -/
def GridK (K : IntKind) (w : World) (B : Nat) (A : Option Addr) (n : Nat) (L : Nat → Nat) (T : Nat → Nat → Int) : Prop :=
  0 < n → ∃ a, A = some a ∧ a.block < B ∧ ∀ r, r < n → ∃ A' C, w.cell? (a.add r) = some (.slice A' (L r) C) ∧ L r ≤ 9223372036854775807 ∧ ∀ c, c < L r → ∃ a', A' = some a' ∧ a'.block < B ∧ w.cell? (a'.add c) = some (.int K (T r c)) ∧ (Lit.int K (T r c)).wf = true

theorem open_gridK {H : Type} {enc : TypeId × Value → H} {P : Program} {W : World} {K : IntKind} {t e q : TypeId} (ht : P.underlying t = some (.slice e)) (he : P.underlying e = some (.slice q)) (hq : P.underlying q = some (.int K)) (ce : P.cellsOf e = 1) (cq : P.cellsOf q = 1)
    {A : Option Addr} {len cap : Nat} {d : DataW H} {p : List MemPlace} (h : DataW.Trod enc P W 0 (fun _ => true) true t (.slice A len cap) d p) :
    ∃ (L : Nat → Nat) (T : Nat → Nat → Int), len ≤ 9223372036854775807 ∧ GridK K W W.heap.size A len L T := by
  obtain ⟨fuel, hf⟩ := h
  rcases Deep.open_slice1 ht ce hf with ⟨hcs, _⟩ | ⟨a, l', c', m, n, V, D, Pl, hcs, _, hl, hm, hmm, _, hx⟩
  · simp [Value.cells] at hcs
    obtain ⟨rfl, rfl, rfl⟩ := hcs
    exact ⟨fun _ => 0, fun _ _ => 0, by omega, fun h => by omega⟩
  · simp [Value.cells] at hcs
    obtain ⟨rfl, rfl, rfl⟩ := hcs
    simp only [if_true] at hmm
    unfold maxLen at hm
    have each : ∀ r, r < m → ∃ y : Option Addr × Nat × Nat × (Nat → Int), V r = .slice y.1 y.2.1 y.2.2.1 ∧ y.2.1 ≤ 9223372036854775807 ∧ ∀ c, c < y.2.1 → ∃ a', y.1 = some a' ∧ W.cell? (a'.add c) = some (.int K (y.2.2.2 c)) ∧ (Lit.int K (y.2.2.2 c)).wf = true := by
      intro r hr
      rcases Deep.open_slice1 he cq (hx r hr).2 with ⟨hcs, _⟩ | ⟨a', l1, c1, m1, n1, V1, D1, P1, hcs, _, hl1, hm1, hmm1, _, hx1⟩
      · exact ⟨(none, 0, 0, fun _ => 0), by simpa using hcs, Nat.zero_le _, fun c hc => by cases hc⟩
      · simp only [if_true] at hmm1
        unfold maxLen at hm1
        obtain ⟨B, hB⟩ := Deep.choose_lt (α := Int) (n := m1) (p := fun i b => V1 i = .int K b ∧ (Lit.int K b).wf = true) (fun i hi => by
          obtain ⟨b, h1, _, h3⟩ := DataW.trod_int hq (hx1 i hi).2
          exact ⟨b, by simpa using h1, h3⟩)
        refine ⟨(some a', l1, c1, B), by simpa using hcs, by show l1 ≤ _; omega, fun c hc => ⟨a', rfl, ?_, ?_⟩⟩
        · have hc' : c < l1 := hc
          rw [(hx1 c (by omega)).1, (hB c (by omega)).1]
        · have hc' : c < l1 := hc
          exact (hB c (by omega)).2
    obtain ⟨y, hy⟩ := Deep.choose_lt each
    refine ⟨fun r => (y r).2.1, fun r => (y r).2.2.2, by omega, fun hp => ⟨a, rfl, ?_, fun r hr => ?_⟩⟩
    · have := cell_lt (hx 0 (by omega)).1
      rwa [P7.add_block] at this
    · obtain ⟨e1, e2, e3⟩ := hy r (by omega)
      refine ⟨_, _, by rw [(hx r (by omega)).1, e1], e2, fun c hc => ?_⟩
      obtain ⟨a', h1, h2, h3⟩ := e3 c hc
      refine ⟨a', h1, ?_, h2, h3⟩
      have := cell_lt h2
      rwa [P7.add_block] at this

theorem open_gridW {H : Type} {enc : TypeId × Value → H} {P : Program} {W : World} {t e q : TypeId} (ht : P.underlying t = some (.slice e)) (he : P.underlying e = some (.slice q)) (hq : P.underlying q = some (.int .i64)) (ce : P.cellsOf e = 1) (cq : P.cellsOf q = 1)
    {A : Option Addr} {len cap : Nat} {d : DataW H} {p : List MemPlace} (h : DataW.Trod enc P W 0 (fun _ => true) true t (.slice A len cap) d p) :
    ∃ (L : Nat → Nat) (T : Nat → Nat → Int), len ≤ 9223372036854775807 ∧ GridW W A len L T := by
  obtain ⟨L, T, h1, h2⟩ := open_gridK ht he hq ce cq h
  refine ⟨L, T, h1, fun r hr => ?_⟩
  obtain ⟨a, e, _, hx⟩ := h2 (by omega)
  obtain ⟨A', C, hc, hl, hy⟩ := hx r hr
  refine ⟨a, A', C, e, hc, hl, fun c hcl => ?_⟩
  obtain ⟨a', e', _, hc', _⟩ := hy c hcl
  exact ⟨a', e', hc'⟩
end Go.Proofs.YtfekjlajagoooaaDoor
