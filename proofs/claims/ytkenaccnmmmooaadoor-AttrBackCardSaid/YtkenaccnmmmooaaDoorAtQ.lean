/- Layer 10: an attribute and a list of parameters that came in, opened. -/
import Derived.Test.YtkenaccnmmmooaaDoorAtAX
import Derived.ProofKit
import Derived.WideShapes
import Derived.Deep.Slices
import Derived.Lib.SmallJoins
set_option linter.unusedVariables false
namespace Go.Proofs.YtkenaccnmmmooaaDoor.A10
open Go.RowKit Go.WideShapes Sgr

theorem five_of {cs : Array Value} (h : cs.size = 5) : ∃ c0 c1 c2 c3 c4, cs = #[c0, c1, c2, c3, c4] := by
  obtain ⟨l⟩ := cs
  match l, h with
  | [c0, c1, c2, c3, c4], _ => exact ⟨c0, c1, c2, c3, c4, rfl⟩
theorem wf_nat {K : IntKind} {x : Int} (h : (Lit.int K x).wf = true) (hK : K = .u8 ∨ K = .u16 ∨ K = .u32) : ∃ n : Nat, x = n ∧ (K = .u8 → n < 256) ∧ (K = .u16 → n < 65536) ∧ (K = .u32 → n < 4294967296) := by
  rcases hK with rfl | rfl | rfl
  · have := bounds_u8 h
    exact ⟨x.toNat, by omega, fun _ => (by omega), fun h => (by cases h), fun h => (by cases h)⟩
  · have := bounds_u16 h
    exact ⟨x.toNat, by omega, fun h => (by cases h), fun _ => (by omega), fun h => (by cases h)⟩
  · have := bounds_u32 h
    exact ⟨x.toNat, by omega, fun h => (by cases h), fun h => (by cases h), fun _ => by omega⟩
set_option maxRecDepth 100000 in
theorem open_attr {H : Type} {enc : TypeId × Value → H} {W : World} {r : Reach} {b0 base : Nat} {spare : Nat → Bool} {held : Bool} {v : Value} {d : DataW H} {p : List MemPlace} (hv : Value.okWide Tryd.prog W r b0 27 v) (h : DataW.Trod enc Tryd.prog W base spare held 27 v d p) : ∃ a : At, v = atA a ∧ AtOk a := by
  obtain ⟨cs, rfl, hsz⟩ := okWide_struct Tryd.underlying27 hv
  obtain ⟨c0, c1, c2, c3, c4, rfl⟩ := five_of (hsz.trans (by kernel_rfl))
  obtain ⟨fuel, hf⟩ := h
  obtain ⟨xs, n, rfl, _, _, hxl, hall⟩ := DataW.trod_struct Tryd.underlying27 hf
  have col : ∀ (m : Nat) (c c' : Value) (y : DataW H × List MemPlace), DataW.trod enc Tryd.prog W base spare held m 25 [c, c'] = some y → ∃ z : Co, c = .int .u8 z.kind ∧ c' = .int .u32 z.n ∧ CoOk z := by
    intro m c c' y hy
    obtain ⟨ys, n', rfl, _, _, hyl, hal⟩ := DataW.trod_struct Tryd.underlying25 hy
    have hyl : ys.length = 2 := hyl
    have k0 := hal 0 _ rfl
    have k1 := hal 1 _ rfl
    rw [List.getElem?_eq_getElem (by omega)] at k0 k1
    have k0 : DataW.trod enc Tryd.prog W base spare held n' 5 [c] = some ys[0] := k0
    have k1 : DataW.trod enc Tryd.prog W base spare held n' 23 [c'] = some ys[1] := k1
    obtain ⟨x0, e0, _, w0⟩ := DataW.trod_int Tryd.underlying5 k0
    obtain ⟨x1, e1, _, w1⟩ := DataW.trod_int Tryd.underlying23 k1
    obtain ⟨n0, rfl, b0, _⟩ := wf_nat w0 (Or.inl rfl)
    obtain ⟨n1, rfl, _, _, b1⟩ := wf_nat w1 (Or.inr (Or.inr rfl))
    injection e0 with e0
    injection e1 with e1
    exact ⟨⟨n0, n1⟩, e0, e1, b0 rfl, b1 rfl⟩
  have hxl : xs.length = 3 := hxl
  have k0 := hall 0 _ rfl
  have k1 := hall 1 _ rfl
  have k2 := hall 2 _ rfl
  rw [List.getElem?_eq_getElem (by omega)] at k0 k1 k2
  have e1 : Tryd.prog.cellsOf 25 = 2 := by kernel_rfl
  have e0 : Tryd.prog.cellsOf 22 = 1 := by kernel_rfl
  have k0 : DataW.trod enc Tryd.prog W base spare held n 22 [c0] = some xs[0] := k0
  have k1 : DataW.trod enc Tryd.prog W base spare held n 25 [c1, c2] = some xs[1] := k1
  have k2 : DataW.trod enc Tryd.prog W base spare held n 25 [c3, c4] = some xs[2] := k2
  obtain ⟨x0, e0, _, w0⟩ := DataW.trod_int Tryd.underlying22 k0
  obtain ⟨n0, rfl, _, b0, _⟩ := wf_nat w0 (Or.inr (Or.inl rfl))
  obtain ⟨z1, rfl, rfl, o1⟩ := col _ _ _ _ k1
  obtain ⟨z2, rfl, rfl, o2⟩ := col _ _ _ _ k2
  injection e0 with e0
  subst e0
  exact ⟨⟨n0, z1, z2⟩, rfl, b0 rfl, o1, o2⟩

theorem part_map (n : Nat) (T : Nat → Int) {c : Nat} (h : c < n) : partV ((List.range n).map T) c = T c := by
  unfold partV
  rw [List.getD_eq_getElem?_getD, List.getElem?_map, List.getElem?_range h]
  rfl
set_option maxRecDepth 100000 in
theorem open_list {H : Type} {enc : TypeId × Value → H} {W : World} {A : Option Addr} {len cap : Nat} {d : DataW H} {p : List MemPlace} (h : DataW.Trod enc Tryd.prog W 0 (fun _ => true) true 31 (.slice A len cap) d p) :
    ∃ l : List (List Int), len = l.length ∧ len ≤ cap ∧ cap ≤ 9223372036854775807 ∧ TabL W A l := by
  obtain ⟨fuel, hf⟩ := h
  rcases Deep.open_slice1 Tryd.underlying31 (by kernel_rfl) hf with ⟨hcs, _⟩ | ⟨a, l', c', m, n, V, D, Pl, hcs, _, hl, hm, hmm, _, hx⟩
  · simp [Value.cells] at hcs
    obtain ⟨rfl, rfl, rfl⟩ := hcs
    exact ⟨[], rfl, Nat.le_refl _, by decide, fun r hr => absurd hr (Nat.not_lt_zero r)⟩
  · simp [Value.cells] at hcs
    obtain ⟨rfl, rfl, rfl⟩ := hcs
    simp only [if_true] at hmm
    unfold maxLen at hm
    have each : ∀ r, r < m → ∃ y : Option Addr × Nat × Nat × (Nat → Int), V r = .slice y.1 y.2.1 y.2.2.1 ∧ (y.2.1 ≤ y.2.2.1 ∧ y.2.2.1 ≤ 9223372036854775807) ∧ ∀ c, c < y.2.1 → ∃ a', y.1 = some a' ∧ W.cell? (a'.add c) = some (.int .i64 (y.2.2.2 c)) ∧ (Lit.int .i64 (y.2.2.2 c)).wf = true := by
      intro r hr
      rcases Deep.open_slice1 Tryd.underlying36 (by kernel_rfl) (hx r hr).2 with ⟨hcs, _⟩ | ⟨a', l1, c1, m1, n1, V1, D1, P1, hcs, _, hl1, hm1, hmm1, _, hx1⟩
      · exact ⟨(none, 0, 0, fun _ => 0), by simpa using hcs, ⟨Nat.le_refl _, by decide⟩, fun c hc => by cases hc⟩
      · simp only [if_true] at hmm1
        unfold maxLen at hm1
        obtain ⟨B, hB⟩ := Deep.choose_lt (α := Int) (n := m1) (p := fun i b => V1 i = .int .i64 b ∧ (Lit.int .i64 b).wf = true) (fun i hi => by
          obtain ⟨b, h1, _, h3⟩ := DataW.trod_int Tryd.underlying3 (hx1 i hi).2
          exact ⟨b, by simpa using h1, h3⟩)
        refine ⟨(some a', l1, c1, B), by simpa using hcs, ⟨hl1, by show c1 ≤ _; omega⟩, fun c hc => ⟨a', rfl, ?_, ?_⟩⟩
        · have hc' : c < l1 := hc
          rw [(hx1 c (by omega)).1, (hB c (by omega)).1]
        · have hc' : c < l1 := hc
          exact (hB c (by omega)).2
    obtain ⟨y, hy⟩ := Deep.choose_lt each
    refine ⟨(List.range len).map fun r => (List.range (y r).2.1).map (y r).2.2.2, by simp, hl, by omega, fun r hr => ?_⟩
    have hr' : r < len := by simpa using hr
    have er : ((List.range len).map fun r => (List.range (y r).2.1).map (y r).2.2.2).getD r [] = (List.range (y r).2.1).map (y r).2.2.2 := by
      rw [List.getD_eq_getElem?_getD, List.getElem?_map, List.getElem?_range hr']
      rfl
    obtain ⟨e1, e2, e3⟩ := hy r (by omega)
    rw [er]
    refine ⟨a, (y r).1, (y r).2.2.1, rfl, ?_, by simpa using e2, fun c hc => ?_⟩
    · rw [(hx r (by omega)).1, e1]
      simp
    · have hc' : c < (y r).2.1 := by simpa using hc
      obtain ⟨a', h1, h2, h3⟩ := e3 c hc'
      rw [part_map _ _ hc']
      have := bounds_i64 h3
      exact ⟨a', h1, h2, by omega, by omega⟩
end Go.Proofs.YtkenaccnmmmooaaDoor.A10
