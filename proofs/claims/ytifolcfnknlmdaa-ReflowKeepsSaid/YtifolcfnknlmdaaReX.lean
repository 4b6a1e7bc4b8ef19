/- Layer 15: lines that came in, opened. -/
import Derived.Test.YtifolcfnknlmdaaReA
import Derived.ProofKit
import Derived.WideShapes
import Derived.OpenShut
import Derived.Deep.Slices
import Derived.Lib.SmallJoins
set_option linter.unusedVariables false
namespace Go.Proofs.Ytifolcfnknlmdaa.Re
open Go.RowKit Go.WideShapes Go.Proofs.Ytifolcfnknlmdaa.Rw

instance : Inhabited LnC := ⟨noLn⟩
section
variable {H : Type} {enc : TypeId × Value → H} {W : World} {base : Nat} {spare : Nat → Bool} {held : Bool} {fuel : Nat} {x : DataW H × List MemPlace}
theorem wf_nat {K : IntKind} {x : Int} (h : (Lit.int K x).wf = true) (hK : K = .u8 ∨ K = .u16 ∨ K = .u32) : ∃ n : Nat, x = n := by
  rcases hK with rfl | rfl | rfl
  · have := bounds_u8 h; exact ⟨x.toNat, by omega⟩
  · have := bounds_u16 h; exact ⟨x.toNat, by omega⟩
  · have := bounds_u32 h; exact ⟨x.toNat, by omega⟩
theorem trod_color {c c' : Value} (hy : DataW.trod enc Try.prog W base spare held fuel 34 [c, c'] = some x) : ∃ k n : Nat, c = .int .u8 k ∧ c' = .int .u32 n := by
  obtain ⟨ys, n', rfl, _, _, hyl, hal⟩ := DataW.trod_struct Try.underlying34 hy
  have hyl : ys.length = 2 := hyl
  have k0 := hal 0 _ rfl
  have k1 := hal 1 _ rfl
  rw [List.getElem?_eq_getElem (by omega)] at k0 k1
  have k0 : DataW.trod enc Try.prog W base spare held n' 5 [c] = some ys[0] := k0
  have k1 : DataW.trod enc Try.prog W base spare held n' 32 [c'] = some ys[1] := k1
  obtain ⟨x0, e0, _, w0⟩ := DataW.trod_int Try.underlying5 k0
  obtain ⟨x1, e1, _, w1⟩ := DataW.trod_int Try.underlying32 k1
  obtain ⟨n0, rfl⟩ := wf_nat w0 (Or.inl rfl)
  obtain ⟨n1, rfl⟩ := wf_nat w1 (Or.inr (Or.inr rfl))
  injection e0 with e0
  injection e1 with e1
  exact ⟨n0, n1, e0, e1⟩
theorem trod_attr {c0 c1 c2 c3 c4 : Value} (hf : DataW.trod enc Try.prog W base spare held fuel 36 [c0, c1, c2, c3, c4] = some x) : ∃ a : Aa, c0 = .int .u16 a.fl ∧ c1 = .int .u8 a.fk ∧ c2 = .int .u32 a.fn ∧ c3 = .int .u8 a.bk ∧ c4 = .int .u32 a.bn := by
  obtain ⟨xs, n, rfl, _, _, hxl, hall⟩ := DataW.trod_struct Try.underlying36 hf
  have hxl : xs.length = 3 := hxl
  have k0 := hall 0 _ rfl
  have k1 := hall 1 _ rfl
  have k2 := hall 2 _ rfl
  rw [List.getElem?_eq_getElem (by omega)] at k0 k1 k2
  have k0 : DataW.trod enc Try.prog W base spare held n 31 [c0] = some xs[0] := k0
  have k1 : DataW.trod enc Try.prog W base spare held n 34 [c1, c2] = some xs[1] := k1
  have k2 : DataW.trod enc Try.prog W base spare held n 34 [c3, c4] = some xs[2] := k2
  obtain ⟨x0, e0, _, w0⟩ := DataW.trod_int Try.underlying31 k0
  obtain ⟨n0, rfl⟩ := wf_nat w0 (Or.inr (Or.inl rfl))
  obtain ⟨z1, z2, rfl, rfl⟩ := trod_color k1
  obtain ⟨z3, z4, rfl, rfl⟩ := trod_color k2
  injection e0 with e0
  exact ⟨⟨n0, z1, z2, z3, z4⟩, e0, rfl, rfl, rfl, rfl⟩
theorem seven_of {l : List Value} (h : l.length = 7) : ∃ c0 c1 c2 c3 c4 c5 c6, l = [c0, c1, c2, c3, c4, c5, c6] := by
  match l, h with
  | [c0, c1, c2, c3, c4, c5, c6], _ => exact ⟨c0, c1, c2, c3, c4, c5, c6, rfl⟩
theorem trod_cell {cs : List Value} (hl : cs.length = 7) (hf : DataW.trod enc Try.prog W base spare held fuel 38 cs = some x) : ∃ c : Ce, cs = cellsC c := by
  obtain ⟨c0, c1, c2, c3, c4, c5, c6, rfl⟩ := seven_of hl
  obtain ⟨xs, n, rfl, _, _, hxl, hall⟩ := DataW.trod_struct Try.underlying38 hf
  have hxl : xs.length = 3 := hxl
  have k0 := hall 0 _ rfl
  have k1 := hall 1 _ rfl
  have k2 := hall 2 _ rfl
  rw [List.getElem?_eq_getElem (by omega)] at k0 k1 k2
  have k0 : DataW.trod enc Try.prog W base spare held n 21 [c0] = some xs[0] := k0
  have k1 : DataW.trod enc Try.prog W base spare held n 5 [c1] = some xs[1] := k1
  have k2 : DataW.trod enc Try.prog W base spare held n 36 [c2, c3, c4, c5, c6] = some xs[2] := k2
  obtain ⟨x0, e0, _, w0⟩ := DataW.trod_int Try.underlying21 k0
  obtain ⟨x1, e1, _, w1⟩ := DataW.trod_int Try.underlying5 k1
  obtain ⟨n1, rfl⟩ := wf_nat w1 (Or.inl rfl)
  obtain ⟨a, rfl, rfl, rfl, rfl, rfl⟩ := trod_attr k2
  injection e0 with e0
  injection e1 with e1
  subst e0 e1
  exact ⟨⟨x0, n1, a⟩, rfl⟩
theorem trod_line {cs : List Value} (hl : cs.length = 3) (hf : DataW.trod enc Try.prog W base spare held fuel 30 cs = some x) : ∃ (v : Value) (j s : Bool), cs = [v, .bool j, .bool s] ∧ ∃ (n : Nat) (y : DataW H × List MemPlace), DataW.trod enc Try.prog W base spare held n 28 [v] = some y := by
  match cs, hl with
  | [c0, c1, c2], _ =>
    obtain ⟨xs, n, rfl, _, _, hxl, hall⟩ := DataW.trod_struct Try.underlying30 hf
    have hxl : xs.length = 3 := hxl
    have k0 := hall 0 _ rfl
    have k1 := hall 1 _ rfl
    have k2 := hall 2 _ rfl
    rw [List.getElem?_eq_getElem (by omega)] at k0 k1 k2
    have k0 : DataW.trod enc Try.prog W base spare held n 28 [c0] = some xs[0] := k0
    have k1 : DataW.trod enc Try.prog W base spare held n 4 [c1] = some xs[1] := k1
    have k2 : DataW.trod enc Try.prog W base spare held n 4 [c2] = some xs[2] := k2
    obtain ⟨x1, e1, _⟩ := DataW.trod_bool Try.underlying4 k1
    obtain ⟨x2, e2, _⟩ := DataW.trod_bool Try.underlying4 k2
    injection e1 with e1
    injection e2 with e2
    subst e1 e2
    exact ⟨c0, x1, x2, rfl, n, _, k0⟩
end
set_option maxRecDepth 100000 in
theorem open_rowC {H : Type} {enc : TypeId × Value → H} {W : World} {fuel : Nat} {x : DataW H × List MemPlace} {v : Value} (hf : DataW.trod enc Try.prog W 0 (fun _ => true) true fuel 28 [v] = some x) : ∃ l : List Ce, Lies W v l := by
  have hC : Try.prog.cellsOf 38 = 7 := by kernel_rfl
  rcases Deep.open_slice Try.underlying28 hf with ⟨hcs, _⟩ | ⟨a, len, cap, m, n, D, Pl, hcs, _, hl, hm, hmm, _, hx⟩
  · have hv : v = .slice none 0 0 := by simpa using hcs
    subst hv
    exact ⟨[], none, 0, rfl, fun _ => rfl, by decide, fun h => absurd h (by simp)⟩
  · have hv : v = .slice (some a) len cap := by simpa using hcs
    subst hv
    simp only [if_true] at hmm
    unfold maxLen at hm
    rw [hC] at hx
    have each : ∀ r, r < m → ∃ y : Ce, ∀ j, j < 7 → W.cell? ((a.add (r * 7)).add j) = (cellsC y)[j]? := by
      intro r hr
      obtain ⟨cs, h1, h2⟩ := hx r hr
      obtain ⟨_, h3, h4⟩ := World.cells?_some h1
      obtain ⟨y, rfl⟩ := trod_cell h3 h2
      exact ⟨y, h4⟩
    obtain ⟨y, hy⟩ := Deep.choose_lt each
    refine ⟨(List.range len).map y, some a, cap, by simp, fun e => (by cases e), by simp; omega, fun hn => ?_⟩
    have hn : 0 < len := by simpa using hn
    have hsp : ∃ b o, a = ⟨b, o, none⟩ := by
      have h0 := hy 0 (by omega) 0 (by decide)
      obtain ⟨b, o, sp⟩ := a
      cases sp with
      | none => exact ⟨b, o, rfl⟩
      | some q => simp [World.cell?, Addr.add, cellsC] at h0; repeat' split at h0; all_goals simp at h0
    obtain ⟨b, o, rfl⟩ := hsp
    have h0 := hy 0 (by omega) 0 (by decide)
    have hb : b < W.heap.size := by
      rw [add_oo, add_oo] at h0
      exact cell_blt (p := ⟨b, o + 0 * 7 + 0, none⟩) (h0.trans rfl)
    refine ⟨b, o, rfl, hb, fun i hi j u hj => ?_⟩
    have hi : i < len := by simpa using hi
    have e : cellV ((List.range len).map y) i = y i := by
      unfold cellV
      rw [List.getD_eq_getElem?_getD, List.getElem?_map, List.getElem?_range hi]
      rfl
    rw [e] at hj
    have hj7 : j < 7 := by
      have := (List.getElem?_eq_some_iff.1 hj).1
      rwa [cells_len] at this
    have := hy i (by omega) j hj7
    rw [add_oo, add_oo, Nat.add_assoc] at this
    exact this.trans hj
theorem lies_rowF {W : World} {v : Value} {l : List Ce} (h : Lies W v l) : RowF (fun b => b < W.heap.size) W v l := by
  refine ⟨h, fun b e hl => ?_⟩
  obtain ⟨A, c, rfl, _, _, hr⟩ := h
  obtain ⟨b', o, rfl, hb, _⟩ := hr hl
  have : b' = b := by simpa [Value.ownBlock] using e
  exact this ▸ hb
set_option maxRecDepth 100000 in
theorem open_lines {H : Type} {enc : TypeId × Value → H} {W : World} {A : Option Addr} {len cap : Nat} {d : DataW H} {p : List MemPlace} (h : DataW.Trod enc Try.prog W 0 (fun _ => true) true 22 (.slice A len cap) d p) :
    ∃ ls : List LnC, LinesAt (fun b => b < W.heap.size) W (.slice A len cap) ls := by
  obtain ⟨fuel, hf⟩ := h
  have hC : Try.prog.cellsOf 30 = 3 := by kernel_rfl
  rcases Deep.open_slice Try.underlying22 hf with ⟨hcs, _⟩ | ⟨a, l', c', m, n, D, Pl, hcs, _, hl, hm, hmm, _, hx⟩
  · simp [Value.cells] at hcs
    obtain ⟨rfl, rfl, rfl⟩ := hcs
    exact ⟨[], lines_nil _ _⟩
  · simp [Value.cells] at hcs
    obtain ⟨rfl, rfl, rfl⟩ := hcs
    simp only [if_true] at hmm
    unfold maxLen at hm
    rw [hC] at hx
    have each : ∀ r, r < m → ∃ y : LnC, ∃ v : Value, (∀ j, j < 3 → W.cell? ((a.add (r * 3)).add j) = ([v, .bool y.joined, .bool y.short] : List Value)[j]?) ∧ RowF (fun b => b < W.heap.size) W v y.cells := by
      intro r hr
      obtain ⟨cs, h1, h2⟩ := hx r hr
      obtain ⟨_, h3, h4⟩ := World.cells?_some h1
      obtain ⟨v, j, s, rfl, n', y', h5⟩ := trod_line h3 h2
      obtain ⟨l, hl⟩ := open_rowC h5
      exact ⟨⟨l, j, s⟩, v, h4, lies_rowF hl⟩
    obtain ⟨y, hy⟩ := Deep.choose_lt each
    refine ⟨(List.range len).map y, some a, cap, by simp, fun e => (by cases e), by simp; omega, fun hn => ?_⟩
    have hn : 0 < len := by simpa using hn
    have hsp : ∃ b o, a = ⟨b, o, none⟩ := by
      obtain ⟨v, h0, _⟩ := hy 0 (by omega)
      have h0 := h0 0 (by decide)
      obtain ⟨b, o, sp⟩ := a
      cases sp with
      | none => exact ⟨b, o, rfl⟩
      | some q => simp [World.cell?, Addr.add] at h0; repeat' split at h0; all_goals simp at h0
    obtain ⟨b, o, rfl⟩ := hsp
    have hb : b < W.heap.size := by
      obtain ⟨v, h0, _⟩ := hy 0 (by omega)
      have h0 := h0 0 (by decide)
      rw [add_oo, add_oo] at h0
      exact cell_blt (p := ⟨b, o + 0 * 3 + 0, none⟩) (h0.trans rfl)
    refine ⟨b, o, rfl, hb, hb, fun k hk => ?_⟩
    have hk : k < len := by simpa using hk
    have e : ((List.range len).map y).getD k noLn = y k := by
      rw [List.getD_eq_getElem?_getD, List.getElem?_map, List.getElem?_range hk]
      rfl
    rw [e]
    obtain ⟨v, h0, hr⟩ := hy k (by omega)
    have g0 := h0 0 (by decide)
    have g1 := h0 1 (by decide)
    have g2 := h0 2 (by decide)
    rw [add_oo, add_oo] at g0 g1 g2
    exact ⟨v, g0, g1, g2, hr⟩
end Go.Proofs.Ytifolcfnknlmdaa.Re
