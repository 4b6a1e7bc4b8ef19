/- Layer 13: lines, a move that came in, opened. -/
import Derived.Test.YtomfeehebkknoaaScE
import Derived.ProofKit
import Derived.WideShapes
import Derived.OpenShut
import Derived.Deep.Slices
import Derived.Lib.SmallJoins
set_option linter.unusedVariables false
namespace Go.Proofs.Ytomfeehebkknoaa.Rw
open Go.RowKit Go.WideShapes

instance : Inhabited (List Ce) := ⟨[]⟩
section
variable {H : Type} {enc : TypeId × Value → H} {W : World} {base : Nat} {spare : Nat → Bool} {held : Bool} {fuel : Nat} {x : DataW H × List MemPlace}
theorem wf_nat {K : IntKind} {x : Int} (h : (Lit.int K x).wf = true) (hK : K = .u8 ∨ K = .u16 ∨ K = .u32) : ∃ n : Nat, x = n := by
  rcases hK with rfl | rfl | rfl
  · have := bounds_u8 h; exact ⟨x.toNat, by omega⟩
  · have := bounds_u16 h; exact ⟨x.toNat, by omega⟩
  · have := bounds_u32 h; exact ⟨x.toNat, by omega⟩
theorem trod_color {c c' : Value} (hy : DataW.trod enc Try.prog W base spare held fuel 26 [c, c'] = some x) : ∃ k n : Nat, c = .int .u8 k ∧ c' = .int .u32 n := by
  obtain ⟨ys, n', rfl, _, _, hyl, hal⟩ := DataW.trod_struct Try.underlying26 hy
  have hyl : ys.length = 2 := hyl
  have k0 := hal 0 _ rfl
  have k1 := hal 1 _ rfl
  rw [List.getElem?_eq_getElem (by omega)] at k0 k1
  have k0 : DataW.trod enc Try.prog W base spare held n' 5 [c] = some ys[0] := k0
  have k1 : DataW.trod enc Try.prog W base spare held n' 24 [c'] = some ys[1] := k1
  obtain ⟨x0, e0, _, w0⟩ := DataW.trod_int Try.underlying5 k0
  obtain ⟨x1, e1, _, w1⟩ := DataW.trod_int Try.underlying24 k1
  obtain ⟨n0, rfl⟩ := wf_nat w0 (Or.inl rfl)
  obtain ⟨n1, rfl⟩ := wf_nat w1 (Or.inr (Or.inr rfl))
  injection e0 with e0
  injection e1 with e1
  exact ⟨n0, n1, e0, e1⟩
theorem trod_attr {c0 c1 c2 c3 c4 : Value} (hf : DataW.trod enc Try.prog W base spare held fuel 28 [c0, c1, c2, c3, c4] = some x) : ∃ a : Aa, c0 = .int .u16 a.fl ∧ c1 = .int .u8 a.fk ∧ c2 = .int .u32 a.fn ∧ c3 = .int .u8 a.bk ∧ c4 = .int .u32 a.bn := by
  obtain ⟨xs, n, rfl, _, _, hxl, hall⟩ := DataW.trod_struct Try.underlying28 hf
  have hxl : xs.length = 3 := hxl
  have k0 := hall 0 _ rfl
  have k1 := hall 1 _ rfl
  have k2 := hall 2 _ rfl
  rw [List.getElem?_eq_getElem (by omega)] at k0 k1 k2
  have k0 : DataW.trod enc Try.prog W base spare held n 23 [c0] = some xs[0] := k0
  have k1 : DataW.trod enc Try.prog W base spare held n 26 [c1, c2] = some xs[1] := k1
  have k2 : DataW.trod enc Try.prog W base spare held n 26 [c3, c4] = some xs[2] := k2
  obtain ⟨x0, e0, _, w0⟩ := DataW.trod_int Try.underlying23 k0
  obtain ⟨n0, rfl⟩ := wf_nat w0 (Or.inr (Or.inl rfl))
  obtain ⟨z1, z2, rfl, rfl⟩ := trod_color k1
  obtain ⟨z3, z4, rfl, rfl⟩ := trod_color k2
  injection e0 with e0
  exact ⟨⟨n0, z1, z2, z3, z4⟩, e0, rfl, rfl, rfl, rfl⟩
theorem seven_of {l : List Value} (h : l.length = 7) : ∃ c0 c1 c2 c3 c4 c5 c6, l = [c0, c1, c2, c3, c4, c5, c6] := by
  match l, h with
  | [c0, c1, c2, c3, c4, c5, c6], _ => exact ⟨c0, c1, c2, c3, c4, c5, c6, rfl⟩
theorem ten_of {l : List Value} (h : l.length = 10) : ∃ c0 c1 c2 c3 c4 c5 c6 c7 c8 c9, l = [c0, c1, c2, c3, c4, c5, c6, c7, c8, c9] := by
  match l, h with
  | [c0, c1, c2, c3, c4, c5, c6, c7, c8, c9], _ => exact ⟨c0, c1, c2, c3, c4, c5, c6, c7, c8, c9, rfl⟩
theorem trod_cell {cs : List Value} (hl : cs.length = 7) (hf : DataW.trod enc Try.prog W base spare held fuel 40 cs = some x) : ∃ c : Ce, cs = cellsC c := by
  obtain ⟨c0, c1, c2, c3, c4, c5, c6, rfl⟩ := seven_of hl
  obtain ⟨xs, n, rfl, _, _, hxl, hall⟩ := DataW.trod_struct Try.underlying40 hf
  have hxl : xs.length = 3 := hxl
  have k0 := hall 0 _ rfl
  have k1 := hall 1 _ rfl
  have k2 := hall 2 _ rfl
  rw [List.getElem?_eq_getElem (by omega)] at k0 k1 k2
  have k0 : DataW.trod enc Try.prog W base spare held n 21 [c0] = some xs[0] := k0
  have k1 : DataW.trod enc Try.prog W base spare held n 5 [c1] = some xs[1] := k1
  have k2 : DataW.trod enc Try.prog W base spare held n 28 [c2, c3, c4, c5, c6] = some xs[2] := k2
  obtain ⟨x0, e0, _, w0⟩ := DataW.trod_int Try.underlying21 k0
  obtain ⟨x1, e1, _, w1⟩ := DataW.trod_int Try.underlying5 k1
  obtain ⟨n1, rfl⟩ := wf_nat w1 (Or.inl rfl)
  obtain ⟨a, rfl, rfl, rfl, rfl, rfl⟩ := trod_attr k2
  injection e0 with e0
  injection e1 with e1
  subst e0 e1
  exact ⟨⟨x0, n1, a⟩, rfl⟩
theorem trod_move {cs : List Value} (hl : cs.length = 10) (hf : DataW.trod enc Try.prog W base spare held fuel 30 cs = some x) : ∃ (Y T B N w : Int) (a : Aa), cs = [.int .i64 Y, .int .i64 T, .int .i64 B, .int .i64 N, .int .i64 w, .int .u16 (a.fl : Int), .int .u8 (a.fk : Int), .int .u32 (a.fn : Int), .int .u8 (a.bk : Int), .int .u32 (a.bn : Int)] ∧ IntIn Y ∧ IntIn T ∧ IntIn B ∧ IntIn N ∧ IntIn w := by
  obtain ⟨c0, c1, c2, c3, c4, c5, c6, c7, c8, c9, rfl⟩ := ten_of hl
  obtain ⟨xs, n, rfl, _, _, hxl, hall⟩ := DataW.trod_struct Try.underlying30 hf
  have hxl : xs.length = 6 := hxl
  have k0 := hall 0 _ rfl
  have k1 := hall 1 _ rfl
  have k2 := hall 2 _ rfl
  have k3 := hall 3 _ rfl
  have k4 := hall 4 _ rfl
  have k5 := hall 5 _ rfl
  rw [List.getElem?_eq_getElem (by omega)] at k0 k1 k2 k3 k4 k5
  have k0 : DataW.trod enc Try.prog W base spare held n 3 [c0] = some xs[0] := k0
  have k1 : DataW.trod enc Try.prog W base spare held n 3 [c1] = some xs[1] := k1
  have k2 : DataW.trod enc Try.prog W base spare held n 3 [c2] = some xs[2] := k2
  have k3 : DataW.trod enc Try.prog W base spare held n 3 [c3] = some xs[3] := k3
  have k4 : DataW.trod enc Try.prog W base spare held n 3 [c4] = some xs[4] := k4
  have k5 : DataW.trod enc Try.prog W base spare held n 28 [c5, c6, c7, c8, c9] = some xs[5] := k5
  obtain ⟨x0, e0, _, w0⟩ := DataW.trod_int Try.underlying3 k0
  obtain ⟨x1, e1, _, w1⟩ := DataW.trod_int Try.underlying3 k1
  obtain ⟨x2, e2, _, w2⟩ := DataW.trod_int Try.underlying3 k2
  obtain ⟨x3, e3, _, w3⟩ := DataW.trod_int Try.underlying3 k3
  obtain ⟨x4, e4, _, w4⟩ := DataW.trod_int Try.underlying3 k4
  obtain ⟨a, rfl, rfl, rfl, rfl, rfl⟩ := trod_attr k5
  injection e0 with e0
  injection e1 with e1
  injection e2 with e2
  injection e3 with e3
  injection e4 with e4
  subst e0 e1 e2 e3 e4
  exact ⟨x0, x1, x2, x3, x4, a, rfl, bounds_i64 w0, bounds_i64 w1, bounds_i64 w2, bounds_i64 w3, bounds_i64 w4⟩
end
set_option maxRecDepth 100000 in
theorem open_rowC {H : Type} {enc : TypeId × Value → H} {W : World} {fuel : Nat} {x : DataW H × List MemPlace} {v : Value} (hf : DataW.trod enc Try.prog W 0 (fun _ => true) true fuel 38 [v] = some x) : ∃ l : List Ce, RowAt (fun b => b < W.heap.size) W v l := by
  have hC : Try.prog.cellsOf 40 = 7 := by kernel_rfl
  rcases Deep.open_slice Try.underlying38 hf with ⟨hcs, _⟩ | ⟨a, len, cap, m, n, D, Pl, hcs, _, hl, hm, hmm, _, hx⟩
  · have hv : v = .slice none 0 0 := by simpa using hcs
    subst hv
    exact ⟨[], none, 0, rfl, fun _ => rfl, by decide, fun h => absurd h (by simp)⟩
  · have hv : v = .slice (some a) len cap := by simpa using hcs
    subst hv
    simp only [if_true] at hmm
    unfold maxLen at hm
    rw [hC] at hx
    have each : ∀ r, r < m → ∃ y : Ce, ∀ j, j < 7 → W.cell? ((a.add (r * 7)).add j) = (cellsC y)[j]? := by
      intro r hr
      obtain ⟨cs, h1, h2⟩ := hx r hr
      obtain ⟨_, h3, h4⟩ := World.cells?_some h1
      obtain ⟨y, rfl⟩ := trod_cell h3 h2
      exact ⟨y, h4⟩
    obtain ⟨y, hy⟩ := Deep.choose_lt each
    refine ⟨(List.range len).map y, some a, cap, by simp, fun e => (by cases e), by simp; omega, fun hn => ?_⟩
    have hn : 0 < len := by simpa using hn
    have hsp : ∃ b o, a = ⟨b, o, none⟩ := by
      have h0 := hy 0 (by omega) 0 (by decide)
      obtain ⟨b, o, sp⟩ := a
      cases sp with
      | none => exact ⟨b, o, rfl⟩
      | some q => simp [World.cell?, Addr.add, cellsC] at h0; repeat' split at h0; all_goals simp at h0
    obtain ⟨b, o, rfl⟩ := hsp
    have h0 := hy 0 (by omega) 0 (by decide)
    have hb : b < W.heap.size := by
      rw [add_oo, add_oo] at h0
      exact cell_blt (p := ⟨b, o + 0 * 7 + 0, none⟩) (h0.trans rfl)
    refine ⟨b, o, rfl, hb, hb, fun i hi j u hj => ?_⟩
    have hi : i < len := by simpa using hi
    have e : cellV ((List.range len).map y) i = y i := by
      unfold cellV
      rw [List.getD_eq_getElem?_getD, List.getElem?_map, List.getElem?_range hi]
      rfl
    rw [e] at hj
    have hj7 : j < 7 := by
      have := (List.getElem?_eq_some_iff.1 hj).1
      rwa [cells_len] at this
    have := hy i (by omega) j hj7
    rw [add_oo, add_oo, Nat.add_assoc] at this
    exact this.trans hj
set_option maxRecDepth 100000 in
theorem open_tab {H : Type} {enc : TypeId × Value → H} {W : World} {A : Option Addr} {len cap : Nat} {d : DataW H} {p : List MemPlace} (h : DataW.Trod enc Try.prog W 0 (fun _ => true) true 22 (.slice A len cap) d p) :
    ∃ ls : Ls, TabAt (fun b => b < W.heap.size) W (.slice A len cap) ls := by
  obtain ⟨fuel, hf⟩ := h
  rcases Deep.open_slice1 Try.underlying22 (by kernel_rfl) hf with ⟨hcs, _⟩ | ⟨a, l', c', m, n, V, D, Pl, hcs, _, hl, hm, hmm, _, hx⟩
  · simp [Value.cells] at hcs
    obtain ⟨rfl, rfl, rfl⟩ := hcs
    exact ⟨[], tab_nil _ _⟩
  · simp [Value.cells] at hcs
    obtain ⟨rfl, rfl, rfl⟩ := hcs
    simp only [if_true] at hmm
    unfold maxLen at hm
    have each : ∀ r, r < m → ∃ y : List Ce, RowAt (fun b => b < W.heap.size) W (V r) y := fun r hr => open_rowC (hx r hr).2
    obtain ⟨y, hy⟩ := Deep.choose_lt each
    refine ⟨(List.range len).map y, some a, cap, by simp, fun e => (by cases e), by simp; omega, fun hn => ?_⟩
    have hn : 0 < len := by simpa using hn
    have hsp : ∃ b o, a = ⟨b, o, none⟩ := by
      have h0 := (hx 0 (by omega)).1
      obtain ⟨b, o, sp⟩ := a
      cases sp with
      | none => exact ⟨b, o, rfl⟩
      | some q => exfalso; obtain ⟨A2, c2, e2, -⟩ := hy 0 (by omega); rw [e2] at h0; simp [World.cell?, Addr.add] at h0; repeat' split at h0; all_goals simp at h0
    obtain ⟨b, o, rfl⟩ := hsp
    have hb : b < W.heap.size := by
      have h0 := (hx 0 (by omega)).1
      rw [add_oo] at h0
      exact cell_blt (p := ⟨b, o + 0, none⟩) h0
    refine ⟨b, o, rfl, hb, hb, fun k hk => ⟨V k, ?_, ?_⟩⟩
    · have hk : k < len := by simpa using hk
      have := (hx k (by omega)).1
      rwa [add_oo] at this
    · have hk : k < len := by simpa using hk
      rw [line_map _ _ _ hk]
      exact hy k (by omega)
set_option maxRecDepth 100000 in
theorem open_move {H : Type} {enc : TypeId × Value → H} {W : World} {r : Reach} {b0 base : Nat} {spare : Nat → Bool} {held : Bool} {v : Value} {d : DataW H} {p : List MemPlace} (hv : Value.okWide Try.prog W r b0 30 v) (h : DataW.Trod enc Try.prog W base spare held 30 v d p) : ∃ (Y T B N w : Int) (a : Aa), v = moveV Y T B N w a ∧ IntIn Y ∧ IntIn T ∧ IntIn B ∧ IntIn N ∧ IntIn w := by
  obtain ⟨⟨l⟩, rfl, hsz⟩ := okWide_struct Try.underlying30 hv
  have hl : l.length = 10 := hsz.trans (by kernel_rfl)
  obtain ⟨fuel, hf⟩ := h
  obtain ⟨Y, T, B, N, w, a, rfl, h1⟩ := trod_move hl hf
  exact ⟨Y, T, B, N, w, a, rfl, h1⟩
end Go.Proofs.Ytomfeehebkknoaa.Rw
