/- Layer 12: acts and an area that came in, opened. -/
import Derived.Test.YtfkiihddcinckaaTbK
import Derived.ProofKit
import Derived.WideShapes
import Derived.OpenShut
import Derived.Deep.Slices
import Derived.Lib.SmallJoins
import Derived.ChangeOld
set_option linter.unusedVariables false
namespace Go.Proofs.Ytfkiihddcinckaa.Tb
open Go.RowKit Go.WideShapes Go.ChangeAt

/-- An act. -/
structure Tc where
  d : Int
  x : Int
  n : Int
instance : Inhabited Tc := ⟨⟨0, 0, 0⟩⟩
def cellsT (c : Tc) : List Value := [.int .u8 c.d, .int .i64 c.x, .int .i64 c.n]
def GoodT (c : Tc) : Prop := (0 ≤ c.d ∧ c.d ≤ 255) ∧ IntIn c.x ∧ IntIn c.n
/-- Acts that lie at A, below block B. -/
def ActsT (w : World) (B : Nat) (A : Option Addr) (m : Nat) (X : Nat → Tc) : Prop := 0 < m → ∃ b o, A = some ⟨b, o, none⟩ ∧ b < B ∧ ∀ i, i < m → GoodT (X i) ∧ ∀ j u, (cellsT (X i))[j]? = some u → w.cell? ⟨b, o + (i * 3 + j), none⟩ = some u
theorem ActsT.below {w w' : World} {B : Nat} {A : Option Addr} {m : Nat} {X : Nat → Tc} (h : ActsT w B A m X) (hb : Below B w w') : ActsT w' B A m X := fun hn => by
  obtain ⟨b, o, e, hlt, hr⟩ := h hn
  exact ⟨b, o, e, hlt, fun i hi => ⟨(hr i hi).1, fun j u hj => (hb.cell hlt).trans ((hr i hi).2 j u hj)⟩⟩
theorem ActsT.at_ {w : World} {B : Nat} {A : Option Addr} {m : Nat} {X : Nat → Tc} (h : ActsT w B A m X) {k : Nat} (hk : k < m) : ∃ b o, A = some ⟨b, o, none⟩ ∧ b < B ∧ GoodT (X k) ∧ (w.cell? ⟨b, o + k * 3, none⟩ = some (.int .u8 (X k).d) ∧ w.cell? ⟨b, o + k * 3 + 1, none⟩ = some (.int .i64 (X k).x) ∧ w.cell? ⟨b, o + k * 3 + 2, none⟩ = some (.int .i64 (X k).n)) := by
  obtain ⟨b, o, e, hb, hr⟩ := h (by omega)
  obtain ⟨h1, hc⟩ := hr k hk
  refine ⟨b, o, e, hb, h1, hc 0 _ rfl, ?_, ?_⟩
  · rw [Nat.add_assoc]; exact hc 1 _ rfl
  · rw [Nat.add_assoc]; exact hc 2 _ rfl
theorem add_oo (b o k : Nat) : (⟨b, o, none⟩ : Addr).add k = ⟨b, o + k, none⟩ := by
  unfold Addr.add
  split
  · rename_i h; subst h; rfl
  · rfl
theorem idx_tact (b o n c k : Nat) (hk : k < n) (W : World) : (Instr.indexAt 22 (.slice (some ⟨b, o, none⟩) n c) (.int .i64 (k : Int))).run Try.prog W = .ok (.pointer (some ⟨b, o + k * 3, none⟩)) W := by
  have hs : ∀ W : World, (sizeOf (Try.prog.elem 22)).run Try.prog W = .ok 3 W := fun W => by kernel_rfl
  rw [run_indexAt_slice (P := Try.prog) W 22 ⟨b, o, none⟩ n c .i64 k (by kernel_rfl), if_pos (by omega), hs]
  simp only [Result.andThen, Int.toNat_natCast, add_oo]
theorem three_of {l : List Value} (h : l.length = 3) : ∃ c0 c1 c2, l = [c0, c1, c2] := by
  match l, h with
  | [c0, c1, c2], _ => exact ⟨c0, c1, c2, rfl⟩
theorem four_of {cs : Array Value} (h : cs.size = 4) : ∃ c0 c1 c2 c3, cs = #[c0, c1, c2, c3] := by
  obtain ⟨l⟩ := cs
  match l, h with
  | [c0, c1, c2, c3], _ => exact ⟨c0, c1, c2, c3, rfl⟩
theorem cell_blt {w : World} {p : Addr} {v : Value} (h : w.cell? p = some v) : p.block < w.heap.size := World.block_lt_of_cell? w p h
section
variable {H : Type} {enc : TypeId × Value → H} {W : World} {base : Nat} {spare : Nat → Bool} {held : Bool} {fuel : Nat} {x : DataW H × List MemPlace}
theorem trod_tact {cs : List Value} (hl : cs.length = 3) (hf : DataW.trod enc Try.prog W base spare held fuel 31 cs = some x) : ∃ c : Tc, cs = cellsT c ∧ GoodT c := by
  obtain ⟨c0, c1, c2, rfl⟩ := three_of hl
  obtain ⟨xs, n, rfl, _, _, hxl, hall⟩ := DataW.trod_struct Try.underlying31 hf
  have hxl : xs.length = 3 := hxl
  have k0 := hall 0 _ rfl
  have k1 := hall 1 _ rfl
  have k2 := hall 2 _ rfl
  rw [List.getElem?_eq_getElem (by omega)] at k0 k1 k2
  have k0 : DataW.trod enc Try.prog W base spare held n 5 [c0] = some xs[0] := k0
  have k1 : DataW.trod enc Try.prog W base spare held n 3 [c1] = some xs[1] := k1
  have k2 : DataW.trod enc Try.prog W base spare held n 3 [c2] = some xs[2] := k2
  obtain ⟨x0, e0, _, w0⟩ := DataW.trod_int Try.underlying5 k0
  obtain ⟨x1, e1, _, w1⟩ := DataW.trod_int Try.underlying3 k1
  obtain ⟨x2, e2, _, w2⟩ := DataW.trod_int Try.underlying3 k2
  injection e0 with e0
  injection e1 with e1
  injection e2 with e2
  subst e0 e1 e2
  have b0 := bounds_u8 w0
  have b1 := bounds_i64 w1
  have b2 := bounds_i64 w2
  exact ⟨⟨x0, x1, x2⟩, rfl, by omega, b1, b2⟩
end
set_option maxRecDepth 100000 in
theorem open_tacts {H : Type} {enc : TypeId × Value → H} {W : World} {A : Option Addr} {len cap : Nat} {d : DataW H} {p : List MemPlace} (h : DataW.Trod enc Try.prog W 0 (fun _ => true) true 22 (.slice A len cap) d p) :
    ∃ X : Nat → Tc, len ≤ 9223372036854775807 ∧ ActsT W W.heap.size A len X := by
  obtain ⟨fuel, hf⟩ := h
  have hC : Try.prog.cellsOf 31 = 3 := by kernel_rfl
  rcases Deep.open_slice Try.underlying22 hf with ⟨hcs, _⟩ | ⟨a, l', c', m, n, D, Pl, hcs, _, hl, hm, hmm, _, hx⟩
  · simp [Value.cells] at hcs
    obtain ⟨rfl, rfl, rfl⟩ := hcs
    exact ⟨fun _ => ⟨0, 0, 0⟩, by omega, fun h => by omega⟩
  · simp [Value.cells] at hcs
    obtain ⟨rfl, rfl, rfl⟩ := hcs
    simp only [if_true] at hmm
    unfold maxLen at hm
    rw [hC] at hx
    have each : ∀ r, r < m → ∃ y : Tc, (∀ j, j < 3 → W.cell? ((a.add (r * 3)).add j) = (cellsT y)[j]?) ∧ GoodT y := by
      intro r hr
      obtain ⟨cs, h1, h2⟩ := hx r hr
      obtain ⟨_, h3, h4⟩ := World.cells?_some h1
      obtain ⟨y, rfl, h5⟩ := trod_tact h3 h2
      exact ⟨y, h4, h5⟩
    obtain ⟨y, hy⟩ := Deep.choose_lt each
    refine ⟨y, by omega, fun hn => ?_⟩
    have hsp : ∃ b o, a = ⟨b, o, none⟩ := by
      have h0 := (hy 0 (by omega)).1 0 (by decide)
      obtain ⟨b, o, sp⟩ := a
      cases sp with
      | none => exact ⟨b, o, rfl⟩
      | some q => simp [World.cell?, Addr.add, cellsT] at h0; repeat' split at h0; all_goals simp at h0
    obtain ⟨b, o, rfl⟩ := hsp
    have h0 := (hy 0 (by omega)).1 0 (by decide)
    have hb : b < W.heap.size := by
      rw [add_oo, add_oo] at h0
      exact cell_blt (p := ⟨b, o + 0 * 3 + 0, none⟩) (h0.trans rfl)
    refine ⟨b, o, rfl, hb, fun i hi => ⟨(hy i (by omega)).2, fun j u hj => ?_⟩⟩
    have hj3 : j < 3 := (List.getElem?_eq_some_iff.1 hj).1
    have := (hy i (by omega)).1 j hj3
    rw [add_oo, add_oo, Nat.add_assoc] at this
    exact this.trans hj
set_option maxRecDepth 100000 in
theorem open_area {H : Type} {enc : TypeId × Value → H} {W : World} {r : Reach} {b0 base : Nat} {spare : Nat → Bool} {held : Bool} {v : Value} {d : DataW H} {p : List MemPlace} (hv : Value.okWide Try.prog W r b0 43 v) (h : DataW.Trod enc Try.prog W base spare held 43 v d p) : ∃ w' h' t' b' : Int, v = areaV w' h' t' b' ∧ IntIn w' ∧ IntIn h' ∧ IntIn t' ∧ IntIn b' := by
  obtain ⟨cs, rfl, hsz⟩ := okWide_struct Try.underlying43 hv
  obtain ⟨c0, c1, c2, c3, rfl⟩ := four_of (hsz.trans (by kernel_rfl))
  obtain ⟨fuel, hf⟩ := h
  obtain ⟨xs, n, rfl, _, _, hxl, hall⟩ := DataW.trod_struct Try.underlying43 hf
  have hxl : xs.length = 4 := hxl
  have k0 := hall 0 _ rfl
  have k1 := hall 1 _ rfl
  have k2 := hall 2 _ rfl
  have k3 := hall 3 _ rfl
  rw [List.getElem?_eq_getElem (by omega)] at k0 k1 k2 k3
  have k0 : DataW.trod enc Try.prog W base spare held n 3 [c0] = some xs[0] := k0
  have k1 : DataW.trod enc Try.prog W base spare held n 3 [c1] = some xs[1] := k1
  have k2 : DataW.trod enc Try.prog W base spare held n 3 [c2] = some xs[2] := k2
  have k3 : DataW.trod enc Try.prog W base spare held n 3 [c3] = some xs[3] := k3
  obtain ⟨x0, e0, _, w0⟩ := DataW.trod_int Try.underlying3 k0
  obtain ⟨x1, e1, _, w1⟩ := DataW.trod_int Try.underlying3 k1
  obtain ⟨x2, e2, _, w2⟩ := DataW.trod_int Try.underlying3 k2
  obtain ⟨x3, e3, _, w3⟩ := DataW.trod_int Try.underlying3 k3
  injection e0 with e0
  injection e1 with e1
  injection e2 with e2
  injection e3 with e3
  subst e0 e1 e2 e3
  exact ⟨x0, x1, x2, x3, rfl, bounds_i64 w0, bounds_i64 w1, bounds_i64 w2, bounds_i64 w3⟩
end Go.Proofs.Ytfkiihddcinckaa.Tb
