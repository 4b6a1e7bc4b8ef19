/- A struct of three ints that came in, and a slice of ints that came in, opened. -/
import Derived.Test.YtbknfbobidgkkaaDoorProg
import Derived.ProofKit
import Derived.Lib.SmallJoins
import Derived.ChangeSlices
import Derived.ChangeOld
import Derived.Carry
import Derived.Deep.Fields
import Derived.Deep.Slices
import Derived.ChangeSame
import Derived.Below
import Derived.RowKit
namespace Go.Proofs.YtbknfbobidgkkaaDoor
open Go.RowKit Go.Joins Go.ChangeShapes Go.WideShapes Go.Deep

theorem open_three {H : Type} {enc : TypeId × Value → H} {P : Program} {W : World} {r : Reach} {b0 base : Nat} {spare : Nat → Bool} {held : Bool} {t : TypeId} {f0 f1 f2 : Field} {v : Value} {d : DataW H} {p : List MemPlace} (hs : P.underlying t = some (.struct #[f0, f1, f2])) (hone : oneCellFields P #[f0, f1, f2] = true) (hC : P.cellsOf t = 3)
    (t0 : P.underlying f0.type = some (.int .i64)) (t1 : P.underlying f1.type = some (.int .i64)) (t2 : P.underlying f2.type = some (.int .i64))
    (hv : Value.okWide P W r b0 t v) (h : DataW.Trod enc P W base spare held t v d p) : ∃ a b c : Int, v = .agg #[.int .i64 a, .int .i64 b, .int .i64 c] ∧ (Lit.int .i64 a).wf = true ∧ (Lit.int .i64 b).wf = true ∧ (Lit.int .i64 c).wf = true := by
  obtain ⟨v0, v1, v2, y0, y1, y2, n, rfl, _, _, h0, h1, h2⟩ := open_agg3 hs hone hC hv h
  obtain ⟨a0, e0, _, k0⟩ := DataW.trod_int t0 h0
  obtain ⟨a1, e1, _, k1⟩ := DataW.trod_int t1 h1
  obtain ⟨a2, e2, _, k2⟩ := DataW.trod_int t2 h2
  injection e0 with e0
  injection e1 with e1
  injection e2 with e2
  exact ⟨a0, a1, a2, by rw [e0, e1, e2], k0, k1, k2⟩

/-- A slice of ints that came in: they lie below block B. -/
def IntsIn (w : World) (B : Nat) (A : Option Addr) (n : Nat) (X : Nat → Int) : Prop :=
  0 < n → ∃ b o, A = some ⟨b, o, none⟩ ∧ b < B ∧ ∀ i, i < n → w.cell? ⟨b, o + i, none⟩ = some (.int .i64 (X i)) ∧ (Lit.int .i64 (X i)).wf = true

theorem IntsIn.keep {w w' : World} {B n : Nat} {A : Option Addr} {X : Nat → Int} (h : IntsIn w B A n X) (hk : ∀ p : Addr, p.block < B → w'.cell? p = w.cell? p) : IntsIn w' B A n X := fun hn => by
  obtain ⟨b, o, e, hb, hr⟩ := h hn
  exact ⟨b, o, e, hb, fun i hi => ⟨(hk _ hb).trans (hr i hi).1, (hr i hi).2⟩⟩
theorem IntsIn.below {w w' : World} {B n : Nat} {A : Option Addr} {X : Nat → Int} (h : IntsIn w B A n X) (hb : Below B w w') : IntsIn w' B A n X := h.keep fun _ hp => hb.cell hp

theorem add_plain (b o i : Nat) : ({ block := b, off := o, spot := none } : Addr).add i = ⟨b, o + i, none⟩ := by
  unfold Addr.add
  split
  all_goals first | rfl | (rename_i h; subst h; rfl)

theorem open_intsIn {H : Type} {enc : TypeId × Value → H} {P : Program} {W : World} {base : Nat} {spare : Nat → Bool} {held : Bool} {t e : TypeId} {A : Option Addr} {len cap : Nat} {d : DataW H} {p : List MemPlace}
    (ht : P.underlying t = some (.slice e)) (he : P.underlying e = some (.int .i64)) (hc : P.cellsOf e = 1) (h : DataW.Trod enc P W base spare held t (.slice A len cap) d p) :
    ∃ X : Nat → Int, len ≤ 9223372036854775807 ∧ IntsIn W W.heap.size A len X := by
  obtain ⟨fuel, h⟩ := h
  rcases open_ints ht he hc h with ⟨h0, _⟩ | ⟨a, l, c, zs, h0, hb, hl, hm, hz, _, hr, hw⟩
  · simp only [Value.cells] at h0
    injection h0 with h0
    injection h0 with h1 h2 h3
    subst h2
    exact ⟨fun _ => 0, by omega, fun hn => by omega⟩
  · injection h0 with h0
    injection h0 with h1 h2 h3
    subst h1 h2 h3
    unfold maxLen at hm
    have hlz : len ≤ zs.length := by rw [hz]; split <;> omega
    refine ⟨fun i => zs.getD i 0, by omega, fun hn => ?_⟩
    have hr0 := hr 0 (by omega)
    obtain ⟨b, o, s⟩ := a
    have hs : s = none := by simpa [Addr.add] using World.cell?_spot hr0
    subst hs
    refine ⟨b, o, rfl, ?_, fun i hi => ⟨?_, ?_⟩⟩
    · rcases Nat.lt_or_ge b W.heap.size with h | h
      · exact h
      · simp [World.cell?, Addr.add, Array.getElem?_eq_none h] at hr0
    · have := hr i (by omega)
      rwa [add_plain] at this
    · have hi' : i < zs.length := by omega
      refine hw _ ?_
      show zs.getD i 0 ∈ zs
      rw [List.getD_eq_getElem?_getD, List.getElem?_eq_getElem hi']
      simp

end Go.Proofs.YtbknfbobidgkkaaDoor
