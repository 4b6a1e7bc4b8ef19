/- A slice of acts that came in, opened. -/
import Derived.Test.YthjechngpjkgnaaQuoD
import Derived.ProofKit
import Derived.Lib.SmallJoins
import Derived.Deep.Slices
import Derived.Deep.Fields
import Derived.ChangeSame
import Derived.Deep.MidRow
namespace Go.Proofs.Ythjechngpjkgnaa
open Go.RowKit Go.Joins Go.ChangeShapes Go.WideShapes Go.Deep

theorem add_block (a : Addr) (n : Nat) : (a.add n).block = a.block := by unfold Addr.add; split <;> rfl

/-- An act. -/
structure Act where
  d : Int
  n : Int
  k : ByteArray

def Act.cells (e : Act) : List Value := [.int .i64 e.d, .int .i64 e.n, .string e.k]

/-- A slice of acts that came in: they lie below block B. -/
def ActsIn (w : World) (B : Nat) (A : Option Addr) (n : Nat) (X : Nat → Act) : Prop :=
  0 < n → ∃ b o, A = some ⟨b, o, none⟩ ∧ b < B ∧ ∀ i, i < n → (X i).k.size ≤ 9223372036854775807 ∧ ∀ j u, (X i).cells[j]? = some u → w.cell? ⟨b, o + (i * 3 + j), none⟩ = some u

theorem ActsIn.keep {w w' : World} {B n : Nat} {A : Option Addr} {X : Nat → Act} (h : ActsIn w B A n X) (hk : ∀ p : Addr, p.block < B → w'.cell? p = w.cell? p) : ActsIn w' B A n X := fun hn => by
  obtain ⟨b, o, e, hb, hr⟩ := h hn
  exact ⟨b, o, e, hb, fun i hi => ⟨(hr i hi).1, fun j u hj => (hk _ hb).trans ((hr i hi).2 j u hj)⟩⟩
theorem ActsIn.below {w w' : World} {B n : Nat} {A : Option Addr} {X : Nat → Act} (h : ActsIn w B A n X) (hb : Below B w w') : ActsIn w' B A n X := h.keep fun _ hp => hb.cell hp
/-- An act that came in, cell by cell. -/
theorem ActsIn.at_ {w : World} {B n : Nat} {A : Option Addr} {X : Nat → Act} (h : ActsIn w B A n X) {k : Nat} (hk : k < n) : ∃ b o, A = some ⟨b, o, none⟩ ∧ b < B ∧ (X k).k.size ≤ 9223372036854775807 ∧
    w.cell? ⟨b, o + k * 3, none⟩ = some (.int .i64 (X k).d) ∧ w.cell? ⟨b, o + k * 3 + 1, none⟩ = some (.int .i64 (X k).n) ∧ w.cell? ⟨b, o + k * 3 + 2, none⟩ = some (.string (X k).k) := by
  obtain ⟨b, o, e, hb, hr⟩ := h (by omega)
  obtain ⟨hs, hc⟩ := hr k hk
  refine ⟨b, o, e, hb, hs, ?_, ?_, ?_⟩
  · exact hc 0 _ rfl
  · rw [Nat.add_assoc]; exact hc 1 _ rfl
  · rw [Nat.add_assoc]; exact hc 2 _ rfl

section
variable {H : Type} {enc : TypeId × Value → H} {P : Program} {w : World} {base : Nat} {spare : Nat → Bool} {held : Bool}
theorem open_slice_fields {t e : TypeId} {fs : Array Field} {fuel : Nat} {cs : List Value} {x : DataW H × List MemPlace} (ht : P.underlying t = some (.slice e)) (he : P.underlying e = some (.struct fs))
    (hone : oneCellFields P fs = true) (hC : P.cellsOf e = fs.size) (h : DataW.trod enc P w base spare held fuel t cs = some x) :
    (cs = [.slice none 0 0]) ∨
    ∃ (a : Addr) (len cap : Nat), cs = [.slice (some a) len cap] ∧ len ≤ maxLen ∧
      ∀ i, i < len → ∃ (n : Nat), ∀ (j : Nat) (f : Field), fs[j]? = some f → ∃ (v : Value) (y : DataW H × List MemPlace), w.cell? (a.add (i * fs.size + j)) = some v ∧ DataW.trod enc P w base spare held n f.type [v] = some y := by
  rcases open_slice ht h with h0 | ⟨a, len, cap, m, n, D, Pl, hcs, hb, hl, hm, hmm, hx, hi⟩
  · exact .inl h0.1
  · refine .inr ⟨a, len, cap, hcs, by omega, fun i hil => ?_⟩
    have him : i < m := by rw [hmm]; split <;> omega
    obtain ⟨cs', hc, ht'⟩ := hi i him
    rw [hC] at hc
    obtain ⟨ys, n', hn', hy, hlen, hyl, hf⟩ := DataW.trod_struct he ht'
    obtain ⟨_, hcl, hat⟩ := World.cells?_some hc
    refine ⟨n', fun j f hj => ?_⟩
    obtain ⟨ho, hk⟩ := hone_of hone j f hj
    have hjl : j < fs.size := (Array.getElem?_eq_some_iff.1 hj).1
    have hcell := hat j hjl
    have hv : cs'[j]? = some (cs'[j]'(by omega)) := List.getElem?_eq_getElem (by omega)
    have h1 := hf j f hj
    rw [ho, hk] at h1
    have hone' : (cs'.drop j).take 1 = [cs'[j]'(by omega)] := by
      rw [List.drop_eq_getElem_cons (by omega)]
      rfl
    rw [hone'] at h1
    have hys : ys[j]? = some (ys[j]'(by omega)) := List.getElem?_eq_getElem (by omega)
    refine ⟨_, _, ?_, h1.trans hys⟩
    rw [← Go.Deep.add_add, hcell, hv]
end

theorem lt_cell {w : World} {a : Addr} {v : Value} (h : w.cell? a = some v) : a.block < w.heap.size := by
  rcases Nat.lt_or_ge a.block w.heap.size with hlt | hge
  · exact hlt
  · simp [World.cell?, Array.getElem?_eq_none hge] at h

theorem open_acts {H : Type} {enc : TypeId × Value → H} {P : Program} {W : World} {t e : TypeId} {f0 f1 f2 : Field} (ht : P.underlying t = some (.slice e)) (he : P.underlying e = some (.struct #[f0, f1, f2])) (hone : oneCellFields P #[f0, f1, f2] = true) (hC : P.cellsOf e = 3)
    (t0 : P.underlying f0.type = some (.int .i64)) (t1 : P.underlying f1.type = some (.int .i64)) (t2 : P.underlying f2.type = some .string)
    {A : Option Addr} {len cap : Nat} {d : DataW H} {p : List MemPlace} (h : DataW.Trod enc P W 0 (fun _ => true) true t (.slice A len cap) d p) : ∃ X : Nat → Act, len ≤ 9223372036854775807 ∧ ActsIn W W.heap.size A len X := by
  obtain ⟨fuel, hf⟩ := h
  rcases open_slice_fields ht he hone hC hf with hcs | ⟨a, len', cap', hcs, hm, hi⟩
  · simp [Value.cells] at hcs
    obtain ⟨rfl, rfl, rfl⟩ := hcs
    exact ⟨fun _ => ⟨0, 0, ⟨#[]⟩⟩, by omega, fun h => by omega⟩
  · simp [Value.cells] at hcs
    obtain ⟨rfl, rfl, rfl⟩ := hcs
    unfold maxLen at hm
    have key : ∀ i, ∃ x : Act, i < len → x.k.size ≤ 9223372036854775807 ∧ ∀ j u, x.cells[j]? = some u → W.cell? (a.add (i * 3 + j)) = some u := by
      intro i
      by_cases hil : i < len
      · obtain ⟨n, hf⟩ := hi i hil
        obtain ⟨v0, y0, c0, r0⟩ := hf 0 f0 rfl
        obtain ⟨v1, y1, c1, r1⟩ := hf 1 f1 rfl
        obtain ⟨v2, y2, c2, r2⟩ := hf 2 f2 rfl
        obtain ⟨a0, e0, _, _⟩ := DataW.trod_int t0 r0
        obtain ⟨a1, e1, _, _⟩ := DataW.trod_int t1 r1
        obtain ⟨a2, e2, _, hm2⟩ := DataW.trod_string t2 r2
        injection e0 with e0
        injection e1 with e1
        injection e2 with e2
        subst e0 e1 e2
        unfold maxLen at hm2
        refine ⟨⟨a0, a1, a2⟩, fun _ => ⟨by show a2.size ≤ _; omega, fun j u hj => ?_⟩⟩
        match j, hj with
        | 0, hj => simp [Act.cells] at hj; subst hj; exact c0
        | 1, hj => simp [Act.cells] at hj; subst hj; exact c1
        | 2, hj => simp [Act.cells] at hj; subst hj; exact c2
        | j + 3, hj => simp [Act.cells] at hj
      · exact ⟨⟨0, 0, ⟨#[]⟩⟩, fun h => absurd h hil⟩
    by_cases hp : 0 < len
    · have h0 := ((key 0).choose_spec hp).2 0 _ rfl
      have hlt := lt_cell h0
      rw [add_block] at hlt
      have hsp : a = ⟨a.block, a.off, none⟩ := by
        obtain ⟨b, o, sp⟩ := a
        cases sp with
        | none => rfl
        | some q => simp [World.cell?, Addr.add] at h0; split at h0 <;> simp at h0
      generalize a.block = b at hsp hlt
      generalize a.off = o at hsp
      subst hsp
      refine ⟨fun i => (key i).choose, by omega, fun _ => ⟨b, o, rfl, hlt, fun i hil => ⟨((key i).choose_spec hil).1, fun j u hj => ?_⟩⟩⟩
      rw [← Addr.add_mid]
      exact ((key i).choose_spec hil).2 j u hj
    · exact ⟨fun i => (key i).choose, by omega, fun h => absurd h hp⟩
end Go.Proofs.Ythjechngpjkgnaa
