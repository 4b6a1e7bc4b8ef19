/- An event that came in, opened. -/
import Derived.Test.YtfekjlajagoooaaDoorEpQ
import Derived.Test.YtfekjlajagoooaaDoorOpenTabI8
import Derived.ProofKit
import Derived.Lib.SmallJoins
import Derived.Deep.Fields
import Derived.ChangeSame
namespace Go.Proofs.YtfekjlajagoooaaDoor
open Go.RowKit Go.Joins Go.ChangeShapes Go.WideShapes Go.Deep

theorem array6 {c : Array Value} (h : c.size = 6) : ∃ a0 a1 a2 a3 a4 a5, c = #[a0, a1, a2, a3, a4, a5] := by
  obtain ⟨l⟩ := c
  match l, h with
  | [a0, a1, a2, a3, a4, a5], _ => exact ⟨a0, a1, a2, a3, a4, a5, rfl⟩

theorem open_event {H : Type} {enc : TypeId × Value → H} {P : Program} {W : World} {r : Reach} {b0 : Nat} {t e q : TypeId} {f0 f1 f2 f3 f4 f5 : Field} {v : Value} {d : DataW H} {p : List MemPlace} (hs : P.underlying t = some (.struct #[f0, f1, f2, f3, f4, f5])) (hone : oneCellFields P #[f0, f1, f2, f3, f4, f5] = true) (hC : P.cellsOf t = 6)
    (t0 : P.underlying f0.type = some (.int .i64)) (t1 : P.underlying f1.type = some (.int .i32)) (t2 : P.underlying f2.type = some (.int .u8)) (t3 : P.underlying f3.type = some .string) (t4 : P.underlying f4.type = some (.slice e)) (t5 : P.underlying f5.type = some .string)
    (he : P.underlying e = some (.slice q)) (hq : P.underlying q = some (.int .i64)) (ce : P.cellsOf e = 1) (cq : P.cellsOf q = 1)
    (hv : Value.okWide P W r b0 t v) (h : DataW.Trod enc P W 0 (fun _ => true) true t v d p) :
    ∃ (k r f : Int) (m x : ByteArray) (A : Option Addr) (n c : Nat) (L : Nat → Nat) (T : Nat → Nat → Int), v = .agg #[.int .i64 k, .int .i32 r, .int .u8 f, .string m, .slice A n c, .string x] ∧ m.size ≤ 9223372036854775807 ∧ x.size ≤ 9223372036854775807 ∧ n ≤ 9223372036854775807 ∧ GridW W A n L T := by
  obtain ⟨cs, rfl, hsz⟩ := okWide_struct hs hv
  obtain ⟨c0, c1, c2, c3, c4, c5, rfl⟩ := array6 (hsz.trans hC)
  obtain ⟨fuel, hf⟩ := h
  obtain ⟨xs, n, _, _, _, hlen, hx⟩ := DataW.trod_struct hs hf
  obtain ⟨o0, k0⟩ := hone_of hone 0 f0 rfl
  obtain ⟨o1, k1⟩ := hone_of hone 1 f1 rfl
  obtain ⟨o2, k2⟩ := hone_of hone 2 f2 rfl
  obtain ⟨o3, k3⟩ := hone_of hone 3 f3 rfl
  obtain ⟨o4, k4⟩ := hone_of hone 4 f4 rfl
  obtain ⟨o5, k5⟩ := hone_of hone 5 f5 rfl
  match xs, hlen with
  | [y0, y1, y2, y3, y4, y5], _ =>
    have h0 : DataW.trod enc P W 0 (fun _ => true) true n f0.type [c0] = some y0 := by simpa [Value.cells, o0, k0] using hx 0 f0 rfl
    have h1 : DataW.trod enc P W 0 (fun _ => true) true n f1.type [c1] = some y1 := by simpa [Value.cells, o1, k1] using hx 1 f1 rfl
    have h2 : DataW.trod enc P W 0 (fun _ => true) true n f2.type [c2] = some y2 := by simpa [Value.cells, o2, k2] using hx 2 f2 rfl
    have h3 : DataW.trod enc P W 0 (fun _ => true) true n f3.type [c3] = some y3 := by simpa [Value.cells, o3, k3] using hx 3 f3 rfl
    have h4 : DataW.trod enc P W 0 (fun _ => true) true n f4.type [c4] = some y4 := by simpa [Value.cells, o4, k4] using hx 4 f4 rfl
    have h5 : DataW.trod enc P W 0 (fun _ => true) true n f5.type [c5] = some y5 := by simpa [Value.cells, o5, k5] using hx 5 f5 rfl
    obtain ⟨a0, e0, _, _⟩ := DataW.trod_int t0 h0
    obtain ⟨a1, e1, _, _⟩ := DataW.trod_int t1 h1
    obtain ⟨a2, e2, _, _⟩ := DataW.trod_int t2 h2
    obtain ⟨a3, e3, _, m3⟩ := DataW.trod_string t3 h3
    obtain ⟨a5, e5, _, m5⟩ := DataW.trod_string t5 h5
    injection e0 with e0
    injection e1 with e1
    injection e2 with e2
    injection e3 with e3
    injection e5 with e5
    unfold maxLen at m3 m5
    obtain ⟨A, len, cap, e4⟩ : ∃ A len cap, c4 = .slice A len cap := by
      rcases Deep.open_slice1 t4 ce h4 with ⟨hcs, _⟩ | ⟨a, l', c', m, n, V, D, Pl, hcs, _⟩
      · exact ⟨none, 0, 0, by simpa using hcs⟩
      · exact ⟨some a, l', c', by simpa using hcs⟩
    subst e4
    obtain ⟨L, T, hl, hg⟩ := open_gridW t4 he hq ce cq (cap := cap) ⟨n, h4⟩
    exact ⟨a0, a1, a2, a3, a5, A, len, cap, L, T, by rw [e0, e1, e2, e3, e5], by omega, by omega, hl, hg⟩
end Go.Proofs.YtfekjlajagoooaaDoor
