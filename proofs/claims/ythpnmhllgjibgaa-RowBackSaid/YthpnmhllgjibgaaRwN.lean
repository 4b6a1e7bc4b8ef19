/- Layer 11: acts that came in. -/
import Derived.Test.YthpnmhllgjibgaaRwK
set_option linter.unusedVariables false
namespace Go.Proofs.Ythpnmhllgjibgaa.Rw
open Go.RowKit

/-- What is done to a row. -/
structure Ac where
  d : Int
  x : Int
  n : Int
  r : Int
  wide : Bool
  a : Aa
def cellsA (c : Ac) : List Value := [.int .u8 c.d, .int .i64 c.x, .int .i64 c.n, .int .i32 c.r, .bool c.wide, .int .u16 (c.a.fl : Int), .int .u8 (c.a.fk : Int), .int .u32 (c.a.fn : Int), .int .u8 (c.a.bk : Int), .int .u32 (c.a.bn : Int)]
abbrev actV (c : Ac) : Value := .agg #[.int .u8 c.d, .int .i64 c.x, .int .i64 c.n, .int .i32 c.r, .bool c.wide, .int .u16 (c.a.fl : Int), .int .u8 (c.a.fk : Int), .int .u32 (c.a.fn : Int), .int .u8 (c.a.bk : Int), .int .u32 (c.a.bn : Int)]
abbrev actO (c : Ac) : Obj := .cells #[.int .u8 c.d, .int .i64 c.x, .int .i64 c.n, .int .i32 c.r, .bool c.wide, .int .u16 (c.a.fl : Int), .int .u8 (c.a.fk : Int), .int .u32 (c.a.fn : Int), .int .u8 (c.a.bk : Int), .int .u32 (c.a.bn : Int)] 37 (0, 0)
abbrev actP (d x n r : Int) (wide : Bool) (a : Aa) : Obj := .cells #[.int .u8 d, .int .i64 x, .int .i64 n, .int .i32 r, .bool wide, .int .u16 (a.fl : Int), .int .u8 (a.fk : Int), .int .u32 (a.fn : Int), .int .u8 (a.bk : Int), .int .u32 (a.bn : Int)] 37 (0, 0)
/-- Acts that lie at A, below block B. -/
def ActsR (w : World) (B : Nat) (A : Option Addr) (m : Nat) (X : Nat → Ac) : Prop := 0 < m → ∃ b o, A = some ⟨b, o, none⟩ ∧ b < B ∧ ∀ i, i < m → IntIn (X i).x ∧ IntIn (X i).n ∧ ∀ j u, (cellsA (X i))[j]? = some u → w.cell? ⟨b, o + (i * 10 + j), none⟩ = some u
theorem ActsR.keep {w w' : World} {B : Nat} {A : Option Addr} {m : Nat} {X : Nat → Ac} (h : ActsR w B A m X) (hk : ∀ p : Addr, p.block < B → w'.cell? p = w.cell? p) : ActsR w' B A m X := fun hn => by
  obtain ⟨b, o, e, hb, hr⟩ := h hn
  exact ⟨b, o, e, hb, fun i hi => ⟨(hr i hi).1, (hr i hi).2.1, fun j u hj => (hk _ hb).trans ((hr i hi).2.2 j u hj)⟩⟩
theorem ActsR.below {w w' : World} {B : Nat} {A : Option Addr} {m : Nat} {X : Nat → Ac} (h : ActsR w B A m X) (hb : Below B w w') : ActsR w' B A m X := h.keep fun _ hp => hb.cell hp
theorem ActsR.at_ {w : World} {B : Nat} {A : Option Addr} {m : Nat} {X : Nat → Ac} (h : ActsR w B A m X) {k : Nat} (hk : k < m) : ∃ b o, A = some ⟨b, o, none⟩ ∧ b < B ∧ IntIn (X k).x ∧ IntIn (X k).n ∧
    (w.cell? ⟨b, o + k * 10, none⟩ = some (.int .u8 (X k).d) ∧ w.cell? ⟨b, o + k * 10 + 1, none⟩ = some (.int .i64 (X k).x) ∧ w.cell? ⟨b, o + k * 10 + 2, none⟩ = some (.int .i64 (X k).n) ∧ w.cell? ⟨b, o + k * 10 + 3, none⟩ = some (.int .i32 (X k).r) ∧ w.cell? ⟨b, o + k * 10 + 4, none⟩ = some (.bool (X k).wide) ∧ w.cell? ⟨b, o + k * 10 + 5, none⟩ = some (.int .u16 ((X k).a.fl : Int)) ∧ w.cell? ⟨b, o + k * 10 + 6, none⟩ = some (.int .u8 ((X k).a.fk : Int)) ∧ w.cell? ⟨b, o + k * 10 + 7, none⟩ = some (.int .u32 ((X k).a.fn : Int)) ∧ w.cell? ⟨b, o + k * 10 + 8, none⟩ = some (.int .u8 ((X k).a.bk : Int)) ∧ w.cell? ⟨b, o + k * 10 + 9, none⟩ = some (.int .u32 ((X k).a.bn : Int))) := by
  obtain ⟨b, o, e, hb, hr⟩ := h (by omega)
  obtain ⟨h1, h2, hc⟩ := hr k hk
  refine ⟨b, o, e, hb, h1, h2, hc 0 _ rfl, ?_, ?_, ?_, ?_, ?_, ?_, ?_, ?_, ?_⟩
  · rw [Nat.add_assoc]; exact hc 1 _ rfl
  · rw [Nat.add_assoc]; exact hc 2 _ rfl
  · rw [Nat.add_assoc]; exact hc 3 _ rfl
  · rw [Nat.add_assoc]; exact hc 4 _ rfl
  · rw [Nat.add_assoc]; exact hc 5 _ rfl
  · rw [Nat.add_assoc]; exact hc 6 _ rfl
  · rw [Nat.add_assoc]; exact hc 7 _ rfl
  · rw [Nat.add_assoc]; exact hc 8 _ rfl
  · rw [Nat.add_assoc]; exact hc 9 _ rfl
theorem idx_act (b o n c k : Nat) (hk : k < n) (W : World) : (Instr.indexAt 35 (.slice (some ⟨b, o, none⟩) n c) (.int .i64 (k : Int))).run Try.prog W = .ok (.pointer (some ⟨b, o + k * 10, none⟩)) W := by
  have hs : ∀ W : World, (sizeOf (Try.prog.elem 35)).run Try.prog W = .ok 10 W := fun W => by kernel_rfl
  rw [run_indexAt_slice (P := Try.prog) W 35 ⟨b, o, none⟩ n c .i64 k (by kernel_rfl), if_pos (by omega), hs]
  simp only [Result.andThen, Int.toNat_natCast, add_oo]

/-- What a round of RowWhole carries. -/
def Carry (w wr : World) (v : Value) (L : List Ce) : Prop := OwnC wr w.heap.size v L ∧ wholeB L = true ∧ 1 ≤ L.length ∧ L.length ≤ 400 ∧ Below w.heap.size w wr
theorem Carry.post {w W1 w' : World} {L' : List Ce} {e : Ending} (hB : Below w.heap.size w W1) (h : RowPost W1 L' e w') (hw : wholeB L' = true) (h1 : 1 ≤ L'.length) (h4 : L'.length ≤ 400) : ∃ g c, e = .returned (.slice (some ⟨g, 0, none⟩) L'.length c) ∧ Carry w w' (.slice (some ⟨g, 0, none⟩) L'.length c) L' := by
  obtain ⟨v, rfl, ho, hb⟩ := h
  obtain ⟨g, c, rfl, _⟩ := own_some ho h1
  exact ⟨g, c, rfl, own_less ho hB.size, hw, h1, h4, hB.trans (hb.mono hB.size)⟩
theorem Carry.own {w W1 w' : World} {L' : List Ce} {v : Value} (hB : Below w.heap.size w W1) (ho : OwnC w' W1.heap.size v L') (hb : Below W1.heap.size W1 w') (hw : wholeB L' = true) (h1 : 1 ≤ L'.length) (h4 : L'.length ≤ 400) : ∃ g c, v = .slice (some ⟨g, 0, none⟩) L'.length c ∧ Carry w w' (.slice (some ⟨g, 0, none⟩) L'.length c) L' := by
  obtain ⟨g, c, rfl, _⟩ := own_some ho h1
  exact ⟨g, c, rfl, own_less ho hB.size, hw, h1, h4, hB.trans (hb.mono hB.size)⟩
theorem Carry.more {w wr w' : World} {v : Value} {L : List Ce} (h : Carry w wr v L) (hb : Below wr.heap.size wr w') : Carry w w' v L := ⟨own_below h.1 hb (Nat.le_refl _), h.2.1, h.2.2.1, h.2.2.2.1, h.2.2.2.2.trans (hb.mono h.2.2.2.2.size)⟩
end Go.Proofs.Ythpnmhllgjibgaa.Rw
