/- Layer 14: a back of the call's own beside the document's. -/
import Derived.Test.YtpanhkhiomgclaaBaPs
set_option linter.unusedVariables false
namespace Go.Proofs.Ytpanhkhiomgclaa.Ba
open Go.RowKit

/-- The back at s has L (G gone), the document's in block g has L' (G' gone); neither lies in the other's blocks. -/
def DuoB (w V : World) (s : Value) (g M G : Nat) (L : List Int) (G' : Nat) (L' : List Int) : Prop := MineB w V s M G L ∧ RefAt (fun b => ¬ BkOwn V s b ∧ b ≠ g) V g M G' L' ∧ ¬ BkOwn V s g ∧ w.heap.size ≤ g
namespace DuoB
variable {w V U : World} {s : Value} {g M G G' : Nat} {L L' : List Int}
theorem below (h : DuoB w V s g M G L G' L') : Below w.heap.size w V := h.1.below
theorem cap (h : DuoB w V s g M G L G' L') : L.length ≤ M ∧ M ≤ 500 := h.1.cap
theorem lt (h : DuoB w V s g M G L G' L') : g < V.heap.size := by
  obtain ⟨A, c, h1, _⟩ := h.2.1
  exact blk_lt h1
theorem old (h : DuoB w V s g M G L G' L') (hb : Below V.heap.size V U) : DuoB w U s g M G L G' L' := by
  have hk := h.1.2.1.keep (fun k hk => hb.block k (h.1.2.1.lt k hk)) hb.size
  exact ⟨h.1.old hb, (h.2.1.below hb).more (fun b hb' _ => ⟨fun ho => hb'.1 (hk.2 b ho), hb'.2⟩) (fun hg => hg.2 rfl), fun ho => h.2.2.1 (hk.2 g ho), h.2.2.2⟩
/-- The back has turned. -/
theorem turn (h : DuoB w V s g M G L G' L') {G2 : Nat} {L2 : List Int} (hm : MineB w U s M G2 L2) (ht : TurnB s V U) : DuoB w U s g M G2 L2 G' L' := by
  have h1 : RefAt (fun b => (¬ BkOwn V s b ∧ b ≠ g) ∧ b < V.heap.size) V g M G' L' := h.2.1.more (fun b hb hl => ⟨hb, hl⟩) (fun hg => hg.1.2 rfl)
  have h2 := h1.keep (ht.block g h.lt h.2.2.1) (fun b hb hl => ht.block b hl hb.1.1) ht.size
  have hg2 : ¬ BkOwn U s g := fun ho => by
    rcases ht.own g ho with h3 | h3
    · exact h.2.2.1 h3
    · have := h.lt; omega
  refine ⟨hm, h2.more (fun b hb _ => ⟨fun ho => ?_, hb.1.2⟩) (fun hg => hg.2 rfl), hg2, h.2.2.2⟩
  rcases ht.own b ho with h3 | h3
  · exact hb.1.1 h3
  · have := hb.2; omega
/-- The document's has turned. -/
theorem turnG (h : DuoB w V s g M G L G' L') {G2 : Nat} {L2 : List Int} (ht : TurnG g V U) (hr : RefAt (fun b => V.heap.size ≤ b) U g M G2 L2 ∨ RefAt (fun b => ¬ BkOwn V s b ∧ b ≠ g) U g M G2 L2) : DuoB w U s g M G L G2 L2 := by
  have hk := h.1.2.1.keep (fun k hk => ht.block k (h.1.2.1.lt k hk) (fun e => h.2.2.1 (e ▸ hk))) ht.size
  refine ⟨⟨ht.below h.below h.below.size h.2.2.2, hk.1, fun k ho => h.1.2.2 k (hk.2 k ho)⟩, ?_, fun ho => h.2.2.1 (hk.2 g ho), h.2.2.2⟩
  rcases hr with hr | hr
  · exact hr.more (fun b hb _ => ⟨fun ho => absurd (h.1.2.1.lt b (hk.2 b ho)) (by omega), fun e => by have := h.lt; omega⟩) (fun hg => hg.2 rfl)
  · exact hr.more (fun b hb _ => ⟨fun ho => hb.1 (hk.2 b ho), hb.2⟩) (fun hg => hg.2 rfl)
end DuoB
theorem duo_new {w V : World} {s : Value} {M : Nat} (h : MineB w V s M 0 []) : DuoB w (V.alloc (.cells #[.int .i64 (M : Int), .slice none 0 0, .int .i64 0] 30 (0, 0))) s V.heap.size M 0 [] 0 [] := by
  have hb : Below V.heap.size V (V.alloc (.cells #[.int .i64 (M : Int), .slice none 0 0, .int .i64 0] 30 (0, 0))) := (Below.refl _ _).alloc (Nat.le_refl _) _
  have hk := h.2.1.keep (fun k hk => hb.block k (h.2.1.lt k hk)) hb.size
  have hno : ¬ BkOwn (V.alloc (.cells #[.int .i64 (M : Int), .slice none 0 0, .int .i64 0] 30 (0, 0))) s V.heap.size := fun ho => absurd (h.2.1.lt _ (hk.2 _ ho)) (Nat.lt_irrefl _)
  refine ⟨h.old hb, ⟨none, 0, heap_new V _, ⟨liesI_nil _, fun A n c b o e e2 hn => ?_⟩, fun hg => hg.2 rfl⟩, hno, h.below.size⟩
  injection e with e1 e3 e4
  simp at e3
  omega
section
variable {w V : World} {s : Value} {g M G G' : Nat} {L L' : List Int} (h : DuoB w V s g M G L G' L')
include h
theorem duo_put (x : Int) (hG : G ≤ 1000000) : Calls Try.prog 10 #[s, .int .i64 x] V fun e w' => e = .returned (.bool (putB M L)) ∧ DuoB w w' s g M (goneV M L G) (putV M L x) G' L' := (mine_put h.1 x hG).mono fun e w' ⟨he, hm, ht⟩ => ⟨he, h.turn hm ht⟩
theorem duo_pop : Calls Try.prog 12 #[s] V fun e w' => e = .returned (.tuple #[.int .i64 (popX L), .bool (someB L)]) ∧ DuoB w w' s g M G L.dropLast G' L' := (mine_pop h.1).mono fun e w' ⟨he, hm, ht⟩ => ⟨he, h.turn hm ht⟩
theorem duo_clear : Calls Try.prog 21 #[s] V fun e w' => e = .returned (.tuple #[]) ∧ DuoB w w' s g M G [] G' L' := (mine_clear h.1).mono fun e w' ⟨he, hm, ht⟩ => ⟨he, h.turn hm ht⟩
theorem duo_at (i : Int) (hi : IntIn i) : Calls Try.prog 14 #[s, .int .i64 i] V fun e w' => e = .returned (.tuple #[.int .i64 (atX L i), .bool (atB L i)]) ∧ DuoB w w' s g M G L G' L' := (mine_at h.1 i hi).mono fun e w' ⟨he, _, hb⟩ => ⟨he, h.old hb⟩
theorem duo_putR (x : Int) (hL : L'.length ≤ 100000) (hG : G' ≤ 1000000) : Calls Try.prog 11 #[.pointer (some ⟨g, 0, none⟩), .int .i64 x] V fun e w' => e = .returned (.bool (putB M L')) ∧ DuoB w w' s g M G L (goneV M L' G') (putV M L' x) := (ref_put h.2.1 x hL (by have := h.cap; omega) hG).mono fun e w' ⟨he, hr, ht⟩ => ⟨he, h.turnG ht (Or.inl hr)⟩
theorem duo_popR (hL : L'.length ≤ 100000) : Calls Try.prog 13 #[.pointer (some ⟨g, 0, none⟩)] V fun e w' => e = .returned (.tuple #[.int .i64 (popX L'), .bool (someB L')]) ∧ DuoB w w' s g M G L G' L'.dropLast := (ref_pop h.2.1 hL).mono fun e w' ⟨he, hr, ht⟩ => ⟨he, h.turnG ht (Or.inr hr)⟩
end
end Go.Proofs.Ytpanhkhiomgclaa.Ba
