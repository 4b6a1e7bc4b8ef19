/- Layer 14, TRIAL: a back in memory: what the program's contracts speak of. -/
import Derived.Test.YtpanhkhiomgclaaBaJ
import Derived.RangeFuncBox
import Derived.RangeFuncLeaves
import Derived.RangeFuncNested
import Derived.Shelf.Abstract
set_option linter.unusedVariables false
namespace Go.Proofs.Ytpanhkhiomgclaa.Ba
open Go.RowKit

/-- Block k is one of the back's at s: it may turn when something is put or popped. -/
def BkOwn (w : World) (s : Value) (k : Nat) : Prop := ∃ p, s = .pointer (some ⟨p, 0, none⟩) ∧ (k = p ∨ ∃ v, w.cell? ⟨p, 2, none⟩ = some v ∧ v.ownBlock = some k)
/-- A back at s: room for M, G gone, it has L. -/
def BkAt (w : World) (s : Value) (M G : Nat) (L : List Int) : Prop := ∃ p v, s = .pointer (some ⟨p, 0, none⟩) ∧ w.heap[p]? = some (.cells #[.bool true, .int .i64 (M : Int), v, .int .i64 (G : Int)] 41 (0, 0)) ∧ WinI w 0 v L ∧ (∀ r, v.ownBlock = some r → r ≠ p) ∧ L.length ≤ M ∧ M ≤ 500
/-- What may turn at a call that puts or pops. -/
structure TurnB (s : Value) (w w' : World) : Prop where
  os : w'.os = w.os
  tape : w'.tape = w.tape
  output : w'.output = w.output
  size : w.heap.size ≤ w'.heap.size
  block : ∀ k, k < w.heap.size → ¬ BkOwn w s k → w'.heap[k]? = w.heap[k]?
  own : ∀ k, BkOwn w' s k → BkOwn w s k ∨ w.heap.size ≤ k
section
variable {w : World} {s : Value} {M G : Nat} {L : List Int} (h : BkAt w s M G L)
include h
theorem BkAt.ptr : ∃ p, s = .pointer (some ⟨p, 0, none⟩) := by obtain ⟨p, v, e, _⟩ := h; exact ⟨p, e⟩
theorem BkAt.cap : L.length ≤ M ∧ M ≤ 500 := by obtain ⟨p, v, e, _, _, _, h1⟩ := h; exact h1
end
/-- A back's blocks hang on its own block alone. -/
theorem bk_own {w w' : World} {p k : Nat} (h : w'.heap[p]? = w.heap[p]?) (hk : BkOwn w' (.pointer (some ⟨p, 0, none⟩)) k) : BkOwn w (.pointer (some ⟨p, 0, none⟩)) k := by
  obtain ⟨q, e, hq⟩ := hk
  cases e
  refine ⟨p, rfl, ?_⟩
  rcases hq with h1 | ⟨v, h1, h2⟩
  · exact Or.inl h1
  · exact Or.inr ⟨v, (World.cell?_of_block h).symm.trans h1, h2⟩

def NewPost (w : World) (m : Int) (e : Ending) (w' : World) : Prop := Below w.heap.size w w' ∧ if newB m then ∃ s, e = .returned (.tuple #[s, .int .i64 0]) ∧ BkAt w' s m.toNat 0 [] ∧ ∀ k, BkOwn w' s k → w.heap.size ≤ k else e = .returned (.tuple #[.pointer none, .int .i64 1])
section
variable {w : World} {s : Value} {M G : Nat} {L : List Int} (h : BkAt w s M G L)
include h
end

/-! ### All -/
/-- Things with their numbers. -/
def pairs (L : List Int) : List (Nat × Int) := (List.range L.length).map fun i => (i, L.getD i 0)
/-- What a round may turn: blocks that Mine names, and new ones. -/
def KpM (Mine : World → Nat → Prop) (W W' : World) : Prop := W.heap.size ≤ W'.heap.size ∧ (∀ (k : Nat) (cs : Array Value) (t : TypeId) (fr : Nat × Nat), W.heap[k]? = some (Obj.cells cs t fr) → ¬ Mine W k → W'.heap[k]? = W.heap[k]?) ∧ ∀ k, k < W.heap.size → Mine W' k → Mine W k
/-- Mine hangs on what stood below S alone. -/
def MineOk (S : Nat) (Mine : World → Nat → Prop) : Prop := ∀ W W' row, S ≤ W.heap.size → W.grownBy W' row → (∀ r, row = some r → S ≤ r ∧ ∃ o : Obj, W.heap[r]? = some o ∧ o.isCells = false) → ∀ k, Mine W' k → Mine W k
theorem KpM.trans {Mine : World → Nat → Prop} {X Y Z : World} (h : KpM Mine X Y) (k : KpM Mine Y Z) : KpM Mine X Z :=
  ⟨Nat.le_trans h.1 k.1, fun i cs t fr hc hn => by
    have h1 := h.2.1 i cs t fr hc hn
    exact (k.2.1 i cs t fr (h1.trans hc) fun hm => hn (h.2.2 i (blk_lt hc) hm)).trans h1, fun i hi hm => h.2.2 i hi (k.2.2 i (Nat.lt_of_lt_of_le hi h.1) hm)⟩
theorem KpM.put {S : Nat} {Mine : World → Nat → Prop} (hM : MineOk S Mine) (W : World) (l : Nat) (o o' : Obj) (hl : S ≤ l) (h : W.heap[l]? = some o) (hc : o.isCells = false) : KpM Mine W (W.putObj l o') := by
  have hg := grownBy_putObj' W l o'
  refine ⟨hg.size, fun k cs t fr hk _ => hg.block k (blk_lt hk) (fun e => ?_), fun k _ hm => hM W _ (some l) (Nat.le_trans hl (Nat.le_of_lt (blk_lt h))) hg (fun r e => by cases e; exact ⟨hl, o, h, hc⟩) k hm⟩
  cases e
  rw [h] at hk
  cases hk
  simp [Obj.isCells] at hc
/-- What All answers: a function that hands these things, with their numbers, to whatever loop that keeps what is not its own. -/
def AllTells (L : List Int) (V : World) (e : Ending) (w' : World) : Prop := ∃ lb, e = .returned (.func (.func 31) #[] lb) ∧ Below V.heap.size V w' ∧
  ∀ Mine : World → Nat → Prop, MineOk w'.heap.size Mine → (∀ W, Below w'.heap.size w' W → ∀ k, Mine W k → k < V.heap.size) →
    SeqStopsK Fence.wide 2 Try.prog 31 lb (fun x : Nat × Int => #[Value.int .i64 (x.1 : Int), .int .i64 x.2]) (KpM Mine) (fun ys => ys = pairs L) (fun pre => pre <+: pairs L) L.length w'
/-! ### none: a nil back, and one that New did not make -/
def zeroB : Array Value := #[.bool false, .int .i64 0, .slice none 0 0, .int .i64 0]
def NoBk (w : World) (s : Value) : Prop := s = .pointer none ∨ ∃ p, s = .pointer (some ⟨p, 0, none⟩) ∧ w.heap[p]? = some (.cells zeroB 41 (0, 0))
/-- Of a back that is none its own block alone may turn. -/
structure TurnN (s : Value) (w w' : World) : Prop where
  os : w'.os = w.os
  tape : w'.tape = w.tape
  output : w'.output = w.output
  size : w.heap.size ≤ w'.heap.size
  block : ∀ k, k < w.heap.size → s ≠ .pointer (some ⟨k, 0, none⟩) → w'.heap[k]? = w.heap[k]?
section
variable {w : World} {s : Value} (h : NoBk w s)
include h
theorem NoBk.keep {w' : World} (hb : ∀ p, s = .pointer (some ⟨p, 0, none⟩) → w'.heap[p]? = w.heap[p]?) : NoBk w' s := by
  rcases h with h | ⟨p, e, hp⟩
  · exact Or.inl h
  · exact Or.inr ⟨p, e, (hb p e).trans hp⟩
theorem NoBk.lt : ∀ p, s = .pointer (some ⟨p, 0, none⟩) → p < w.heap.size := by
  intro p e
  rcases h with h | ⟨p', e', hp⟩
  · rw [h] at e; cases e
  · rw [e'] at e
    cases e
    exact blk_lt hp
end
/-! ### pairs -/
theorem pairs_len (L : List Int) : (pairs L).length = L.length := by simp [pairs]
theorem pairs_get (L : List Int) (k : Nat) (h : k < L.length) : (pairs L).take (k + 1) = (pairs L).take k ++ [(k, L.getD k 0)] := by
  have hl : k < (pairs L).length := by rw [pairs_len]; exact h
  rw [List.take_add_one, List.getElem?_eq_getElem hl]
  simp [pairs]
end Go.Proofs.Ytpanhkhiomgclaa.Ba
