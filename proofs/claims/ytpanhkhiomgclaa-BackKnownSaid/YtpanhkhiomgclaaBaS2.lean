/- Layer 14, TRIAL: a back of texts in memory; written by gen_tx.py out of the same at numbers. -/
import Derived.Test.YtpanhkhiomgclaaBaS1
import Derived.Test.YtpanhkhiomgclaaBaCd
set_option linter.unusedVariables false
namespace Go.Proofs.Ytpanhkhiomgclaa.Ba.Tx
open Go.RowKit


/-- Block k is one of the back's at s: it may turn when something is put or popped. -/
def BkOwn (w : World) (s : Value) (k : Nat) : Prop := ∃ p, s = .pointer (some ⟨p, 0, none⟩) ∧ (k = p ∨ ∃ v, w.cell? ⟨p, 2, none⟩ = some v ∧ v.ownBlock = some k)
/-- A back at s: room for M, G gone, it has L. -/
def BkAt (w : World) (s : Value) (M G : Nat) (L : List ByteArray) : Prop := ∃ p v, s = .pointer (some ⟨p, 0, none⟩) ∧ w.heap[p]? = some (.cells #[.bool true, .int .i64 (M : Int), v, .int .i64 (G : Int)] 61 (0, 0)) ∧ WinI w 0 v L ∧ (∀ r, v.ownBlock = some r → r ≠ p) ∧ L.length ≤ M ∧ M ≤ 500
/-- What may turn at a call that puts or pops. -/
structure TurnB (s : Value) (w w' : World) : Prop where
  os : w'.os = w.os
  tape : w'.tape = w.tape
  output : w'.output = w.output
  size : w.heap.size ≤ w'.heap.size
  block : ∀ k, k < w.heap.size → ¬ BkOwn w s k → w'.heap[k]? = w.heap[k]?
  own : ∀ k, BkOwn w' s k → BkOwn w s k ∨ w.heap.size ≤ k
section
variable {w : World} {s : Value} {M G : Nat} {L : List ByteArray} (h : BkAt w s M G L)
include h
theorem BkAt.ptr : ∃ p, s = .pointer (some ⟨p, 0, none⟩) := by obtain ⟨p, v, e, _⟩ := h; exact ⟨p, e⟩
theorem BkAt.cap : L.length ≤ M ∧ M ≤ 500 := by obtain ⟨p, v, e, _, _, _, h1⟩ := h; exact h1
end
/-- A back's blocks hang on its own block alone. -/
theorem bk_own {w w' : World} {p k : Nat} (h : w'.heap[p]? = w.heap[p]?) (hk : BkOwn w' (.pointer (some ⟨p, 0, none⟩)) k) : BkOwn w (.pointer (some ⟨p, 0, none⟩)) k := by
  obtain ⟨q, e, hq⟩ := hk
  cases e
  refine ⟨p, rfl, ?_⟩
  rcases hq with h1 | ⟨v, h1, h2⟩
  · exact Or.inl h1
  · exact Or.inr ⟨v, (World.cell?_of_block h).symm.trans h1, h2⟩

def NewPost (w : World) (m : Int) (e : Ending) (w' : World) : Prop := Below w.heap.size w w' ∧ if newB m then ∃ s, e = .returned (.tuple #[s, .int .i64 0]) ∧ BkAt w' s m.toNat 0 [] ∧ ∀ k, BkOwn w' s k → w.heap.size ≤ k else e = .returned (.tuple #[.pointer none, .int .i64 1])
section
variable {w : World} {s : Value} {M G : Nat} {L : List ByteArray} (h : BkAt w s M G L)
include h
end

/-- Things with their numbers. -/
def pairs (L : List ByteArray) : List (Nat × ByteArray) := (List.range L.length).map fun i => (i, L.getD i noText)
/-- What All answers: a function that hands these things, with their numbers, to whatever loop that keeps what is not its own. -/
def AllTells (L : List ByteArray) (V : World) (e : Ending) (w' : World) : Prop := ∃ lb, e = .returned (.func (.func 35) #[] lb) ∧ Below V.heap.size V w' ∧
  ∀ Mine : World → Nat → Prop, MineOk w'.heap.size Mine → (∀ W, Below w'.heap.size w' W → ∀ k, Mine W k → k < V.heap.size) →
    SeqStopsK Fence.wide 2 Try.prog 35 lb (fun x : Nat × ByteArray => #[Value.int .i64 (x.1 : Int), .string x.2]) (KpM Mine) (fun ys => ys = pairs L) (fun pre => pre <+: pairs L) L.length w'
/-! ### pairs -/
theorem pairs_len (L : List ByteArray) : (pairs L).length = L.length := by simp [pairs]
theorem pairs_get (L : List ByteArray) (k : Nat) (h : k < L.length) : (pairs L).take (k + 1) = (pairs L).take k ++ [(k, L.getD k noText)] := by
  have hl : k < (pairs L).length := by rw [pairs_len]; exact h
  rw [List.take_add_one, List.getElem?_eq_getElem hl]
  simp [pairs]
end Go.Proofs.Ytpanhkhiomgclaa.Ba.Tx
