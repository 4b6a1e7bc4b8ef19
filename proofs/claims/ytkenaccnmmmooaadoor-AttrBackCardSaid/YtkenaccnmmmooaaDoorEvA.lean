/- Layer 8: events in memory; the document's parser in memory; print. -/
import Derived.Test.YtkenaccnmmmooaaDoorEvM
import Derived.Test.YtkenaccnmmmooaaDoorF5DcX
import Derived.Test.YtkenaccnmmmooaaDoorF7PaX
namespace Go.Proofs.YtkenaccnmmmooaaDoor
open Go.RowKit Ev

abbrev strK := D5.strK
/-- An event's cells. -/
def evCells (e : EV) (A : Option Addr) (c : Nat) : List Value := [.int .i64 e.kind, .int .i32 e.rune, .int .u8 e.final, .string (strK e.mids), .slice A e.params.length c, .string (strK e.text)]
def IsEv (w : World) (e : EV) (l : List Value) : Prop := ∃ A c, l = evCells e A c ∧ P7.TabT w A e.params
theorem IsEv.keep {w w' : World} {e : EV} {l : List Value} (h : IsEv w e l) (hk : P7.KeepT w w') : IsEv w' e l := by
  obtain ⟨A, c, e1, e2⟩ := h
  exact ⟨A, c, e1, e2.keep hk⟩
theorem IsEv.len {w : World} {e : EV} {l : List Value} (h : IsEv w e l) : l.length = 6 := by
  obtain ⟨A, c, rfl, _⟩ := h
  rfl
def Evs (w : World) : List EV → List (List Value) → Prop
  | [], [] => True
  | e :: L, l :: ls => IsEv w e l ∧ Evs w L ls
  | _, _ => False
theorem Evs.keep {w w' : World} (hk : P7.KeepT w w') : ∀ {L : List EV} {ls : List (List Value)}, Evs w L ls → Evs w' L ls
  | [], [], _ => trivial
  | _ :: _, _ :: _, h => ⟨h.1.keep hk, Evs.keep hk h.2⟩
  | [], _ :: _, h => h.elim
  | _ :: _, [], h => h.elim
theorem Evs.snoc {w : World} {e : EV} {l : List Value} (h1 : IsEv w e l) : ∀ {L : List EV} {ls : List (List Value)}, Evs w L ls → Evs w (L ++ [e]) (ls ++ [l])
  | [], [], _ => ⟨h1, trivial⟩
  | _ :: _, _ :: _, h => ⟨h.1, Evs.snoc h1 h.2⟩
  | [], _ :: _, h => h.elim
  | _ :: _, [], h => h.elim

/-- The slice v, of the call's own, of elements of type T, reads as these events. -/
def Told (w : World) (base : Nat) (T : TypeId) (v : Value) (L : List EV) : Prop := ∃ ls, Evs w L ls ∧ w.ownsRow base T 6 v L.length ls.flatten

theorem Told.form {w : World} {base : Nat} {T : TypeId} {v : Value} {L : List EV} (h : Told w base T v L) : ∃ A c, v = .slice A L.length c := by
  obtain ⟨ls, _, h1⟩ := h
  rcases h1.2 with ⟨rfl, h0⟩ | ⟨g, cap, cur, rfl, _⟩
  · exact ⟨none, 0, by rw [h0]⟩
  · exact ⟨_, cap, rfl⟩
theorem Told.ge {w : World} {base : Nat} {T : TypeId} {v : Value} {L : List EV} (h : Told w base T v L) : ∀ g, v.ownBlock = some g → base ≤ g ∧ g < w.heap.size ∧ ∃ cur, w.heap[g]? = some (.cells cur T (0, 0)) := by
  obtain ⟨ls, _, h1⟩ := h
  intro g hg
  rcases h1.2 with ⟨rfl, _⟩ | ⟨g', cap, cur, rfl, hb, hh, _⟩
  · simp [Value.ownBlock] at hg
  · have : g' = g := by simpa [Value.ownBlock] using hg
    subst this
    exact ⟨hb, (Array.getElem?_eq_some_iff.1 hh).1, cur, hh⟩
/-- It stays where its block, and the blocks of numbers, stay. -/
theorem Told.keep {w w' : World} {base : Nat} {T : TypeId} {v : Value} {L : List EV} (h : Told w base T v L) (hk : P7.KeepT w w') (hb : ∀ g, v.ownBlock = some g → w'.heap[g]? = w.heap[g]?) : Told w' base T v L := by
  obtain ⟨ls, h0, h1⟩ := h
  refine ⟨ls, h0.keep hk, h1.1, ?_⟩
  rcases h1.2 with h2 | ⟨g, cap, cur, rfl, h3, h4, h5⟩
  · exact Or.inl h2
  · exact Or.inr ⟨g, cap, cur, rfl, h3, (hb g rfl).trans h4, h5⟩
theorem Told.below {w w' : World} {base : Nat} {T : TypeId} {v : Value} {L : List EV} (h : Told w base T v L) (hb : Below w.heap.size w w') : Told w' base T v L :=
  h.keep (P7.KeepT.of_below hb) fun g hg => hb.block g (h.ge g hg).2.1
theorem Told.nil (w : World) (base : Nat) (T : TypeId) : Told w base T (.slice none 0 0) [] := ⟨[], trivial, rfl, Or.inl ⟨rfl, rfl⟩⟩
/-- An event more: behind the append. -/
theorem Told.snoc {w1 : World} {base : Nat} {T : TypeId} {v1 : Value} {L : List EV} {ls : List (List Value)} {e : EV} {l : List Value} (h1 : Evs w1 L ls) (h2 : IsEv w1 e l) (hown : w1.ownsRow base T 6 v1 (L.length + 1) (ls.flatten ++ l)) : Told w1 base T v1 (L ++ [e]) := by
  refine ⟨ls ++ [l], h1.snoc h2, ?_⟩
  rw [List.length_append, List.flatten_append]
  simpa using hown

/-- grownBy over a block that is no number's. -/
theorem keep_grown {w w1 : World} {base : Nat} {T : TypeId} {v : Value} {L : List EV} (h : Told w base T v L) (hT : T ≠ 3 ∧ T ≠ 36) (hg : w.grownBy w1 v.ownBlock) : P7.KeepT w w1 := by
  refine ⟨hg.size, fun k cur t hk ht => hg.block k (Array.getElem?_eq_some_iff.1 hk).1 fun e => ?_⟩
  obtain ⟨_, _, cur', hc⟩ := h.ge k e.symm
  rw [hc] at hk
  cases hk
  rcases ht with rfl | rfl
  · exact hT.1 rfl
  · exact hT.2 rfl

/-- The cells of the document's parser. -/
def cellsQ (q : Q) (V : Value) : Array Value := #[.int .i64 q.st, .string (strK q.kept), .string (strK q.list), .string (strK q.mids), .int .u8 q.final, .string (strK q.text), V]
theorem cell_at {w : World} {b : Nat} {c : Array Value} {t : TypeId} (h : w.heap[b]? = some (.cells c t (0, 0))) (i : Nat) : w.cell? ⟨b, i, none⟩ = c[i]? := by simp [World.cell?, h]
theorem free_at {w : World} {b : Nat} {c : Array Value} {t : TypeId} (h : w.heap[b]? = some (.cells c t (0, 0))) (i : Nat) : w.frozen? ⟨b, i, none⟩ = false := by simp [World.frozen?, h]
def zeroEv : Value := .agg #[.int .i64 0, .int .i32 0, .int .u8 0, .string ⟨#[]⟩, .slice none 0 0, .string ⟨#[]⟩]
theorem one_cells (w : World) (l : List Value) (t : TypeId) : ∀ j u, l[j]? = some u → (w.alloc (.cells l.toArray t)).cell? ((⟨w.heap.size, 0, none⟩ : Addr).add j) = some u := by
  intro j u hu
  rw [P7.add_zero, cell_at (Deep.blk_alloc_new w _) j]
  simpa using hu

end Go.Proofs.YtkenaccnmmmooaaDoor
