/- Layer 7: rows and tables whose blocks' types are known. -/
import Derived.Test.YtfekjlajagoooaaDoorF7PaE
import Derived.Deep.AppendLies
import Derived.Laws.OwnMore
namespace Go.Proofs.YtfekjlajagoooaaDoor.P7
open Go.RowKit Par

/-- A row. -/
def RowAt (w : World) (B : Nat) (A : Option Addr) (l : List Nat) : Prop := ∀ j, j < l.length → ∃ a', A = some a' ∧ a'.block < B ∧ w.cell? (a'.add j) = some (.int .i64 (l.getD j 0 : Nat))
theorem RowAt.below {w w' : World} {B C : Nat} {A : Option Addr} {l : List Nat} (h : RowAt w B A l) (hb : Below B w w') (hC : B ≤ C) : RowAt w' C A l := fun j hj => by
  obtain ⟨a, e, hl, hc⟩ := h j hj
  exact ⟨a, e, Nat.lt_of_lt_of_le hl hC, (hb.cell (p := a.add j) (by rw [add_block]; exact hl)).trans hc⟩
theorem RowAt.alloc {w : World} {A : Option Addr} {l : List Nat} (h : RowAt w w.heap.size A l) (x : Obj) : RowAt (w.alloc x) (w.alloc x).heap.size A l := h.below ((Below.refl _ _).alloc (Nat.le_refl _) _) (by simp)
theorem row_keep {w w' : World} {base : Nat} {e : TypeId} {v : Value} {n : Nat} {l : List Value} (h : w.ownsRow base e 1 v n l) (hk : ∀ g, v.ownBlock = some g → g < w.heap.size → w'.heap[g]? = w.heap[g]?) : w'.ownsRow base e 1 v n l := by
  refine ⟨h.1, ?_⟩
  rcases h.2 with h0 | ⟨g, cap, cur, rfl, h1, h2, h3⟩
  · exact Or.inl h0
  · exact Or.inr ⟨g, cap, cur, rfl, h1, (hk g rfl (Array.getElem?_eq_some_iff.1 h2).1).trans h2, h3⟩
theorem row_ge {w : World} {base : Nat} {e : TypeId} {v : Value} {n : Nat} {l : List Value} (h : w.ownsRow base e 1 v n l) : ∀ g, v.ownBlock = some g → base ≤ g ∧ g < w.heap.size := by
  intro g hg
  rcases h.2 with ⟨rfl, _⟩ | ⟨g', cap, cur, rfl, hb, hh, _⟩
  · simp [Value.ownBlock] at hg
  · have : g' = g := by simpa [Value.ownBlock] using hg
    subst this
    exact ⟨hb, (Array.getElem?_eq_some_iff.1 hh).1⟩
/-- Two rows of different types are two blocks. -/
theorem row_apart {w : World} {base base' : Nat} {e e' : TypeId} {v v' : Value} {n n' : Nat} {l l' : List Value} (h : w.ownsRow base e 1 v n l) (h' : w.ownsRow base' e' 1 v' n' l') (ht : e ≠ e') : ∀ g, v.ownBlock = some g → v'.ownBlock ≠ some g := by
  intro g hg hg'
  rcases h.2 with ⟨rfl, _⟩ | ⟨a, _, _, rfl, _, hh, _⟩
  · simp [Value.ownBlock] at hg
  · have e1 : a = g := by simpa [Value.ownBlock] using hg
    subst e1
    rcases h'.2 with ⟨rfl, _⟩ | ⟨a', _, _, rfl, _, hh', _⟩
    · simp [Value.ownBlock] at hg'
    · have e2 : a' = a := by simpa [Value.ownBlock] using hg'
      subst e2
      rw [hh] at hh'
      cases hh'
      exact ht rfl

/-- A row in a block of numbers. -/
structure RowI (w : World) (B : Nat) (A : Option Addr) (l : List Nat) : Prop where
  row : RowAt w B A l
  typ : ∀ a, A = some a → a.block < B ∧ ∃ cur, w.heap[a.block]? = some (.cells cur 3 (0, 0))
theorem RowI.block {w w' : World} {B C : Nat} {A : Option Addr} {l : List Nat} (h : RowI w B A l) (hb : ∀ a, A = some a → w'.heap[a.block]? = w.heap[a.block]?) (hC : B ≤ C) : RowI w' C A l := by
  refine ⟨fun j hj => ?_, fun a e => ?_⟩
  · obtain ⟨a, e, hl, hc⟩ := h.row j hj
    refine ⟨a, e, Nat.lt_of_lt_of_le hl hC, (World.cell?_of_block (w := w) ?_).trans hc⟩
    rw [add_block]
    exact hb _ e
  · obtain ⟨h1, cur, h2⟩ := h.typ a e
    exact ⟨Nat.lt_of_lt_of_le h1 hC, cur, (hb a e).trans h2⟩
theorem own_rowI {w : World} {base n cap g : Nat} {l : List Nat} (h : w.ownsRow base 3 1 (.slice (some ⟨g, 0, none⟩) n cap) n (intV l)) : RowI w w.heap.size (some ⟨g, 0, none⟩) l := by
  refine ⟨fun j hj => ?_, fun a e => ?_⟩
  · refine ⟨_, rfl, (row_ge h g rfl).2, ?_⟩
    have := World.ownsRow.cells (w := w) h (g := g) rfl j (.int .i64 (l.getD j 0 : Nat)) (by simp [intV, hj])
    rwa [add_zero] at this ⊢
  · cases e
    refine ⟨(row_ge h g rfl).2, ?_⟩
    rcases h.2 with ⟨e, _⟩ | ⟨g', cap', cur, e, _, hh, _⟩
    · cases e
    · cases e
      exact ⟨cur, hh⟩
/-- It is no block of slices. -/
theorem RowI.apart {w : World} {B base : Nat} {A : Option Addr} {l : List Nat} {v : Value} {n : Nat} {rs : List Value} (h : RowI w B A l) (hv : w.ownsRow base 47 1 v n rs) : ∀ a, A = some a → v.ownBlock ≠ some a.block := by
  intro a e hb
  obtain ⟨_, cur, hc⟩ := h.typ a e
  rcases hv.2 with ⟨rfl, _⟩ | ⟨g, _, _, rfl, _, hh, _⟩
  · simp [Value.ownBlock] at hb
  · have e2 : g = a.block := by simpa [Value.ownBlock] using hb
    rw [e2, hc] at hh
    cases hh

theorem Tab.more {w : World} {B C : Nat} {A : Option Addr} {l : List (List Nat)} (h : Tab w B A l) (hC : B ≤ C) : Tab w C A l := Grid.more h hC
theorem getD_mem {α : Type} (q : List α) (c : Nat) (d : α) (h : c < q.length) : q.getD c d ∈ q := by
  simp only [List.getD, List.getElem?_eq_getElem h, Option.getD_some]
  exact List.getElem_mem h

/-- A table that reads as these lists, in blocks of their types. -/
def TabT (w : World) (A : Option Addr) (l : List (List Nat)) : Prop := 0 < l.length → ∃ g, A = some ⟨g, 0, none⟩ ∧ (∃ cur, w.heap[g]? = some (.cells cur 47 (0, 0))) ∧
  ∀ r, r < l.length → ∃ A' c, w.cell? ⟨g, r, none⟩ = some (.slice A' (l.getD r []).length c) ∧ RowI w w.heap.size A' (l.getD r [])
/-- Blocks of numbers, and of slices of numbers, stay. -/
def KeepT (w w' : World) : Prop := w.heap.size ≤ w'.heap.size ∧ ∀ (k : Nat) (cur : Array Value) (t : TypeId), w.heap[k]? = some (.cells cur t (0, 0)) → (t = 3 ∨ t = 47) → w'.heap[k]? = w.heap[k]?
theorem TabT.keep {w w' : World} {A : Option Addr} {l : List (List Nat)} (h : TabT w A l) (hk : KeepT w w') : TabT w' A l := fun hp => by
  obtain ⟨g, e, ⟨cur, hc⟩, hr⟩ := h hp
  have hg := hk.2 g cur _ hc (Or.inr rfl)
  refine ⟨g, e, ⟨cur, hg.trans hc⟩, fun r hlt => ?_⟩
  obtain ⟨A', c, e1, e2⟩ := hr r hlt
  refine ⟨A', c, (World.cell?_of_block (w := w) hg).trans e1, e2.block (fun a ha => ?_) hk.1⟩
  obtain ⟨_, cur', hc'⟩ := e2.typ a ha
  exact hk.2 _ cur' _ hc' (Or.inl rfl)
theorem TabT.tab {w : World} {A : Option Addr} {l : List (List Nat)} (h : TabT w A l) (hl : ∀ q ∈ l, q.length ≤ 1000) : Tab w w.heap.size A l := fun hp => by
  obtain ⟨g, e, ⟨cur, hc⟩, hr⟩ := h hp
  refine ⟨_, e, (Array.getElem?_eq_some_iff.1 hc).1, fun r hlt => ?_⟩
  obtain ⟨A', c, e1, e2⟩ := hr r hlt
  refine ⟨A', c, by rw [add_zero]; exact e1, ?_, fun j hj => ?_⟩
  · have := hl _ (getD_mem l r [] hlt)
    show (l.getD r []).length ≤ _
    omega
  · obtain ⟨a', f1, f2, f3⟩ := e2.row j hj
    exact ⟨a', f1, f2, f3⟩
theorem KeepT.of_below {w w' : World} (hb : Below w.heap.size w w') : KeepT w w' := ⟨hb.size, fun k _ _ hk _ => hb.block k (Array.getElem?_eq_some_iff.1 hk).1⟩
theorem KeepT.trans {w w1 w2 : World} (h : KeepT w w1) (k : KeepT w1 w2) : KeepT w w2 := ⟨Nat.le_trans h.1 k.1, fun j cur t hj ht => (k.2 j cur t ((h.2 j cur t hj ht).trans hj) ht).trans (h.2 j cur t hj ht)⟩
theorem KeepT.refl (w : World) : KeepT w w := ⟨Nat.le_refl _, fun _ _ _ _ _ => rfl⟩

end Go.Proofs.YtfekjlajagoooaaDoor.P7
