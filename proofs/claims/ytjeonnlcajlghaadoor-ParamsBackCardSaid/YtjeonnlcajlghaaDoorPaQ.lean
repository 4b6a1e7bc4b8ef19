/- Layer 7: a list of lists while it is built by append: as XPaJ, the last one nil at first. -/
import Derived.Test.YtjeonnlcajlghaaDoorPaG
import Derived.Deep.AppendLies
import Derived.Laws.OwnMore
namespace Go.Proofs.YtjeonnlcajlghaaDoor
open Go.RowKit Par

theorem row_keep {w w' : World} {base : Nat} {e : TypeId} {v : Value} {n : Nat} {l : List Value} (h : w.ownsRow base e 1 v n l) (hk : ∀ g, v.ownBlock = some g → g < w.heap.size → w'.heap[g]? = w.heap[g]?) : w'.ownsRow base e 1 v n l := by
  refine ⟨h.1, ?_⟩
  rcases h.2 with h0 | ⟨g, cap, cur, rfl, h1, h2, h3⟩
  · exact Or.inl h0
  · exact Or.inr ⟨g, cap, cur, rfl, h1, (hk g rfl (Array.getElem?_eq_some_iff.1 h2).1).trans h2, h3⟩
theorem row_ge {w : World} {base : Nat} {e : TypeId} {v : Value} {n : Nat} {l : List Value} (h : w.ownsRow base e 1 v n l) : ∀ g, v.ownBlock = some g → base ≤ g ∧ g < w.heap.size := by
  intro g hg
  rcases h.2 with ⟨rfl, _⟩ | ⟨g', cap, cur, rfl, hb, hh, _⟩
  · simp [Value.ownBlock] at hg
  · have : g' = g := by simpa [Value.ownBlock] using hg
    subst this
    exact ⟨hb, (Array.getElem?_eq_some_iff.1 hh).1⟩
/-- Two rows of different types are two blocks. -/
theorem row_apart {w : World} {base base' : Nat} {e e' : TypeId} {v v' : Value} {n n' : Nat} {l l' : List Value} (h : w.ownsRow base e 1 v n l) (h' : w.ownsRow base' e' 1 v' n' l') (ht : e ≠ e') : ∀ g, v.ownBlock = some g → v'.ownBlock ≠ some g := by
  intro g hg hg'
  rcases h.2 with ⟨rfl, _⟩ | ⟨a, _, _, rfl, _, hh, _⟩
  · simp [Value.ownBlock] at hg
  · have e1 : a = g := by simpa [Value.ownBlock] using hg
    subst e1
    rcases h'.2 with ⟨rfl, _⟩ | ⟨a', _, _, rfl, _, hh', _⟩
    · simp [Value.ownBlock] at hg'
    · have e2 : a' = a := by simpa [Value.ownBlock] using hg'
      subst e2
      rw [hh] at hh'
      cases hh'
      exact ht rfl

/-- A row in a block of numbers. -/
structure RowI (w : World) (B : Nat) (A : Option Addr) (l : List Nat) : Prop where
  row : RowAt w B A l
  typ : ∀ a, A = some a → a.block < B ∧ ∃ cur, w.heap[a.block]? = some (.cells cur 3 (0, 0))
theorem RowI.block {w w' : World} {B C : Nat} {A : Option Addr} {l : List Nat} (h : RowI w B A l) (hb : ∀ a, A = some a → w'.heap[a.block]? = w.heap[a.block]?) (hC : B ≤ C) : RowI w' C A l := by
  refine ⟨fun j hj => ?_, fun a e => ?_⟩
  · obtain ⟨a, e, hl, hc⟩ := h.row j hj
    refine ⟨a, e, Nat.lt_of_lt_of_le hl hC, (World.cell?_of_block (w := w) ?_).trans hc⟩
    rw [add_block]
    exact hb _ e
  · obtain ⟨h1, cur, h2⟩ := h.typ a e
    exact ⟨Nat.lt_of_lt_of_le h1 hC, cur, (hb a e).trans h2⟩
theorem own_rowI {w : World} {base n cap g : Nat} {l : List Nat} (h : w.ownsRow base 3 1 (.slice (some ⟨g, 0, none⟩) n cap) n (intV l)) : RowI w w.heap.size (some ⟨g, 0, none⟩) l := by
  refine ⟨fun j hj => ?_, fun a e => ?_⟩
  · refine ⟨_, rfl, (row_ge h g rfl).2, ?_⟩
    have := World.ownsRow.cells (w := w) h (g := g) rfl j (.int .i64 (l.getD j 0 : Nat)) (by simp [intV, hj])
    rwa [add_zero] at this ⊢
  · cases e
    refine ⟨(row_ge h g rfl).2, ?_⟩
    rcases h.2 with ⟨e, _⟩ | ⟨g', cap', cur, e, _, hh, _⟩
    · cases e
    · cases e
      exact ⟨cur, hh⟩
/-- It is no block of slices. -/
theorem RowI.apart {w : World} {B base : Nat} {A : Option Addr} {l : List Nat} {v : Value} {n : Nat} {rs : List Value} (h : RowI w B A l) (hv : w.ownsRow base 26 1 v n rs) : ∀ a, A = some a → v.ownBlock ≠ some a.block := by
  intro a e hb
  obtain ⟨_, cur, hc⟩ := h.typ a e
  rcases hv.2 with ⟨rfl, _⟩ | ⟨g, _, _, rfl, _, hh, _⟩
  · simp [Value.ownBlock] at hb
  · have e2 : g = a.block := by simpa [Value.ownBlock] using hb
    rw [e2, hc] at hh
    cases hh

/-- A list of lists while it is built: what is whole; the one that is not (at O). -/
structure BackM (w0 w : World) (base b : Nat) (all : List (List Nat)) (one : List Nat) (A : Option Addr) (cA : Nat) (O : Option Addr) (cO : Nat) : Prop where
  old : Below base w0 w
  bb : base ≤ b
  sz : b ≤ w.heap.size
  own : w.ownsRow b 3 1 (.slice O one.length cO) one.length (intV one)
  rows : ∃ rs, w.ownsRow base 26 1 (.slice A all.length cA) all.length rs ∧ ∀ i, i < all.length → ∃ A' c, rs[i]? = some (.slice A' (all.getD i []).length c) ∧ RowI w b A' (all.getD i [])

theorem BackM.below {w0 w w' : World} {base b : Nat} {all : List (List Nat)} {one : List Nat} {A O : Option Addr} {cA cO : Nat} (h : BackM w0 w base b all one A cA O cO) (hb : Below w.heap.size w w') : BackM w0 w' base b all one A cA O cO := by
  obtain ⟨rs, h1, h2⟩ := h.rows
  have hsz := h.sz
  have hbb := h.bb
  refine ⟨h.old.trans (hb.mono (by omega)), h.bb, Nat.le_trans h.sz hb.size, row_keep h.own (fun k _ hk => hb.block k hk), rs, row_keep h1 (fun k _ hk => hb.block k hk), fun i hi => ?_⟩
  obtain ⟨A', c, e, hr⟩ := h2 i hi
  exact ⟨A', c, e, hr.block (fun a ha => hb.block _ (by have := (hr.typ a ha).1; omega)) (Nat.le_refl _)⟩
theorem BackM.alloc {w0 w : World} {base b : Nat} {all : List (List Nat)} {one : List Nat} {A O : Option Addr} {cA cO : Nat} (h : BackM w0 w base b all one A cA O cO) (o : Obj) : BackM w0 (w.alloc o) base b all one A cA O cO := h.below ((Below.refl _ _).alloc (Nat.le_refl _) _)
theorem BackM.drewN {w0 w : World} {base b : Nat} {all : List (List Nat)} {one : List Nat} {A O : Option Addr} {cA cO : Nat} (h : BackM w0 w base b all one A cA O cO) (n : Nat) : BackM w0 (w.drewN n) base b all one A cA O cO := h.below (below_drew (Below.refl _ _) n)

theorem BackM.start {w0 w : World} (h : Below w0.heap.size w0 w) : BackM w0 w w0.heap.size w.heap.size [] [] none 0 none 0 :=
  ⟨h, h.size, Nat.le_refl _, ⟨rfl, Or.inl ⟨rfl, rfl⟩⟩, [], ⟨rfl, Or.inl ⟨rfl, rfl⟩⟩, fun i hi => by simp at hi⟩

/-- A nil one. -/
theorem BackM.fresh {w0 w : World} {base b : Nat} {all : List (List Nat)} {one : List Nat} {A O : Option Addr} {cA cO : Nat} (h : BackM w0 w base b all one A cA O cO) : BackM w0 w base w.heap.size all [] A cA none 0 := by
  obtain ⟨rs, h1, h2⟩ := h.rows
  have hsz := h.sz
  have hbb := h.bb
  refine ⟨h.old, by omega, Nat.le_refl _, ⟨rfl, Or.inl ⟨rfl, rfl⟩⟩, rs, h1, fun i hi => ?_⟩
  obtain ⟨A', c, e, hr⟩ := h2 i hi
  exact ⟨A', c, e, hr.block (fun _ _ => rfl) h.sz⟩

/-- A part more. -/
theorem BackM.put {w0 w w1 : World} {base b : Nat} {all : List (List Nat)} {one : List Nat} {A O : Option Addr} {cA cO : Nat} (h : BackM w0 w base b all one A cA O cO) (n : Nat) {o : Obj} {v : Value}
    (hown : w1.ownsRow b 3 1 v (one.length + 1) (intV one ++ [.int .i64 n])) (hg : (w.alloc o).grownBy w1 (Value.slice O one.length cO).ownBlock) :
    ∃ g' c', v = .slice (some ⟨g', 0, none⟩) (one.length + 1) c' ∧ BackM w0 w1 base b all (one ++ [n]) A cA (some ⟨g', 0, none⟩) c' := by
  obtain ⟨g', c', rfl, _, _⟩ := hown.form (by omega)
  have h' := h.alloc o
  obtain ⟨rs, h1, h2⟩ := h'.rows
  have hge := row_ge h'.own
  have hsz := h'.sz
  have hbb := h.bb
  have hsize := hg.size
  refine ⟨g', c', rfl, h'.old.grown hg (by omega) (fun k hk => by have := (hge k hk).1; omega), h.bb, by omega, ?_, rs, row_keep h1 (fun k hk hkl => hg.block k hkl ?_), fun i hi => ?_⟩
  · rw [List.length_append]
    rw [show intV (one ++ [n]) = intV one ++ [.int .i64 n] by simp [intV]]
    exact hown
  · intro e
    exact row_apart h1 h'.own (by decide) k hk e.symm
  · obtain ⟨A', c, e, hr⟩ := h2 i hi
    exact ⟨A', c, e, hr.block (fun a ha => hg.block _ (by have := (hr.typ a ha).1; omega) (fun e => by have := (hr.typ a ha).1; have := (hge _ e.symm).1; omega)) (Nat.le_refl _)⟩

/-- A parameter more, and a nil one. -/
theorem BackM.push {w0 w w1 : World} {base b : Nat} {all : List (List Nat)} {one : List Nat} {A : Option Addr} {cA g cO : Nat} (h : BackM w0 w base b all one A cA (some ⟨g, 0, none⟩) cO) {o : Obj} {v : Value} {rs : List Value}
    (hrs : ∀ i, i < all.length → ∃ A' c, rs[i]? = some (.slice A' (all.getD i []).length c) ∧ RowI w b A' (all.getD i []))
    (hrl : rs.length = all.length)
    (hown : w1.ownsRow base 26 1 v (all.length + 1) (rs ++ [.slice (some ⟨g, 0, none⟩) one.length cO])) (hg : (w.alloc o).grownBy w1 (Value.slice A all.length cA).ownBlock) :
    ∃ g' c', v = .slice (some ⟨g', 0, none⟩) (all.length + 1) c' ∧ BackM w0 w1 base w1.heap.size (all ++ [one]) [] (some ⟨g', 0, none⟩) c' none 0 := by
  obtain ⟨g', c', rfl, _, _⟩ := hown.form (by omega)
  have h' := h.alloc o
  obtain ⟨rs', h1, _⟩ := h'.rows
  have hsz := h.sz
  have hbb := h.bb
  have hsize := hg.size
  have hsa : (w.alloc o).heap.size = w.heap.size + 1 := by simp
  have ho1 : w1.ownsRow b 3 1 (.slice (some ⟨g, 0, none⟩) one.length cO) one.length (intV one) := row_keep h'.own (fun k hk hkl => hg.block k hkl (fun e => row_apart h'.own h1 (by decide) k hk e.symm))
  have hold : Below base w0 w1 := h'.old.grown hg (by omega) (fun k hk => (row_ge h1 k hk).1)
  refine ⟨g', c', rfl, hold, by omega, Nat.le_refl _, ⟨rfl, Or.inl ⟨rfl, rfl⟩⟩, rs ++ [.slice (some ⟨g, 0, none⟩) one.length cO], ?_, fun i hi => ?_⟩
  · rw [List.length_append]
    exact hown
  · rw [List.length_append] at hi
    by_cases hlt : i < all.length
    · obtain ⟨A', c, e, hr⟩ := hrs i hlt
      have hge : (all ++ [one]).getD i [] = all.getD i [] := by rw [getD_snoc, if_pos hlt]
      rw [hge]
      refine ⟨A', c, by rw [List.getElem?_append_left (by omega)]; exact e, ?_⟩
      have hr0 : RowI (w.alloc o) b A' (all.getD i []) := hr.block (fun a ha => heap_alloc_old w o (by have := (hr.typ a ha).1; omega)) (Nat.le_refl _)
      exact hr0.block (fun a ha => hg.block _ (by have := (hr.typ a ha).1; omega) (fun e => hr0.apart h1 a ha e.symm)) (by omega)
    · have hi' : i = all.length := by simp at hi; omega
      subst hi'
      have hge : (all ++ [one]).getD all.length [] = one := by rw [getD_snoc, if_neg (by omega), if_pos rfl]
      rw [hge]
      exact ⟨some ⟨g, 0, none⟩, cO, by rw [List.getElem?_append_right (by omega), hrl, Nat.sub_self]; rfl, own_rowI ho1⟩

theorem Tab.more {w : World} {B C : Nat} {A : Option Addr} {l : List (List Nat)} (h : Tab w B A l) (hC : B ≤ C) : Tab w C A l := Grid.more h hC
theorem getD_mem {α : Type} (q : List α) (c : Nat) (d : α) (h : c < q.length) : q.getD c d ∈ q := by
  simp only [List.getD, List.getElem?_eq_getElem h, Option.getD_some]
  exact List.getElem_mem h
theorem BackM.tab {w0 w : World} {base b : Nat} {all : List (List Nat)} {one : List Nat} {A O : Option Addr} {cA cO : Nat} (h : BackM w0 w base b all one A cA O cO) (hl : ∀ q ∈ all, q.length ≤ 1000) : Tab w w.heap.size A all := by
  obtain ⟨rs, h1, h2⟩ := h.rows
  intro hp
  obtain ⟨ga, ca, e, hge, hlt⟩ := h1.form hp
  injection e with e1 e2 e3
  subst e1
  refine ⟨_, rfl, hlt, fun r hr => ?_⟩
  obtain ⟨A', c, e, hr2⟩ := h2 r hr
  refine ⟨A', c, ?_, ?_, fun j hj => ?_⟩
  · exact World.ownsRow.cells (w := w) h1 (g := ga) rfl r _ e
  · have := hl _ (getD_mem all r [] hr)
    show (all.getD r []).length ≤ _
    omega
  · obtain ⟨a', e1, e2, e3⟩ := hr2.row j hj
    exact ⟨a', e1, by have := h.sz; omega, e3⟩
theorem one_new (w : World) (v : Value) (t : TypeId) : ∀ j u, [v][j]? = some u → (w.alloc (.cells #[v] t)).cell? ((⟨w.heap.size, 0, none⟩ : Addr).add j) = some u := by
  intro j u hu
  cases j with
  | zero =>
    simp at hu
    subst hu
    rw [add_zero]
    simp
  | succ j => simp at hu
end Go.Proofs.YtjeonnlcajlghaaDoor
