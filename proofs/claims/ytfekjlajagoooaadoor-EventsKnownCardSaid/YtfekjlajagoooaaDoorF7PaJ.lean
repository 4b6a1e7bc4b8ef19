/- Layer 7: the document's list while it is built. -/
import Derived.Test.YtfekjlajagoooaaDoorF7PaF
namespace Go.Proofs.YtfekjlajagoooaaDoor.P7
open Go.RowKit Par

/-- The document's list while it is built: the parameters that are whole, the parts of the one that is not. -/
structure RefM (w0 w : World) (base b : Nat) (all : List (List Nat)) (one : List Nat) (A : Option Addr) (cA g cO : Nat) : Prop where
  old : Below base w0 w
  bb : base ≤ b
  sz : b ≤ w.heap.size
  own : w.ownsRow b 3 1 (.slice (some ⟨g, 0, none⟩) one.length cO) one.length (intV one)
  rows : ∃ rs, w.ownsRow base 47 1 (.slice A all.length cA) all.length rs ∧ ∀ i, i < all.length → ∃ A' c, rs[i]? = some (.slice A' (all.getD i []).length c) ∧ RowI w b A' (all.getD i [])

theorem RefM.below {w0 w w' : World} {base b : Nat} {all : List (List Nat)} {one : List Nat} {A : Option Addr} {cA g cO : Nat} (h : RefM w0 w base b all one A cA g cO) (hb : Below w.heap.size w w') : RefM w0 w' base b all one A cA g cO := by
  obtain ⟨rs, h1, h2⟩ := h.rows
  have hsz := h.sz
  have hbb := h.bb
  refine ⟨h.old.trans (hb.mono (by omega)), h.bb, Nat.le_trans h.sz hb.size, row_keep h.own (fun k _ hk => hb.block k hk), rs, row_keep h1 (fun k _ hk => hb.block k hk), fun i hi => ?_⟩
  obtain ⟨A', c, e, hr⟩ := h2 i hi
  exact ⟨A', c, e, hr.block (fun a ha => hb.block _ (by have := (hr.typ a ha).1; omega)) (Nat.le_refl _)⟩
theorem RefM.alloc {w0 w : World} {base b : Nat} {all : List (List Nat)} {one : List Nat} {A : Option Addr} {cA g cO : Nat} (h : RefM w0 w base b all one A cA g cO) (o : Obj) : RefM w0 (w.alloc o) base b all one A cA g cO := h.below ((Below.refl _ _).alloc (Nat.le_refl _) _)

theorem RefM.start (w : World) : RefM w (w.alloc (.cells #[] 3)) w.heap.size w.heap.size [] [] none 0 w.heap.size 0 :=
  ⟨(Below.refl _ _).alloc (Nat.le_refl _) _, Nat.le_refl _, by simp, own_empty w _, [], ⟨rfl, Or.inl ⟨rfl, rfl⟩⟩, fun i hi => by simp at hi⟩

/-- An empty one. -/
theorem RefM.fresh {w0 w : World} {base b : Nat} {all : List (List Nat)} {one : List Nat} {A : Option Addr} {cA g cO : Nat} (h : RefM w0 w base b all one A cA g cO) : RefM w0 (w.alloc (.cells #[] 3)) base w.heap.size all [] A cA w.heap.size 0 := by
  have h' := h.alloc (.cells #[] 3)
  obtain ⟨rs, h1, h2⟩ := h'.rows
  have hsz := h.sz
  have hbb := h.bb
  refine ⟨h'.old, by omega, by simp, own_empty w _, rs, h1, fun i hi => ?_⟩
  obtain ⟨A', c, e, hr⟩ := h2 i hi
  exact ⟨A', c, e, hr.block (fun _ _ => rfl) h.sz⟩

/-- A part more. -/
theorem RefM.put {w0 w w1 : World} {base b : Nat} {all : List (List Nat)} {one : List Nat} {A : Option Addr} {cA g cO : Nat} (h : RefM w0 w base b all one A cA g cO) (n : Nat) {o : Obj} {v : Value}
    (hown : w1.ownsRow b 3 1 v (one.length + 1) (intV one ++ [.int .i64 n])) (hg : (w.alloc o).grownBy w1 (some g)) :
    ∃ g' c', v = .slice (some ⟨g', 0, none⟩) (one.length + 1) c' ∧ RefM w0 w1 base b all (one ++ [n]) A cA g' c' := by
  obtain ⟨g', c', rfl, _, _⟩ := hown.form (by omega)
  have h' := h.alloc o
  obtain ⟨rs, h1, h2⟩ := h'.rows
  have hgb := (row_ge h'.own g rfl).1
  have hgl := (row_ge h'.own g rfl).2
  have hsz := h'.sz
  have hbb := h.bb
  have hsize := hg.size
  refine ⟨g', c', rfl, h'.old.grown hg (by omega) (fun k hk => by cases hk; omega), h.bb, by omega, ?_, rs, row_keep h1 (fun k hk hkl => hg.block k hkl ?_), fun i hi => ?_⟩
  · rw [List.length_append]
    rw [show intV (one ++ [n]) = intV one ++ [.int .i64 n] by simp [intV]]
    exact hown
  · intro e
    cases e
    exact row_apart h1 h'.own (by decide) g hk rfl
  · obtain ⟨A', c, e, hr⟩ := h2 i hi
    exact ⟨A', c, e, hr.block (fun a ha => hg.block _ (by have := (hr.typ a ha).1; omega) (fun e => by have := (hr.typ a ha).1; injection e with e; omega)) (Nat.le_refl _)⟩

/-- A parameter more, and an empty one. -/
theorem RefM.push {w0 w w1 : World} {base b : Nat} {all : List (List Nat)} {one : List Nat} {A : Option Addr} {cA g cO : Nat} (h : RefM w0 w base b all one A cA g cO) {o : Obj} {v : Value} {rs : List Value}
    (hrs : ∀ i, i < all.length → ∃ A' c, rs[i]? = some (.slice A' (all.getD i []).length c) ∧ RowI w b A' (all.getD i []))
    (hrl : rs.length = all.length)
    (hown : w1.ownsRow base 47 1 v (all.length + 1) (rs ++ [.slice (some ⟨g, 0, none⟩) one.length cO])) (hg : (w.alloc o).grownBy w1 (Value.slice A all.length cA).ownBlock) :
    ∃ g' c', v = .slice (some ⟨g', 0, none⟩) (all.length + 1) c' ∧ RefM w0 (w1.alloc (.cells #[] 3)) base w1.heap.size (all ++ [one]) [] (some ⟨g', 0, none⟩) c' w1.heap.size 0 := by
  obtain ⟨g', c', rfl, _, _⟩ := hown.form (by omega)
  have h' := h.alloc o
  obtain ⟨rs', h1, _⟩ := h'.rows
  have hsz := h.sz
  have hbb := h.bb
  have hsize := hg.size
  have hsa : (w.alloc o).heap.size = w.heap.size + 1 := by simp
  have ho1 : w1.ownsRow b 3 1 (.slice (some ⟨g, 0, none⟩) one.length cO) one.length (intV one) := row_keep h'.own (fun k hk hkl => hg.block k hkl (fun e => row_apart h'.own h1 (by decide) k hk e.symm))
  have hold : Below base w0 w1 := h'.old.grown hg (by omega) (fun k hk => (row_ge h1 k hk).1)
  refine ⟨g', c', rfl, hold.alloc (by omega) _, by omega, by simp, own_empty w1 _, rs ++ [.slice (some ⟨g, 0, none⟩) one.length cO], ?_, fun i hi => ?_⟩
  · rw [List.length_append]
    exact row_keep hown (fun k _ hk => heap_alloc_old w1 _ hk)
  · rw [List.length_append] at hi
    by_cases hlt : i < all.length
    · obtain ⟨A', c, e, hr⟩ := hrs i hlt
      have hge : (all ++ [one]).getD i [] = all.getD i [] := by rw [getD_snoc, if_pos hlt]
      rw [hge]
      refine ⟨A', c, by rw [List.getElem?_append_left (by omega)]; exact e, ?_⟩
      have hr0 : RowI (w.alloc o) b A' (all.getD i []) := hr.block (fun a ha => heap_alloc_old w o (by have := (hr.typ a ha).1; omega)) (Nat.le_refl _)
      have hr1 : RowI w1 b A' (all.getD i []) := hr0.block (fun a ha => hg.block _ (by have := (hr.typ a ha).1; omega) (fun e => hr0.apart h1 a ha e.symm)) (Nat.le_refl _)
      exact hr1.block (fun a ha => heap_alloc_old w1 _ (by have := (hr.typ a ha).1; omega)) (by omega)
    · have hi' : i = all.length := by simp at hi; omega
      subst hi'
      have hge : (all ++ [one]).getD all.length [] = one := by rw [getD_snoc, if_neg (by omega), if_pos rfl]
      rw [hge]
      refine ⟨some ⟨g, 0, none⟩, cO, by rw [List.getElem?_append_right (by omega), hrl, Nat.sub_self]; rfl, ?_⟩
      exact (own_rowI ho1).block (fun a ha => heap_alloc_old w1 _ ((own_rowI ho1).typ a ha).1) (Nat.le_refl _)

theorem RefM.tabT {w0 w : World} {base b : Nat} {all : List (List Nat)} {one : List Nat} {A : Option Addr} {cA g cO : Nat} (h : RefM w0 w base b all one A cA g cO) : TabT w A all := by
  obtain ⟨rs, h1, h2⟩ := h.rows
  intro hp
  obtain ⟨ga, ca, e, hge, hlt⟩ := h1.form hp
  injection e with e1 e2 e3
  subst e1
  refine ⟨ga, rfl, ?_, fun r hr => ?_⟩
  · rcases h1.2 with ⟨e, _⟩ | ⟨g', _, cur, e, _, hh, _⟩
    · cases e
    · cases e; exact ⟨cur, hh⟩
  · obtain ⟨A', c, e, hr2⟩ := h2 r hr
    refine ⟨A', c, ?_, hr2.block (fun _ _ => rfl) h.sz⟩
    have := World.ownsRow.cells (w := w) h1 (g := ga) rfl r _ e
    rwa [add_zero] at this
end Go.Proofs.YtfekjlajagoooaaDoor.P7
