/- Layer 15: a paragraph being laid, in memory: lines that are done, the open one, where each cell stands. -/
import Derived.Test.YtifolcfnknlmdaaReD
set_option linter.unusedVariables false
namespace Go.Proofs.Ytifolcfnknlmdaa.Re
open Go.RowKit Go.Proofs.Ytifolcfnknlmdaa.Rw

/-! ### the last line's cells stored -/
theorem raws_set (rs : List Raw) (r r' : Raw) (j : Nat) (x : Value) (hj : j < 3) (h : (rawC r).set j x = rawC r') : (rawsC (rs ++ [r])).set (rs.length * 3 + j) x = rawsC (rs ++ [r']) := by
  rw [raws_append, raws_append, List.set_append_right _ _ (by rw [raws_len]; omega), raws_len, show rs.length * 3 + j - rs.length * 3 = j by omega]
  congr 1
theorem ownL_set {T : TypeId} {w : World} {base g n c : Nat} {rs : List Raw} {r r' : Raw} (h : OwnL T w base (.slice (some ⟨g, 0, none⟩) n c) (rs ++ [r])) (j : Nat) (x : Value) (hj : j < 3) (hx : (rawC r).set j x = rawC r') : OwnL T (w.setCell ⟨g, rs.length * 3 + j, none⟩ x) base (.slice (some ⟨g, 0, none⟩) n c) (rs ++ [r']) := by
  have hl : (rs ++ [r']).length = (rs ++ [r]).length := by simp
  rcases h.2 with ⟨e, _⟩ | ⟨g', cap, cur, e, h1, h2, h3, h4, h5, h6⟩
  · cases e
  · injection e with e1 e2 e3
    injection e1 with e1
    injection e1 with e1 _
    subst e1 e3
    refine ⟨by rw [raws_len], Or.inr ⟨g, c, cur.setIfInBounds (rs.length * 3 + j) x, by rw [hl, e2], h1, ?_, by rw [hl]; exact h3, h4, by simp [h5], ?_⟩⟩
    · exact heap_setCell_same w g _ _ _ x h2
    · rw [hl, Array.toList_setIfInBounds, List.take_set, h6]
      exact raws_set rs r r' j x hj hx
/-- What a store there turns. -/
theorem last_cells {T : TypeId} {w : World} {base g n c : Nat} {rs : List Raw} {r : Raw} (h : OwnL T w base (.slice (some ⟨g, 0, none⟩) n c) (rs ++ [r])) : n = rs.length + 1 ∧ base ≤ g ∧ g < w.heap.size ∧ w.cell? ⟨g, rs.length * 3, none⟩ = some r.u ∧ w.cell? ⟨g, rs.length * 3 + 1, none⟩ = some (.bool r.j) ∧ w.cell? ⟨g, rs.length * 3 + 2, none⟩ = some (.bool r.s) ∧ ∀ i, w.frozen? ⟨g, i, none⟩ = false := by
  obtain ⟨g', e, h1, h2, h3, h4, h5, h6⟩ := ownL_at h (k := rs.length) (by simp)
  cases e
  have hr : (rs ++ [r]).getD rs.length noRaw = r := by rw [List.getD_eq_getElem?_getD, List.getElem?_append_right (Nat.le_refl _), Nat.sub_self]; rfl
  rw [hr] at h3 h4 h5
  obtain ⟨A, c', e⟩ := ownL_slice h
  injection e with _ e2 _
  exact ⟨by rw [e2]; simp, h1, h2, h3, h4, h5, h6⟩
theorem ownL_typed {T : TypeId} {w : World} {base : Nat} {v : Value} {l : List Raw} (h : OwnL T w base v l) : ∀ g, v.ownBlock = some g → base ≤ g ∧ g < w.heap.size ∧ ∃ cur, w.heap[g]? = some (.cells cur T (0, 0)) := by
  intro g hg
  rcases h.2 with ⟨rfl, _⟩ | ⟨g', cap, cur, rfl, hb, hh, _⟩
  · simp [Value.ownBlock] at hg
  · have : g' = g := by simpa [Value.ownBlock] using hg
    subst this
    exact ⟨hb, blk_lt hh, cur, hh⟩

/-! ### the state -/
abbrev tLine : TypeId := 71
theorem line_ne_cell : tLine ≠ 38 := by decide
theorem line_ne_pair : tLine ≠ 73 := by decide
theorem pair_ne_cell : 73 ≠ 38 := by decide
def pairC (q : Nat × Nat) : List Value := [.int .i64 (q.1 : Int), .int .i64 (q.2 : Int)]
def pairsOf (ats : List (Nat × Nat)) : List (List Value) := ats.map pairC
theorem pairs_snoc (ats : List (Nat × Nat)) (q : Nat × Nat) : pairsOf (ats ++ [q]) = pairsOf ats ++ [pairC q] := by simp [pairsOf]
/-- g: the lines' block; the open line: its cells from So on, its flags. -/
structure AState (B : Nat) (V : World) (g n c : Nat) (va : Value) (rs : List Raw) (So : Nat) (uo : Value) (j s : Bool) (done : List LnC) (cur : List Ce) (ats : List (Nat × Nat)) : Prop where
  out : OwnL tLine V B (.slice (some ⟨g, 0, none⟩) n c) (rs ++ [⟨uo, j, s⟩])
  len : rs.length = done.length
  flags : ∀ k, k < done.length → (rs.getD k noRaw).j = (done.getD k noLn).joined ∧ (rs.getD k noRaw).s = (done.getD k noLn).short
  rows : ∀ k, k < done.length → OwnC V B (rs.getD k noRaw).u (done.getD k noLn).cells ∧ ∀ b, (rs.getD k noRaw).u.ownBlock = some b → b < So
  opn : OwnC V So uo cur
  bs : B ≤ So ∧ So ≤ V.heap.size
  pos : OwnG 73 2 V B va (pairsOf ats)
namespace AState
variable {B : Nat} {V V' : World} {g n c : Nat} {va uo : Value} {rs : List Raw} {So : Nat} {j s : Bool} {done : List LnC} {cur : List Ce} {ats : List (Nat × Nat)} (h : AState B V g n c va rs So uo j s done cur ats)
include h
theorem gt : B ≤ g ∧ g < V.heap.size := ⟨(last_cells h.out).2.1, (last_cells h.out).2.2.1⟩
theorem keep (hk : ∀ b, b < V.heap.size → V'.heap[b]? = V.heap[b]?) (hs : V.heap.size ≤ V'.heap.size) : AState B V' g n c va rs So uo j s done cur ats :=
  ⟨ownL_keep h.out fun b e => hk b (ownL_ge h.out b e).2, h.len, h.flags, fun k hk' => ⟨own_keep (h.rows k hk').1 fun b e => hk b (own_lt (h.rows k hk').1 b e), (h.rows k hk').2⟩, own_keep h.opn fun b e => hk b (own_lt h.opn b e), ⟨h.bs.1, Nat.le_trans h.bs.2 hs⟩, ownG_keep h.pos fun b e => hk b (ownG_typed h.pos b e).2.1⟩
theorem below (hb : Below V.heap.size V V') : AState B V' g n c va rs So uo j s done cur ats := h.keep (fun b hl => hb.block b hl) hb.size
/-- A store into the open line's cells in the table. -/
theorem store {uo' : Value} {j' s' : Bool} (i : Nat) (x : Value) (hi : i < 3) (hx : (rawC ⟨uo, j, s⟩).set i x = rawC ⟨uo', j', s'⟩) {cur' : List Ce} (ho : OwnC V So uo' cur') : AState B (V.setCell ⟨g, rs.length * 3 + i, none⟩ x) g n c va rs So uo' j' s' done cur' ats := by
  have hg : ∃ cu, V.heap[g]? = some (.cells cu tLine (0, 0)) := (ownL_typed h.out g rfl).2.2
  obtain ⟨cu, hcu⟩ := hg
  have hne : ∀ b, b ≠ g → (V.setCell ⟨g, rs.length * 3 + i, none⟩ x).heap[b]? = V.heap[b]? := fun b hb => Below.heap_setCell _ _ _ _ hb
  have hrow : ∀ (base : Nat) (u : Value) (l : List Ce), OwnC V base u l → OwnC (V.setCell ⟨g, rs.length * 3 + i, none⟩ x) base u l := fun base u l hu => own_keep hu fun b e => hne b (by
    obtain ⟨_, _, cu2, h2⟩ := ownC_typed hu b e
    exact typed_ne h2 hcu (fun e => line_ne_cell e.symm))
  refine ⟨ownL_set h.out i x hi hx, h.len, h.flags, fun k hk' => ⟨hrow _ _ _ (h.rows k hk').1, (h.rows k hk').2⟩, hrow _ _ _ ho, ⟨h.bs.1, by simpa using h.bs.2⟩, ownG_keep h.pos fun b e => hne b (by
    obtain ⟨_, _, cu2, h2⟩ := ownG_typed h.pos b e
    exact typed_ne h2 hcu (fun e => line_ne_pair e.symm))⟩
/-- The open line's cells grow. -/
theorem grow0 {uo' : Value} {cur' : List Ce} (ho : OwnC V' So uo' cur') (gr : V.grownBy V' uo.ownBlock) : AState B (V'.setCell ⟨g, rs.length * 3, none⟩ uo') g n c va rs So uo' j s done cur' ats ∧ V'.cell? ⟨g, rs.length * 3, none⟩ = some uo ∧ V'.cell? ⟨g, rs.length * 3 + 1, none⟩ = some (.bool j) ∧ V'.cell? ⟨g, rs.length * 3 + 2, none⟩ = some (.bool s) ∧ ∀ i, V'.frozen? ⟨g, i, none⟩ = false := by
  have h1 := h
  have hop : ∀ b, uo.ownBlock = some b → So ≤ b ∧ ∃ cu, V.heap[b]? = some (.cells cu 38 (0, 0)) := fun b e => ⟨(ownC_typed h1.opn b e).1, (ownC_typed h1.opn b e).2.2⟩
  have h2 : AState B V' g n c va rs So uo' j s done cur' ats → True := fun _ => trivial
  have hty : ∀ (b : Nat) (cu : Array Value) (t : TypeId), V.heap[b]? = some (.cells cu t (0, 0)) → t ≠ 38 → V'.heap[b]? = V.heap[b]? := fun b cu t hb ht => gr.block b (blk_lt hb) fun e => by
    obtain ⟨_, cu2, hc⟩ := hop b e.symm
    exact typed_ne hb hc ht rfl
  have hgb : V'.heap[g]? = V.heap[g]? := by
    obtain ⟨_, _, cu, hc⟩ := ownL_typed h1.out g rfl
    exact hty g cu _ hc line_ne_cell
  have hout : OwnL tLine V' B (.slice (some ⟨g, 0, none⟩) n c) (rs ++ [⟨uo, j, s⟩]) := ownL_keep h1.out fun b e => by
    obtain ⟨_, _, cu, hc⟩ := ownL_typed h1.out b e
    exact hty b cu _ hc line_ne_cell
  have hrows : ∀ k, k < done.length → OwnC V' B (rs.getD k noRaw).u (done.getD k noLn).cells := fun k hk' => own_keep (h1.rows k hk').1 fun b e => gr.block b (own_lt (h1.rows k hk').1 b e) fun e2 => by
    have := (hop b e2.symm).1
    have := (h1.rows k hk').2 b e
    omega
  have hpos : OwnG 73 2 V' B va (pairsOf ats) := ownG_keep h1.pos fun b e => by
    obtain ⟨_, _, cu, hc⟩ := ownG_typed h1.pos b e
    exact hty b cu _ hc pair_ne_cell
  have hsz : So ≤ V'.heap.size := by have h0 := gr.size; have h9 := h.bs.2; omega
  have hlc := last_cells hout
  -- the state at V', the open line's cells still where they were
  have hne : ∀ b, b ≠ g → (V'.setCell ⟨g, rs.length * 3, none⟩ uo').heap[b]? = V'.heap[b]? := fun b hb => Below.heap_setCell _ _ _ _ hb
  obtain ⟨_, _, cu, hcu⟩ := ownL_typed hout g rfl
  have hrow : ∀ (base : Nat) (u : Value) (l : List Ce), OwnC V' base u l → OwnC (V'.setCell ⟨g, rs.length * 3, none⟩ uo') base u l := fun base u l hu => own_keep hu fun b e => hne b (by
    obtain ⟨_, _, cu2, h2⟩ := ownC_typed hu b e
    exact typed_ne h2 hcu (fun e => line_ne_cell e.symm))
  refine ⟨⟨ownL_set hout 0 uo' (by omega) rfl, h.len, h.flags, fun k hk' => ⟨hrow _ _ _ (hrows k hk'), (h.rows k hk').2⟩, hrow _ _ _ ho, ⟨h.bs.1, by simpa using hsz⟩, ownG_keep hpos fun b e => hne b (by
    obtain ⟨_, _, cu2, h2⟩ := ownG_typed hpos b e
    exact typed_ne h2 hcu (fun e => line_ne_pair e.symm))⟩, hlc.2.2.2.1, hlc.2.2.2.2.1, hlc.2.2.2.2.2.1, hlc.2.2.2.2.2.2⟩
theorem grow {x : Obj} {uo' : Value} {cur' : List Ce} (ho : OwnC V' So uo' cur') (gr : (V.alloc x).grownBy V' uo.ownBlock) : AState B (V'.setCell ⟨g, rs.length * 3, none⟩ uo') g n c va rs So uo' j s done cur' ats ∧ V'.cell? ⟨g, rs.length * 3, none⟩ = some uo ∧ V'.cell? ⟨g, rs.length * 3 + 1, none⟩ = some (.bool j) ∧ V'.cell? ⟨g, rs.length * 3 + 2, none⟩ = some (.bool s) ∧ ∀ i, V'.frozen? ⟨g, i, none⟩ = false := (h.below ((Below.refl _ _).alloc (Nat.le_refl _) _)).grow0 ho gr
/-- The open line is done, a new one is opened. -/
theorem next {x : Obj} {g' c' : Nat} (ho : OwnL tLine V' B (.slice (some ⟨g', 0, none⟩) (n + 1) c') ((rs ++ [⟨uo, j, s⟩]) ++ [⟨.slice none 0 0, false, false⟩])) (gr : (V.alloc x).grownBy V' (some g)) : AState B V' g' (n + 1) c' va (rs ++ [⟨uo, j, s⟩]) V'.heap.size (.slice none 0 0) false false (done ++ [⟨cur, j, s⟩]) [] ats := by
  have hal : Below V.heap.size V (V.alloc x) := (Below.refl _ _).alloc (Nat.le_refl _) _
  have h1 := h.below hal
  obtain ⟨_, _, cg, hcg⟩ := ownL_typed h1.out g rfl
  have hty : ∀ (b : Nat) (cu : Array Value) (t : TypeId), (V.alloc x).heap[b]? = some (.cells cu t (0, 0)) → t ≠ tLine → V'.heap[b]? = (V.alloc x).heap[b]? := fun b cu t hb ht => gr.block b (blk_lt hb) fun e => by
    have : b = g := by simpa using e
    subst this
    exact typed_ne hb hcg ht rfl
  have hrow : ∀ (base : Nat) (u : Value) (l : List Ce), OwnC (V.alloc x) base u l → OwnC V' base u l := fun base u l hu => own_keep hu fun b e => by
    obtain ⟨_, _, cu, hc⟩ := ownC_typed hu b e
    exact hty b cu _ hc (fun e => line_ne_cell e.symm)
  have hlt : ∀ (base : Nat) (u : Value) (l : List Ce), OwnC (V.alloc x) base u l → ∀ b, u.ownBlock = some b → b < V'.heap.size := fun base u l hu b e => Nat.lt_of_lt_of_le (own_lt hu b e) gr.size
  have hlen : (rs ++ [(⟨uo, j, s⟩ : Raw)]).length = (done ++ [(⟨cur, j, s⟩ : LnC)]).length := by rw [List.length_append, List.length_append, h.len]; rfl
  have hgr : ∀ k, k < done.length → (rs ++ [(⟨uo, j, s⟩ : Raw)]).getD k noRaw = rs.getD k noRaw := fun k hk => by rw [List.getD_eq_getElem?_getD, List.getD_eq_getElem?_getD, List.getElem?_append_left (by rw [h.len]; exact hk)]
  have hgd : ∀ k, k < done.length → (done ++ [(⟨cur, j, s⟩ : LnC)]).getD k noLn = done.getD k noLn := fun k hk => by rw [List.getD_eq_getElem?_getD, List.getD_eq_getElem?_getD, List.getElem?_append_left hk]
  have hlr : (rs ++ [(⟨uo, j, s⟩ : Raw)]).getD done.length noRaw = ⟨uo, j, s⟩ := by rw [← h.len, List.getD_eq_getElem?_getD, List.getElem?_append_right (Nat.le_refl _), Nat.sub_self]; rfl
  have hld : (done ++ [(⟨cur, j, s⟩ : LnC)]).getD done.length noLn = ⟨cur, j, s⟩ := by rw [List.getD_eq_getElem?_getD, List.getElem?_append_right (Nat.le_refl _), Nat.sub_self]; rfl
  have hk2 : ∀ k, k < (done ++ [(⟨cur, j, s⟩ : LnC)]).length → k < done.length ∨ k = done.length := fun k hk => by rw [List.length_append, List.length_singleton] at hk; omega
  refine ⟨ho, hlen, fun k hk => ?_, fun k hk => ?_, own_none _ _, ⟨?_, Nat.le_refl _⟩, ownG_keep h1.pos fun b e => ?_⟩
  · rcases hk2 k hk with hk | rfl
    · rw [hgr k hk, hgd k hk]; exact h.flags k hk
    · rw [hlr, hld]; exact ⟨rfl, rfl⟩
  · rcases hk2 k hk with hk | rfl
    · rw [hgr k hk, hgd k hk]; exact ⟨hrow _ _ _ (h1.rows k hk).1, hlt _ _ _ (h1.rows k hk).1⟩
    · rw [hlr, hld]; exact ⟨hrow _ _ _ (own_less h1.opn h.bs.1), hlt _ _ _ h1.opn⟩
  · have h8 := h.bs.1; have h9 := h.bs.2; have h0 := gr.size; rw [World.size_alloc] at h0; omega
  · obtain ⟨_, _, cu, hc⟩ := ownG_typed h1.pos b e
    exact hty b cu _ hc (fun e => line_ne_pair e.symm)
/-- One more place. -/
theorem place {x : Obj} {va' : Value} {q : Nat × Nat} (ho : OwnG 73 2 V' B va' (pairsOf (ats ++ [q]))) (gr : (V.alloc x).grownBy V' va.ownBlock) : AState B V' g n c va' rs So uo j s done cur (ats ++ [q]) := by
  have hal : Below V.heap.size V (V.alloc x) := (Below.refl _ _).alloc (Nat.le_refl _) _
  have h1 := h.below hal
  have hty : ∀ (b : Nat) (cu : Array Value) (t : TypeId), (V.alloc x).heap[b]? = some (.cells cu t (0, 0)) → t ≠ 73 → V'.heap[b]? = (V.alloc x).heap[b]? := fun b cu t hb ht => gr.block b (blk_lt hb) fun e => by
    obtain ⟨_, _, cu2, hc⟩ := ownG_typed h1.pos b e.symm
    exact typed_ne hb hc ht rfl
  have hrow : ∀ (base : Nat) (u : Value) (l : List Ce), OwnC (V.alloc x) base u l → OwnC V' base u l := fun base u l hu => own_keep hu fun b e => by
    obtain ⟨_, _, cu, hc⟩ := ownC_typed hu b e
    exact hty b cu _ hc (fun e => pair_ne_cell e.symm)
  refine ⟨ownL_keep h1.out fun b e => ?_, h.len, h.flags, fun k hk => ⟨hrow _ _ _ (h1.rows k hk).1, (h.rows k hk).2⟩, hrow _ _ _ h1.opn, ⟨h.bs.1, by have h0 := gr.size; have h9 := h.bs.2; rw [World.size_alloc] at h0; omega⟩, ho⟩
  obtain ⟨_, _, cu, hc⟩ := ownL_typed h1.out b e
  exact hty b cu _ hc line_ne_pair
theorem grown_at {x : Obj} (gr : (V.alloc x).grownBy V' uo.ownBlock) {w : World} (hb : Below B w V) (hw : B ≤ V.heap.size) : Below B w V' := (hb.alloc hw x).grown gr (Nat.le_trans hw (by simp)) fun b e => Nat.le_trans h.bs.1 (ownC_typed h.opn b e).1
theorem slice_ : ∃ A c', uo = .slice A cur.length c' := by
  obtain ⟨A, c', e, _⟩ := own_lies h.opn
  exact ⟨A, c', e⟩
/-- All lines, as they lie. -/
theorem lines : LinesAt (fun b => B ≤ b) V (.slice (some ⟨g, 0, none⟩) n c) (done ++ [⟨cur, j, s⟩]) := by
  have hlen : (rs ++ [(⟨uo, j, s⟩ : Raw)]).length = (done ++ [(⟨cur, j, s⟩ : LnC)]).length := by rw [List.length_append, List.length_append, h.len]; rfl
  have hr : ∀ (base : Nat) (u : Value) (l : List Ce), B ≤ base → OwnC V base u l → RowF (fun b => B ≤ b) V u l := fun base u l hb hu => ⟨own_lies hu, fun b e _ => Nat.le_trans hb (ownC_typed hu b e).1⟩
  refine (ownL_lines (F := fun b => B ≤ b) h.out hlen fun k hk => ?_).more fun b hb => hb.elim id id
  rw [List.length_append, List.length_singleton] at hk
  by_cases hlt : k < done.length
  · have e1 : (rs ++ [(⟨uo, j, s⟩ : Raw)]).getD k noRaw = rs.getD k noRaw := by rw [List.getD_eq_getElem?_getD, List.getD_eq_getElem?_getD, List.getElem?_append_left (by rw [h.len]; exact hlt)]
    have e2 : (done ++ [(⟨cur, j, s⟩ : LnC)]).getD k noLn = done.getD k noLn := by rw [List.getD_eq_getElem?_getD, List.getD_eq_getElem?_getD, List.getElem?_append_left hlt]
    rw [e1, e2]
    exact ⟨(h.flags k hlt).1, (h.flags k hlt).2, hr _ _ _ (Nat.le_refl _) (h.rows k hlt).1⟩
  · have hk2 : k = done.length := by omega
    subst hk2
    have e1 : (rs ++ [(⟨uo, j, s⟩ : Raw)]).getD done.length noRaw = ⟨uo, j, s⟩ := by rw [← h.len, List.getD_eq_getElem?_getD, List.getElem?_append_right (Nat.le_refl _), Nat.sub_self]; rfl
    have e2 : (done ++ [(⟨cur, j, s⟩ : LnC)]).getD done.length noLn = ⟨cur, j, s⟩ := by rw [List.getD_eq_getElem?_getD, List.getElem?_append_right (Nat.le_refl _), Nat.sub_self]; rfl
    rw [e1, e2]
    exact ⟨rfl, rfl, hr _ _ _ h.bs.1 h.opn⟩
end AState
/-- Behind i cells. -/
def foldV (W : Nat) (cells : List Ce) (i : Nat) : List LnC × List Ce := (cells.take i).foldl (step blC wdC W) ([], [])
def posV (W : Nat) (cells : List Ce) (i : Nat) : List (Nat × Nat) := (List.range i).map (pos blC wdC W cells)
theorem fold_next (W : Nat) (cells : List Ce) (i : Nat) (h : i < cells.length) : foldV W cells (i + 1) = step blC wdC W (foldV W cells i) (cellV cells i) := by
  unfold foldV
  have e : cells.take (i + 1) = cells.take i ++ [cellV cells i] := by
    rw [List.take_add_one, List.getElem?_eq_getElem h]
    unfold cellV
    rw [List.getD_eq_getElem?_getD, List.getElem?_eq_getElem h]
    rfl
  rw [e, List.foldl_append]
  rfl
theorem pos_next (W : Nat) (hW : 2 ≤ W) (cells : List Ce) (i : Nat) (h : i < cells.length) {done : List LnC} {cur : List Ce} {c : Ce} (hf : foldV W cells (i + 1) = (done, cur ++ [c])) : posV W cells (i + 1) = posV W cells i ++ [(cur.length, done.length)] := by
  have hp := fold_pos blC wdC W hW (cells.take (i + 1)) [] [] (cells.drop (i + 1)) (open_nil blC wdC W hW) (fun e => by have h0 := congrArg List.length e; rw [List.length_take, List.length_nil] at h0; omega)
  have hl : (cells.take (i + 1)).length = i + 1 := by rw [List.length_take]; omega
  have e : (cells.take (i + 1)).foldl (step blC wdC W) ([], []) = (done, cur ++ [c]) := hf
  rw [e, hl, List.nil_append, List.take_append_drop] at hp
  have h1 : (pos blC wdC W cells i).1 = cur.length := by have := hp.1; simp at this; exact this
  have h2 : (pos blC wdC W cells i).2 = done.length := by have := hp.2; simp at this; exact this
  unfold posV
  rw [List.range_succ, List.map_append]
  congr 1
  simp only [List.map_cons, List.map_nil]
  rw [← h1, ← h2]
theorem fold_open (W : Nat) (hW : 2 ≤ W) (cells : List Ce) (i : Nat) : Open blC wdC W (foldV W cells i).2 := (fold_lay blC wdC W hW (cells.take i) [] [] (open_nil blC wdC W hW)).1
theorem fold_end (W : Nat) (hW : 2 ≤ W) (cells : List Ce) : (foldV W cells cells.length).1 ++ [⟨(foldV W cells cells.length).2 ++ List.replicate (W - (foldV W cells cells.length).2.length) blC, false, false⟩] = lay blC wdC W cells := by
  have := (fold_lay blC wdC W hW (cells.take cells.length) [] [] (open_nil blC wdC W hW)).2
  rw [List.take_length] at this
  unfold foldV
  rw [List.take_length]
  exact this
end Go.Proofs.Ytifolcfnknlmdaa.Re
