/- Layer 15: the document's Place, what it needs (plain; tables read). -/
import Derived.Test.YtifolcfnknlmdaaReI
import Derived.Test.YtifolcfnknlmdaaReDa
set_option linter.unusedVariables false
namespace Go.Proofs.Ytifolcfnknlmdaa.Re
open Go.RowKit Go.Proofs.Ytifolcfnknlmdaa.Rw

theorem trim_len (p : List Ce) : (trim blC p).length ≤ p.length := by
  obtain ⟨k, hk⟩ := trim_form p
  have := congrArg List.length hk
  rw [List.length_append] at this
  omega
theorem cnt_len_le (a : LnC) : (cnt a).length ≤ a.cells.length := by rw [cnt_take, List.length_take]; omega
theorem para_small : ∀ (l : List LnC) (acc : List Ce), ∀ p ∈ parasA blC acc l, p.length ≤ acc.length + sumV l
  | [], _, p, hp => by cases hp
  | [a], acc, p, hp => by
    rw [parasA, List.mem_singleton] at hp
    subst hp
    have h1 := trim_len (acc ++ cnt a)
    have h2 := cnt_len_le a
    rw [List.length_append] at h1
    rw [sum_cons]
    omega
  | a :: b :: r, acc, p, hp => by
    have h2 := cnt_len_le a
    rw [parasA] at hp
    rw [sum_cons]
    split at hp
    · have := para_small (b :: r) _ p hp
      rw [List.length_append] at this
      omega
    · rcases List.mem_cons.1 hp with rfl | hp
      · have h1 := trim_len (acc ++ cnt a)
        rw [List.length_append] at h1
        omega
      · have := para_small (b :: r) [] p hp
        rw [List.length_nil] at this
        omega
theorem lay_len (w : Nat) : ∀ n (cs : List Ce), cs.length ≤ n → (lay blC wdC w cs).length ≤ cs.length + 1 := by
  intro n
  induction n with
  | zero =>
    intro cs hn
    rw [lay, dif_neg (by omega), dif_neg (by omega)]
    simp
  | succ n ih =>
    intro cs hn
    rw [lay]
    split
    · rename_i h
      have := ih (cs.drop (w - 1)) (by rw [List.length_drop]; omega)
      rw [List.length_drop] at this
      rw [List.length_cons]
      omega
    · split
      · rename_i h
        have := ih (cs.drop w) (by rw [List.length_drop]; omega)
        rw [List.length_drop] at this
        rw [List.length_cons]
        omega
      · simp
/-- Beyond all columns it makes no difference how far. -/
theorem spot_far (w : Nat) (p : List Ce) (a x y : Nat) (hx : p.length + w ≤ x) (hy : p.length + w ≤ y) : spot w p (a + x) = spot w p (a + y) := by
  have h1 : ¬ a + x < p.length := by omega
  have h2 : ¬ a + y < p.length := by omega
  unfold spot
  rw [if_neg h1, if_neg h2]
  generalize (if p.length = 0 then 0 else (pos blC wdC w p (p.length - 1)).1 + 1) = col
  have h3 : min (col + (a + x - p.length)) (w - 1) = min (col + (a + y - p.length)) (w - 1) := by omega
  rw [h3]
/-- A place beyond 2 ^ 20 columns is where one at 2 ^ 20 is. -/
theorem place_cap (w x : Nat) (hw : w ≤ 400) : ∀ (l : List LnC) (acc : List Ce) (down y : Nat), acc.length + sumV l ≤ 100000 → 1048576 ≤ x → placeA w x acc down y l = placeA w 1048576 acc down y l
  | [], acc, down, y, _, _ => by cases y <;> rfl
  | a :: r, acc, down, 0, hs, hx => by
    rw [placeA, placeA]
    have h2 := cnt_len_le a
    have hp : (paraHd acc (a :: r)).length ≤ 100000 := by
      obtain ⟨t, ht⟩ := paras_hd (a :: r) acc (by simp)
      have := para_small (a :: r) acc (paraHd acc (a :: r)) (by rw [ht]; exact List.mem_cons_self ..)
      omega
    rw [sum_cons] at hs
    by_cases hc : a.joined = true ∧ r ≠ []
    · rw [if_pos ⟨hc.1, hc.2, by omega⟩, if_pos ⟨hc.1, hc.2, by omega⟩]
    · rw [if_neg (fun h => hc ⟨h.1, h.2.1⟩), if_neg (fun h => hc ⟨h.1, h.2.1⟩), spot_far w _ acc.length x 1048576 (by omega) (by omega)]
  | a :: r, acc, down, y + 1, hs, hx => by
    have h2 := cnt_len_le a
    rw [sum_cons] at hs
    rw [placeA, placeA]
    split
    · exact place_cap w x hw r _ down y (by rw [List.length_append]; omega) hx
    · exact place_cap w x hw r [] _ y (by rw [List.length_nil]; omega) hx
theorem paras_count : ∀ (l : List LnC) (acc : List Ce), (parasA blC acc l).length ≤ l.length
  | [], _ => Nat.le_refl _
  | [a], acc => by rw [parasA]; simp
  | a :: b :: r, acc => by
    rw [parasA]
    split
    · have := paras_count (b :: r) (acc ++ cnt a); rw [List.length_cons]; omega
    · have := paras_count (b :: r) []; rw [List.length_cons, List.length_cons]; omega
/-- What Place answers. -/
def okI (l : List LnC) (W x y : Int) : Bool := decide (2 ≤ W) && decide (W ≤ 400) && decide (0 ≤ x) && decide (0 ≤ y) && decide (y < l.length)
def placeI (l : List LnC) (W x y : Int) : Nat × Nat := if okI l W x y then placeV l W.toNat x.toNat y.toNat else (0, 0)

theorem ahead_le : ∀ (l : List LnC) (y : Nat), aheadV l y ≤ sumV l
  | l, 0 => Nat.zero_le _
  | [], y + 1 => by
    have h0 := ahead_le [] y
    rw [aheadV]
    simp [cnt, noLn] at h0 ⊢
    exact h0
  | a :: r, y + 1 => by
    rw [ahead_cons, sum_cons]
    have h1 := ahead_le r y
    have h2 := cnt_len_le a
    omega
theorem cells_le (l : List LnC) (k : Nat) : (l.getD k noLn).cells.length ≤ sumV l := by
  by_cases hk : k < l.length
  · have h1 := sum_drop l k
    rw [drop_at hk, sum_cons] at h1
    omega
  · rw [List.getD_eq_getElem?_getD, List.getElem?_eq_none (by omega)]
    exact Nat.zero_le _
theorem cntN_len (a : LnC) : (cnt a).length = cntN a := by
  rw [cnt_take, List.length_take]
  have := cntN_le a
  omega
theorem drop_getD (l : List LnC) (f t : Nat) : (l.drop f).getD t noLn = l.getD (f + t) noLn := by
  rw [List.getD_eq_getElem?_getD, List.getD_eq_getElem?_getD, List.getElem?_drop]

/-! ### tables read -/
theorem idx_row (g n c k : Nat) (hk : k < n) (W : World) : (Instr.indexAt 50 (.slice (some ⟨g, 0, none⟩) n c) (.int .i64 (k : Int))).run Try.prog W = .ok (.pointer (some ⟨g, k, none⟩)) W := by
  have hs : ∀ W : World, (sizeOf (Try.prog.elem 50)).run Try.prog W = .ok 1 W := fun W => by kernel_rfl
  rw [run_indexAt_slice (P := Try.prog) W 50 ⟨g, 0, none⟩ n c .i64 k (by kernel_rfl), if_pos (by omega), hs]
  simp only [Result.andThen, Int.toNat_natCast, add_oo, Nat.mul_one, Nat.zero_add]
theorem idx_num (g n c k : Nat) (hk : k < n) (W : World) : (Instr.indexAt 65 (.slice (some ⟨g, 0, none⟩) n c) (.int .i64 (k : Int))).run Try.prog W = .ok (.pointer (some ⟨g, k, none⟩)) W := by
  have hs : ∀ W : World, (sizeOf (Try.prog.elem 65)).run Try.prog W = .ok 1 W := fun W => by kernel_rfl
  rw [run_indexAt_slice (P := Try.prog) W 65 ⟨g, 0, none⟩ n c .i64 k (by kernel_rfl), if_pos (by omega), hs]
  simp only [Result.andThen, Int.toNat_natCast, add_oo, Nat.mul_one, Nat.zero_add]
theorem idx_pair (g n c k : Nat) (hk : k < n) (W : World) : (Instr.indexAt 68 (.slice (some ⟨g, 0, none⟩) n c) (.int .i64 (k : Int))).run Try.prog W = .ok (.pointer (some ⟨g, k * 2, none⟩)) W := by
  have hs : ∀ W : World, (sizeOf (Try.prog.elem 68)).run Try.prog W = .ok 2 W := fun W => by kernel_rfl
  rw [run_indexAt_slice (P := Try.prog) W 68 ⟨g, 0, none⟩ n c .i64 k (by kernel_rfl), if_pos (by omega), hs]
  simp only [Result.andThen, Int.toNat_natCast, add_oo, Nat.zero_add]
theorem PState.row_at {B : Nat} {V : World} {A : Option Addr} {n c : Nat} {vf : Value} {us : List Value} {ps : List (List Ce)} {fs : List Nat} (h : PState B V (.slice A n c) vf us ps fs) {k : Nat} (hk : k < ps.length) : n = ps.length ∧ ∃ g A' c', A = some ⟨g, 0, Option.none⟩ ∧ g < V.heap.size ∧ V.cell? ⟨g, k, Option.none⟩ = some (.slice A' (ps.getD k []).length c') ∧ Lies V (.slice A' (ps.getD k []).length c') (ps.getD k []) := by
  have hl : (rowsOf us).length = ps.length := by rw [rowsOf, List.length_map, h.len]
  obtain ⟨g, e, _, h2, h3⟩ := ownG_at h.out (k := k) (by rw [hl]; exact hk)
  obtain ⟨A2, c2, e2⟩ := ownG_slice h.out
  injection e2 with _ e3 _
  have hr := own_lies (h.rows k hk)
  obtain ⟨A', c', e4, _⟩ := id hr
  have h4 := h3 0 (by decide)
  have h5 : (rowsOf us).getD k [] = [us.getD k nilS] := by
    have hku : k < us.length := by rw [h.len]; exact hk
    simp [rowsOf, List.getD_eq_getElem?_getD, hku]
  rw [h5, e4] at h4
  rw [e4] at hr
  exact ⟨by rw [e3, hl], g, A', c', e, h2, by simpa using h4, hr⟩
theorem PState.num_at {B : Nat} {V : World} {vo : Value} {A : Option Addr} {n c : Nat} {us : List Value} {ps : List (List Ce)} {fs : List Nat} (h : PState B V vo (.slice A n c) us ps fs) {k f : Nat} (hk : fs[k]? = some f) : ∃ g, A = some ⟨g, 0, Option.none⟩ ∧ g < V.heap.size ∧ V.cell? ⟨g, k, Option.none⟩ = some (.int .i64 (f : Int)) := by
  have hkl : k < fs.length := (List.getElem?_eq_some_iff.1 hk).1
  obtain ⟨g, e, _, h2, h3⟩ := ownG_at h.fst (k := k) (by rw [intsOf, List.length_map]; exact hkl)
  have h4 := h3 0 (by decide)
  have h5 : (intsOf fs).getD k [] = [.int .i64 (f : Int)] := by
    rw [List.getD_eq_getElem?_getD, intsOf, List.getElem?_map, hk]
    rfl
  rw [h5] at h4
  exact ⟨g, e, h2, by simpa using h4⟩
theorem PState.lens {B : Nat} {V : World} {A A2 : Option Addr} {n c n2 c2 : Nat} {us : List Value} {ps : List (List Ce)} {fs : List Nat} (h : PState B V (.slice A n c) (.slice A2 n2 c2) us ps fs) : n = ps.length ∧ n2 = fs.length := by
  obtain ⟨_, _, e⟩ := ownG_slice h.out
  obtain ⟨_, _, e2⟩ := ownG_slice h.fst
  injection e with _ e _
  injection e2 with _ e2 _
  exact ⟨by rw [e, rowsOf, List.length_map, h.len], by rw [e2, intsOf, List.length_map]⟩
theorem pair_at {V : World} {B : Nat} {A : Option Addr} {n c : Nat} {ats : List (Nat × Nat)} (h : OwnG 73 2 V B (.slice A n c) (pairsOf ats)) {k : Nat} (hk : k < ats.length) : n = ats.length ∧ ∃ g, A = some ⟨g, 0, Option.none⟩ ∧ g < V.heap.size ∧ V.cell? ⟨g, k * 2, none⟩ = some (.int .i64 ((ats.getD k (0, 0)).1 : Int)) ∧ V.cell? ⟨g, k * 2 + 1, none⟩ = some (.int .i64 ((ats.getD k (0, 0)).2 : Int)) := by
  obtain ⟨g, e, _, h2, h3⟩ := ownG_at h (k := k) (by rw [pairsOf, List.length_map]; exact hk)
  obtain ⟨_, _, e2⟩ := ownG_slice h
  injection e2 with _ e2 _
  have h5 : (pairsOf ats).getD k [] = pairC (ats.getD k (0, 0)) := by
    simp [pairsOf, List.getD_eq_getElem?_getD, hk]
  have h6 := h3 0 (by decide)
  have h7 := h3 1 (by decide)
  rw [h5] at h6 h7
  exact ⟨by rw [e2, pairsOf, List.length_map], g, e, h2, by simpa [pairC] using h6, by simpa [pairC] using h7⟩
theorem posV_len (W : Nat) (cells : List Ce) (i : Nat) : (posV W cells i).length = i := by simp [posV]
theorem posV_get (W : Nat) (cells : List Ce) (i k : Nat) (hk : k < i) : (posV W cells i).getD k (0, 0) = pos blC wdC W cells k := by simp [posV, hk]
end Go.Proofs.Ytifolcfnknlmdaa.Re
