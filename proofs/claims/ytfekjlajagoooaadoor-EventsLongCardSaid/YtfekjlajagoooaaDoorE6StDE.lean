/- Layer 6: the document's table in memory. Layer 6: the document's Next (written by gen_ste.py). -/
import Derived.Test.YtfekjlajagoooaaDoorE6StC
import Derived.Deep.Heap
import Derived.Great.CaseRows
import Derived.IntWalk
/-! ## Layer 6: the document's table in memory. -/
namespace Go.Proofs.YtfekjlajagoooaaDoor.S6
open Go.RowKit Sta

/-- A row's cells; the table's. -/
def rowC (x : Int × Int × Int × Int × Int) : List Value := [.int .i64 x.1, .int .i64 x.2.1, .int .i64 x.2.2.1, .int .i64 x.2.2.2.1, .int .i64 x.2.2.2.2]
def rowsC : Array Value := (tab.flatMap rowC).toArray

/-- The operations that build rows, one after another. -/
def rowOps (T : TypeId) (pos : String) : Nat → List (Int × Int × Int × Int × Int) → List Oper
  | _, [] => []
  | d, x :: xs =>
    { dst := some d, op := .build T #[(0, .const (.int .i64 x.1)), (1, .const (.int .i64 x.2.1)), (2, .const (.int .i64 x.2.2.1)), (3, .const (.int .i64 x.2.2.2.1)), (4, .const (.int .i64 x.2.2.2.2))], type := T, pos := pos, after := #[], guard := none } ::
      rowOps T pos (d + 1) xs

theorem wpList_same {P : Program} {ops : Array Oper} {l l' : List Oper} {a : Act} {w : World} {Q : Exit → Act → World → Prop} (e : l = l') (h : wpList P ops Q l' a w) : wpList P ops Q l a w := e ▸ h

theorem wpList_rowOps {P : Program} {ops : Array Oper} {rest : List Oper} {w : World} {Q : Exit → Act → World → Prop} (T : TypeId) (pos : String)
    (hb : ∀ x y z u v : Int, P.built T [(0, .int .i64 x), (1, .int .i64 y), (2, .int .i64 z), (3, .int .i64 u), (4, .int .i64 v)] = some #[.int .i64 x, .int .i64 y, .int .i64 z, .int .i64 u, .int .i64 v]) :
    ∀ (xs : List (Int × Int × Int × Int × Int)) (d : Nat) (a : Act), d + xs.length ≤ a.tmps.size →
      (∀ a' : Act, a'.tmps.size = a.tmps.size → a'.defers = a.defers → (∀ i (h : i < xs.length), a'.eval (.tmp (d + i)) = .agg (rowC xs[i]).toArray) →
        (∀ j, j < d → a'.eval (.tmp j) = a.eval (.tmp j)) → wpList P ops Q rest a' w) →
      wpList P ops Q (rowOps T pos d xs ++ rest) a w
  | [], _, a, _, h => h a rfl rfl (fun _ hi => absurd hi (by simp)) (fun _ _ => rfl)
  | x :: xs, d, a, hd, h => by
    have hlt : d < a.tmps.size := by simp at hd; omega
    show wpList P ops Q (_ :: (rowOps T pos (d + 1) xs ++ rest)) a w
    refine wpList_buildTo rfl T _ rfl (some d) rfl (rowC x).toArray (by simpa [Act.eval, rowC] using hb x.1 x.2.1 x.2.2.1 x.2.2.2.1 x.2.2.2.2) ?_
    refine wpList_rowOps T pos hb xs (d + 1) _ (by rw [Act.size_put]; simp at hd; omega) fun a' hs hdf hev hlow => ?_
    refine h a' (by rw [hs, Act.size_put]) (by rw [hdf, Act.defers_put']) (fun i hi => ?_) (fun j hj => ?_)
    · cases i with
      | zero => rw [Nat.add_zero, hlow d (by omega), Act.eval_put_same _ _ _ hlt]; rfl
      | succ i =>
        have := hev i (by simpa using hi)
        rw [show d + (i + 1) = d + 1 + i by omega, this]
        rfl
    · rw [hlow j (by omega), Act.eval_put_ne _ _ _ _ (by omega)]

/-- The operations of a body's second region. -/
def opsOf (f : Func) : List Oper := match f.body with
  | some (.seq _ (.seq (.region _ ops _) _)) => ops.toList
  | _ => []
def noOper : Oper := { dst := none, op := .move (.const undef), type := 0, pos := "", after := #[], guard := none }
def parts96 : Array (Nat × Operand) := ((List.range 96).map fun i => (i, Operand.tmp (1 + i))).toArray

theorem tab_len : tab.length = 96 := by kernel_rfl

attribute [local irreducible] wpList Code.wp tab rowsC

set_option maxRecDepth 1000000 in
theorem rows_any (w : World) : Calls Tryd.prog 54 #[] w fun e w' => e = .returned (.slice (some ⟨w.heap.size, 0, none⟩) 96 96) ∧ w'.heap[w.heap.size]? = some (.cells rowsC 104 (0, 0)) ∧ Below w.heap.size w w' := by
  refine calls_of_wp Tryd.func54 rfl ?_
  obtain ⟨a, ha⟩ : ∃ a : Act, a = { tmps := #[] ++ Array.replicate (Tryd.f54.ntmps - (#[] : Array Value).size) undef, defers := [] } := ⟨_, rfl⟩
  rw [← ha]
  have hs : a.tmps.size = 98 := by rw [ha]; kernel_rfl
  have hd : a.defers = [] := by rw [ha]
  clear ha
  apply wp_seq_k; intro K0 hK0
  apply wp_region_list
  refine wpList_same (l' := [{ dst := some 0, op := .assign (.const (.slice none 0 0)), type := 101, pos := "ref.go:8", after := #[], guard := none }]) rfl ?_
  refine wpList_plain rfl fun K hK => BigFrame.wp_assign _ rfl (hK _ _ ?_)
  apply wpList_nil
  refine hK0 _ _ ?_
  clear hK0 K0 hK K
  refine Go.Great.wp_anyFrame 98 (by rw [Act.size_put]; exact hs) (by rw [Act.defers_put']; exact hd) fun a1 hs1 hd1 => ?_
  apply wp_seq_k; intro K1 hK1
  apply wp_region_list
  refine wpList_same (l' := rowOps 104 "ref.go:9" 1 tab ++ (opsOf Tryd.f54).drop 96) (by kernel_rfl) ?_
  refine wpList_rowOps _ _ (fun x y z u v => by kernel_rfl) tab 1 a1 (by rw [tab_len, hs1]; omega) fun a2 hs2 hd2 hev _ => ?_
  refine wpList_same (l' := [((opsOf Tryd.f54).drop 96).getD 0 noOper, ((opsOf Tryd.f54).drop 96).getD 1 noOper]) (by kernel_rfl) ?_
  have hl : (tab.map fun x => Value.agg (rowC x).toArray).length = 96 := by rw [List.length_map, tab_len]
  refine Go.Great.wpList_buildRows (by kernel_rfl) 101 104 parts96 5 (tab.map fun x => Value.agg (rowC x).toArray) (by rw [hl]; kernel_rfl) (fun i => 1 + i) w.heap.size rfl (some 97) (by kernel_rfl) (by kernel_rfl) (by kernel_rfl) (by kernel_rfl) (by decide) (by rw [hl]; decide) (by rw [hl]; decide)
    (by rw [hl]; kernel_rfl) (fun v hv => by obtain ⟨x, _, rfl⟩ := List.mem_map.1 hv; rfl) (fun i hi => by rw [hev i (by simpa using hi)]; simp) ?_
  rw [hl, show ((tab.map fun x => Value.agg (rowC x).toArray).flatMap fun v => v.cells.toList) = tab.flatMap rowC by simp [List.flatMap_map, Value.cells]]
  refine wpList_plain (by kernel_rfl) fun K hK => BigFrame.wp_assign (.tmp 97) (by kernel_rfl) (hK _ _ ?_)
  rw [Act.eval_put_same _ _ _ (by rw [hs2, hs1]; decide)]
  apply wpList_nil
  refine hK1 _ _ ?_
  clear hK1 K1 hK K
  apply wp_ret
  have hd0 : (((opsOf Tryd.f54).drop 96).getD 1 noOper).dst = some 0 := by kernel_rfl
  rw [hd0]
  refine bodyPost_ret (v := .slice (some ⟨w.heap.size, 0, none⟩) 96 96) ?_ ?_ ⟨rfl, ?_, (Below.refl _ _).alloc (Nat.le_refl _) _⟩
  · rw [results_tmp Tryd.results54]
    exact congrArg (fun v => Result.ok v _) (Act.eval_put_same _ 0 _ (by rw [Act.size_put, hs2, hs1]; decide))
  · rw [Act.defers_put', Act.defers_put', hd2, hd1]
  · exact (Deep.blk_alloc_new _ _).trans (by unfold rowsC; rfl)

end Go.Proofs.YtfekjlajagoooaaDoor.S6

/-! ## Layer 6: the document's Next (written by gen_ste.py). -/
namespace Go.Proofs.YtfekjlajagoooaaDoor.S6
open Go.RowKit Sta

theorem flat5 : ∀ (l : List (Int × Int × Int × Int × Int)) (i : Nat) (h : i < l.length), (l.flatMap rowC)[i * 5]? = some (.int .i64 l[i].1) ∧ (l.flatMap rowC)[i * 5 + 1]? = some (.int .i64 l[i].2.1) ∧ (l.flatMap rowC)[i * 5 + 2]? = some (.int .i64 l[i].2.2.1) ∧
    (l.flatMap rowC)[i * 5 + 3]? = some (.int .i64 l[i].2.2.2.1) ∧ (l.flatMap rowC)[i * 5 + 4]? = some (.int .i64 l[i].2.2.2.2)
  | [], i, h => absurd h (by simp)
  | x :: l, 0, _ => ⟨rfl, rfl, rfl, rfl, rfl⟩
  | x :: l, i + 1, h => by
    have ih := flat5 l i (by simpa using h)
    have e : ∀ j, (List.flatMap rowC (x :: l))[(i + 1) * 5 + j]? = (l.flatMap rowC)[i * 5 + j]? := fun j => by
      rw [List.flatMap_cons, show (i + 1) * 5 + j = (rowC x).length + (i * 5 + j) by simp [rowC]; omega, List.getElem?_append_right (by omega)]
      congr 1
      omega
    refine ⟨(e 0).trans ih.1, (e 1).trans ih.2.1, (e 2).trans ih.2.2.1, (e 3).trans ih.2.2.2.1, (e 4).trans ih.2.2.2.2⟩

theorem row_cells {w : World} {g : Nat} (h : w.heap[g]? = some (.cells rowsC 104 (0, 0))) (k : Nat) (hk : k < tab.length) :
    w.cell? ⟨g, k * 5, none⟩ = some (.int .i64 tab[k].1) ∧ w.cell? ⟨g, k * 5 + 1, none⟩ = some (.int .i64 tab[k].2.1) ∧ w.cell? ⟨g, k * 5 + 2, none⟩ = some (.int .i64 tab[k].2.2.1) ∧
    w.cell? ⟨g, k * 5 + 3, none⟩ = some (.int .i64 tab[k].2.2.2.1) ∧ w.cell? ⟨g, k * 5 + 4, none⟩ = some (.int .i64 tab[k].2.2.2.2) := by
  obtain ⟨h0, h1, h2, h3, h4⟩ := flat5 tab k hk
  have e : ∀ j, rowsC[j]? = (tab.flatMap rowC)[j]? := fun j => by unfold rowsC; exact List.getElem?_toArray
  refine ⟨?_, ?_, ?_, ?_, ?_⟩
  · simp [World.cell?, h, e, h0]
  · simp [World.cell?, h, e, h1]
  · simp [World.cell?, h, e, h2]
  · simp [World.cell?, h, e, h3]
  · simp [World.cell?, h, e, h4]

theorem find_drop (z c : Int) (k : Nat) (hk : k < tab.length) : findV z c (tab.drop k) = if fitsR z c tab[k] then (tab[k].2.2.2.1, tab[k].2.2.2.2) else findV z c (tab.drop (k + 1)) := by
  rw [List.drop_eq_getElem_cons hk]
  rfl

attribute [local irreducible] tab rowsC

theorem refNext_few (s c : Int) (c0 : 0 ≤ c) (c255 : c < 256) (h : c = 24 ∨ c = 26 ∨ c = 27) (w : World) : Calls Tryd.prog 35 #[.int .i64 s, .int .u8 c] w fun r w' => r = .returned (.tuple #[.int .i64 (refV s c).1, .int .i64 (refV s c).2]) ∧ Below w.heap.size w w' := by
  obtain rfl | rfl | rfl := h
  all_goals
    go_enter Tryd.func35, Tryd.ntmps35
    go_wp2
    go_ret2
    exact ⟨rfl, Below.refl _ _⟩

set_option maxRecDepth 100000 in
set_option maxHeartbeats 3200000 in
theorem refNext_in (s c : Int) (c0 : 0 ≤ c) (c255 : c < 256) (h24 : ¬ c = 24) (h26 : ¬ c = 26) (h27 : ¬ c = 27) (s0 : 0 ≤ s) (s13 : s ≤ 13) (w : World) : Calls Tryd.prog 35 #[.int .i64 s, .int .u8 c] w fun r w' => r = .returned (.tuple #[.int .i64 (refV s c).1, .int .i64 (refV s c).2]) ∧ Below w.heap.size w w' := by
  have d24 : (c == 24) = false := by simpa using h24
  have d26 : (c == 26) = false := by simpa using h26
  have d27 : (c == 27) = false := by simpa using h27
  have HR : Hid (refV s c = findV s c tab) := Lib.hid (by unfold refV; rw [if_neg h24, if_neg h26, if_neg h27, show clampV s = s by unfold clampV; rw [if_neg (by omega), if_neg (by omega)]])
  clear h24 h26 h27
  have q0 : decide (s < 0) = false := by simp; omega
  have q1 : decide (13 < s) = false := by simp; omega
  clear s0 s13
  go_enter Tryd.func35, Tryd.ntmps35
  go_wp2_with fail
  refine (rows_any _).mono ?_
  rintro e w1 ⟨rfl, hg, hb⟩
  have HB := Lib.hid hb
  have HG := Lib.hid hg
  obtain ⟨g, hgw⟩ : ∃ g, g = w.heap.size := ⟨_, rfl⟩
  have HGW := Lib.hid hgw
  rw [← hgw] at HG ⊢
  clear hb hg hgw
  go_wp2
  go_loopw [7] (fun i wr => ∃ k n : Nat, k ≤ 96 ∧ i = .int .i64 k ∧ wr = w1.drewN n ∧ Hid (findV s c (tab.drop k) = findV s c tab)) (fun i _ => 96 - (RowKit.intOf i).toNat)
  case atStart => exact ⟨0, 0, by omega, rfl, rfl, Lib.hid rfl⟩
  case round =>
    obtain ⟨k, n, hk, rfl, rfl, HF⟩ := hrel
    by_cases hlt : k < 96
    · have hkt : k < tab.length := by rw [tab_len]; exact hlt
      have cs := fun j : Nat => row_cells (w := w1.drewN j) HG.out k hkt
      have HD := Lib.hid (find_drop s c k hkt)
      generalize tab[k] = x at cs HD
      obtain ⟨x1, x2, x3, x4, x5⟩ := x
      have c1 : ∀ j : Nat, (w1.drewN j).cell? ⟨g, k * 5, none⟩ = some (.int .i64 x1) := fun j => (cs j).1
      have c2 : ∀ j : Nat, (w1.drewN j).cell? ⟨g, k * 5 + 1, none⟩ = some (.int .i64 x2) := fun j => (cs j).2.1
      have c3 : ∀ j : Nat, (w1.drewN j).cell? ⟨g, k * 5 + 2, none⟩ = some (.int .i64 x3) := fun j => (cs j).2.2.1
      have c4 : ∀ j : Nat, (w1.drewN j).cell? ⟨g, k * 5 + 3, none⟩ = some (.int .i64 x4) := fun j => (cs j).2.2.2.1
      have c5 : ∀ j : Nat, (w1.drewN j).cell? ⟨g, k * 5 + 4, none⟩ = some (.int .i64 x5) := fun j => (cs j).2.2.2.2
      clear cs hkt
      cases k1 : (x1 == s)
      · have E : Hid (findV s c (tab.drop (k + 1)) = findV s c tab) := Lib.hid (by rw [← HF.out, HD.out]; simp [fitsR, k1])
        go_wp2
        go_roundw
        case rel => exact ⟨k + 1, _, by omega, by go_num, rfl, E⟩
        case measure => simp [RowKit.intOf]; omega
      · cases k2 : decide (x2 ≤ c)
        · have E : Hid (findV s c (tab.drop (k + 1)) = findV s c tab) := Lib.hid (by rw [← HF.out, HD.out]; simp [fitsR, k1, k2])
          go_wp2
          go_roundw
          case rel => exact ⟨k + 1, _, by omega, by go_num, rfl, E⟩
          case measure => simp [RowKit.intOf]; omega
        · cases k3 : decide (c ≤ x3)
          · have E : Hid (findV s c (tab.drop (k + 1)) = findV s c tab) := Lib.hid (by rw [← HF.out, HD.out]; simp [fitsR, k1, k2, k3])
            go_wp2
            go_roundw
            case rel => exact ⟨k + 1, _, by omega, by go_num, rfl, E⟩
            case measure => simp [RowKit.intOf]; omega
          · have E : Hid (refV s c = (x4, x5)) := Lib.hid (by rw [HR.out, ← HF.out, HD.out]; simp [fitsR, k1, k2, k3])
            have HB2 : Hid (∀ j, Below w.heap.size w (w1.drewN j)) := Lib.hid (below_drew HB.out)
            go_wp2
            go_quiet (fail)
            go_wp2
            go_ret2
            exact ⟨ret_pair E.out, below_drew (HB2.out n) _⟩
    · have hkn : k = 96 := by omega
      have E : Hid (refV s c = (0, 0)) := Lib.hid (by rw [HR.out, ← HF.out, hkn, List.drop_eq_nil_of_le (by rw [tab_len]; omega)]; rfl)
      have HB2 : Hid (Below w.heap.size w (w1.drewN n)) := Lib.hid (below_drew HB.out n)
      clear HF
      subst hkn
      go_wp2
      go_ret2
      exact ⟨ret_pair E.out, HB2.out⟩

set_option maxRecDepth 100000 in
set_option maxHeartbeats 3200000 in
theorem refNext_low (s c : Int) (c0 : 0 ≤ c) (c255 : c < 256) (h24 : ¬ c = 24) (h26 : ¬ c = 26) (h27 : ¬ c = 27) (h : s < 0) (w : World) : Calls Tryd.prog 35 #[.int .i64 s, .int .u8 c] w fun r w' => r = .returned (.tuple #[.int .i64 (refV s c).1, .int .i64 (refV s c).2]) ∧ Below w.heap.size w w' := by
  have d24 : (c == 24) = false := by simpa using h24
  have d26 : (c == 26) = false := by simpa using h26
  have d27 : (c == 27) = false := by simpa using h27
  have HR : Hid (refV s c = findV 0 c tab) := Lib.hid (by unfold refV; rw [if_neg h24, if_neg h26, if_neg h27, show clampV s = 0 by unfold clampV; rw [if_pos h]])
  clear h24 h26 h27
  have q0 : decide (s < 0) = true := by simpa using h
  clear h
  go_enter Tryd.func35, Tryd.ntmps35
  go_wp2_with fail
  refine (rows_any _).mono ?_
  rintro e w1 ⟨rfl, hg, hb⟩
  have HB := Lib.hid hb
  have HG := Lib.hid hg
  obtain ⟨g, hgw⟩ : ∃ g, g = w.heap.size := ⟨_, rfl⟩
  have HGW := Lib.hid hgw
  rw [← hgw] at HG ⊢
  clear hb hg hgw
  go_wp2
  go_loopw [7] (fun i wr => ∃ k n : Nat, k ≤ 96 ∧ i = .int .i64 k ∧ wr = w1.drewN n ∧ Hid (findV 0 c (tab.drop k) = findV 0 c tab)) (fun i _ => 96 - (RowKit.intOf i).toNat)
  case atStart => exact ⟨0, 0, by omega, rfl, rfl, Lib.hid rfl⟩
  case round =>
    obtain ⟨k, n, hk, rfl, rfl, HF⟩ := hrel
    by_cases hlt : k < 96
    · have hkt : k < tab.length := by rw [tab_len]; exact hlt
      have cs := fun j : Nat => row_cells (w := w1.drewN j) HG.out k hkt
      have HD := Lib.hid (find_drop 0 c k hkt)
      generalize tab[k] = x at cs HD
      obtain ⟨x1, x2, x3, x4, x5⟩ := x
      have c1 : ∀ j : Nat, (w1.drewN j).cell? ⟨g, k * 5, none⟩ = some (.int .i64 x1) := fun j => (cs j).1
      have c2 : ∀ j : Nat, (w1.drewN j).cell? ⟨g, k * 5 + 1, none⟩ = some (.int .i64 x2) := fun j => (cs j).2.1
      have c3 : ∀ j : Nat, (w1.drewN j).cell? ⟨g, k * 5 + 2, none⟩ = some (.int .i64 x3) := fun j => (cs j).2.2.1
      have c4 : ∀ j : Nat, (w1.drewN j).cell? ⟨g, k * 5 + 3, none⟩ = some (.int .i64 x4) := fun j => (cs j).2.2.2.1
      have c5 : ∀ j : Nat, (w1.drewN j).cell? ⟨g, k * 5 + 4, none⟩ = some (.int .i64 x5) := fun j => (cs j).2.2.2.2
      clear cs hkt
      cases k1 : (x1 == 0)
      · have E : Hid (findV 0 c (tab.drop (k + 1)) = findV 0 c tab) := Lib.hid (by rw [← HF.out, HD.out]; simp [fitsR, k1])
        go_wp2
        go_roundw
        case rel => exact ⟨k + 1, _, by omega, by go_num, rfl, E⟩
        case measure => simp [RowKit.intOf]; omega
      · cases k2 : decide (x2 ≤ c)
        · have E : Hid (findV 0 c (tab.drop (k + 1)) = findV 0 c tab) := Lib.hid (by rw [← HF.out, HD.out]; simp [fitsR, k1, k2])
          go_wp2
          go_roundw
          case rel => exact ⟨k + 1, _, by omega, by go_num, rfl, E⟩
          case measure => simp [RowKit.intOf]; omega
        · cases k3 : decide (c ≤ x3)
          · have E : Hid (findV 0 c (tab.drop (k + 1)) = findV 0 c tab) := Lib.hid (by rw [← HF.out, HD.out]; simp [fitsR, k1, k2, k3])
            go_wp2
            go_roundw
            case rel => exact ⟨k + 1, _, by omega, by go_num, rfl, E⟩
            case measure => simp [RowKit.intOf]; omega
          · have E : Hid (refV s c = (x4, x5)) := Lib.hid (by rw [HR.out, ← HF.out, HD.out]; simp [fitsR, k1, k2, k3])
            have HB2 : Hid (∀ j, Below w.heap.size w (w1.drewN j)) := Lib.hid (below_drew HB.out)
            go_wp2
            go_quiet (fail)
            go_wp2
            go_ret2
            exact ⟨ret_pair E.out, below_drew (HB2.out n) _⟩
    · have hkn : k = 96 := by omega
      have E : Hid (refV s c = (0, 0)) := Lib.hid (by rw [HR.out, ← HF.out, hkn, List.drop_eq_nil_of_le (by rw [tab_len]; omega)]; rfl)
      have HB2 : Hid (Below w.heap.size w (w1.drewN n)) := Lib.hid (below_drew HB.out n)
      clear HF
      subst hkn
      go_wp2
      go_ret2
      exact ⟨ret_pair E.out, HB2.out⟩

set_option maxRecDepth 100000 in
set_option maxHeartbeats 3200000 in
theorem refNext_high (s c : Int) (c0 : 0 ≤ c) (c255 : c < 256) (h24 : ¬ c = 24) (h26 : ¬ c = 26) (h27 : ¬ c = 27) (h : 13 < s) (w : World) : Calls Tryd.prog 35 #[.int .i64 s, .int .u8 c] w fun r w' => r = .returned (.tuple #[.int .i64 (refV s c).1, .int .i64 (refV s c).2]) ∧ Below w.heap.size w w' := by
  have d24 : (c == 24) = false := by simpa using h24
  have d26 : (c == 26) = false := by simpa using h26
  have d27 : (c == 27) = false := by simpa using h27
  have HR : Hid (refV s c = findV 0 c tab) := Lib.hid (by unfold refV; rw [if_neg h24, if_neg h26, if_neg h27, show clampV s = 0 by unfold clampV; rw [if_neg (by omega), if_pos h]])
  clear h24 h26 h27
  have q0 : decide (s < 0) = false := by simp; omega
  have q1 : decide (13 < s) = true := by simpa using h
  clear h
  go_enter Tryd.func35, Tryd.ntmps35
  go_wp2_with fail
  refine (rows_any _).mono ?_
  rintro e w1 ⟨rfl, hg, hb⟩
  have HB := Lib.hid hb
  have HG := Lib.hid hg
  obtain ⟨g, hgw⟩ : ∃ g, g = w.heap.size := ⟨_, rfl⟩
  have HGW := Lib.hid hgw
  rw [← hgw] at HG ⊢
  clear hb hg hgw
  go_wp2
  go_loopw [7] (fun i wr => ∃ k n : Nat, k ≤ 96 ∧ i = .int .i64 k ∧ wr = w1.drewN n ∧ Hid (findV 0 c (tab.drop k) = findV 0 c tab)) (fun i _ => 96 - (RowKit.intOf i).toNat)
  case atStart => exact ⟨0, 0, by omega, rfl, rfl, Lib.hid rfl⟩
  case round =>
    obtain ⟨k, n, hk, rfl, rfl, HF⟩ := hrel
    by_cases hlt : k < 96
    · have hkt : k < tab.length := by rw [tab_len]; exact hlt
      have cs := fun j : Nat => row_cells (w := w1.drewN j) HG.out k hkt
      have HD := Lib.hid (find_drop 0 c k hkt)
      generalize tab[k] = x at cs HD
      obtain ⟨x1, x2, x3, x4, x5⟩ := x
      have c1 : ∀ j : Nat, (w1.drewN j).cell? ⟨g, k * 5, none⟩ = some (.int .i64 x1) := fun j => (cs j).1
      have c2 : ∀ j : Nat, (w1.drewN j).cell? ⟨g, k * 5 + 1, none⟩ = some (.int .i64 x2) := fun j => (cs j).2.1
      have c3 : ∀ j : Nat, (w1.drewN j).cell? ⟨g, k * 5 + 2, none⟩ = some (.int .i64 x3) := fun j => (cs j).2.2.1
      have c4 : ∀ j : Nat, (w1.drewN j).cell? ⟨g, k * 5 + 3, none⟩ = some (.int .i64 x4) := fun j => (cs j).2.2.2.1
      have c5 : ∀ j : Nat, (w1.drewN j).cell? ⟨g, k * 5 + 4, none⟩ = some (.int .i64 x5) := fun j => (cs j).2.2.2.2
      clear cs hkt
      cases k1 : (x1 == 0)
      · have E : Hid (findV 0 c (tab.drop (k + 1)) = findV 0 c tab) := Lib.hid (by rw [← HF.out, HD.out]; simp [fitsR, k1])
        go_wp2
        go_roundw
        case rel => exact ⟨k + 1, _, by omega, by go_num, rfl, E⟩
        case measure => simp [RowKit.intOf]; omega
      · cases k2 : decide (x2 ≤ c)
        · have E : Hid (findV 0 c (tab.drop (k + 1)) = findV 0 c tab) := Lib.hid (by rw [← HF.out, HD.out]; simp [fitsR, k1, k2])
          go_wp2
          go_roundw
          case rel => exact ⟨k + 1, _, by omega, by go_num, rfl, E⟩
          case measure => simp [RowKit.intOf]; omega
        · cases k3 : decide (c ≤ x3)
          · have E : Hid (findV 0 c (tab.drop (k + 1)) = findV 0 c tab) := Lib.hid (by rw [← HF.out, HD.out]; simp [fitsR, k1, k2, k3])
            go_wp2
            go_roundw
            case rel => exact ⟨k + 1, _, by omega, by go_num, rfl, E⟩
            case measure => simp [RowKit.intOf]; omega
          · have E : Hid (refV s c = (x4, x5)) := Lib.hid (by rw [HR.out, ← HF.out, HD.out]; simp [fitsR, k1, k2, k3])
            have HB2 : Hid (∀ j, Below w.heap.size w (w1.drewN j)) := Lib.hid (below_drew HB.out)
            go_wp2
            go_quiet (fail)
            go_wp2
            go_ret2
            exact ⟨ret_pair E.out, below_drew (HB2.out n) _⟩
    · have hkn : k = 96 := by omega
      have E : Hid (refV s c = (0, 0)) := Lib.hid (by rw [HR.out, ← HF.out, hkn, List.drop_eq_nil_of_le (by rw [tab_len]; omega)]; rfl)
      have HB2 : Hid (Below w.heap.size w (w1.drewN n)) := Lib.hid (below_drew HB.out n)
      clear HF
      subst hkn
      go_wp2
      go_ret2
      exact ⟨ret_pair E.out, HB2.out⟩

theorem refNext_any (s c : Int) (c0 : 0 ≤ c) (c255 : c < 256) (w : World) : Calls Tryd.prog 35 #[.int .i64 s, .int .u8 c] w fun r w' => r = .returned (.tuple #[.int .i64 (refV s c).1, .int .i64 (refV s c).2]) ∧ Below w.heap.size w w' := by
  by_cases h24 : c = 24
  · exact refNext_few s c c0 c255 (Or.inl h24) w
  by_cases h26 : c = 26
  · exact refNext_few s c c0 c255 (Or.inr (Or.inl h26)) w
  by_cases h27 : c = 27
  · exact refNext_few s c c0 c255 (Or.inr (Or.inr h27)) w
  by_cases h : s < 0
  · exact refNext_low s c c0 c255 h24 h26 h27 h w
  by_cases h13 : 13 < s
  · exact refNext_high s c c0 c255 h24 h26 h27 h13 w
  exact refNext_in s c c0 c255 h24 h26 h27 (by omega) (by omega) w

end Go.Proofs.YtfekjlajagoooaaDoor.S6
