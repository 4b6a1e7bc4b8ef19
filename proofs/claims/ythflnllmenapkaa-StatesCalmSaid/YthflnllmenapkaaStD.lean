/- Layer 6: the document's table in memory. -/
import Derived.Test.YthflnllmenapkaaStC
import Derived.Deep.Heap
import Derived.Great.CaseRows
namespace Go.Proofs.Ythflnllmenapkaa
open Go.RowKit Sta

/-- A row's cells; the table's. -/
def rowC (x : Int × Int × Int × Int × Int) : List Value := [.int .i64 x.1, .int .i64 x.2.1, .int .i64 x.2.2.1, .int .i64 x.2.2.2.1, .int .i64 x.2.2.2.2]
def rowsC : Array Value := (tab.flatMap rowC).toArray

/-- The operations that build rows, one after another. -/
def rowOps (T : TypeId) (pos : String) : Nat → List (Int × Int × Int × Int × Int) → List Oper
  | _, [] => []
  | d, x :: xs =>
    { dst := some d, op := .build T #[(0, .const (.int .i64 x.1)), (1, .const (.int .i64 x.2.1)), (2, .const (.int .i64 x.2.2.1)), (3, .const (.int .i64 x.2.2.2.1)), (4, .const (.int .i64 x.2.2.2.2))], type := T, pos := pos, after := #[], guard := none } ::
      rowOps T pos (d + 1) xs

theorem wpList_same {P : Program} {ops : Array Oper} {l l' : List Oper} {a : Act} {w : World} {Q : Exit → Act → World → Prop} (e : l = l') (h : wpList P ops Q l' a w) : wpList P ops Q l a w := e ▸ h

theorem wpList_rowOps {P : Program} {ops : Array Oper} {rest : List Oper} {w : World} {Q : Exit → Act → World → Prop} (T : TypeId) (pos : String)
    (hb : ∀ x y z u v : Int, P.built T [(0, .int .i64 x), (1, .int .i64 y), (2, .int .i64 z), (3, .int .i64 u), (4, .int .i64 v)] = some #[.int .i64 x, .int .i64 y, .int .i64 z, .int .i64 u, .int .i64 v]) :
    ∀ (xs : List (Int × Int × Int × Int × Int)) (d : Nat) (a : Act), d + xs.length ≤ a.tmps.size →
      (∀ a' : Act, a'.tmps.size = a.tmps.size → a'.defers = a.defers → (∀ i (h : i < xs.length), a'.eval (.tmp (d + i)) = .agg (rowC xs[i]).toArray) →
        (∀ j, j < d → a'.eval (.tmp j) = a.eval (.tmp j)) → wpList P ops Q rest a' w) →
      wpList P ops Q (rowOps T pos d xs ++ rest) a w
  | [], _, a, _, h => h a rfl rfl (fun _ hi => absurd hi (by simp)) (fun _ _ => rfl)
  | x :: xs, d, a, hd, h => by
    have hlt : d < a.tmps.size := by simp at hd; omega
    show wpList P ops Q (_ :: (rowOps T pos (d + 1) xs ++ rest)) a w
    refine wpList_buildTo rfl T _ rfl (some d) rfl (rowC x).toArray (by simpa [Act.eval, rowC] using hb x.1 x.2.1 x.2.2.1 x.2.2.2.1 x.2.2.2.2) ?_
    refine wpList_rowOps T pos hb xs (d + 1) _ (by rw [Act.size_put]; simp at hd; omega) fun a' hs hdf hev hlow => ?_
    refine h a' (by rw [hs, Act.size_put]) (by rw [hdf, Act.defers_put']) (fun i hi => ?_) (fun j hj => ?_)
    · cases i with
      | zero => rw [Nat.add_zero, hlow d (by omega), Act.eval_put_same _ _ _ hlt]; rfl
      | succ i =>
        have := hev i (by simpa using hi)
        rw [show d + (i + 1) = d + 1 + i by omega, this]
        rfl
    · rw [hlow j (by omega), Act.eval_put_ne _ _ _ _ (by omega)]

/-- The operations of a body's second region. -/
def opsOf (f : Func) : List Oper := match f.body with
  | some (.seq _ (.seq (.region _ ops _) _)) => ops.toList
  | _ => []
def noOper : Oper := { dst := none, op := .move (.const undef), type := 0, pos := "", after := #[], guard := none }
def parts96 : Array (Nat × Operand) := ((List.range 96).map fun i => (i, Operand.tmp (1 + i))).toArray

theorem tab_len : tab.length = 96 := by kernel_rfl

attribute [local irreducible] wpList Code.wp tab rowsC

set_option maxRecDepth 1000000 in
theorem rows_any (w : World) : Calls Try.prog 23 #[] w fun e w' => e = .returned (.slice (some ⟨w.heap.size, 0, none⟩) 96 96) ∧ w'.heap[w.heap.size]? = some (.cells rowsC 35 (0, 0)) ∧ Below w.heap.size w w' := by
  refine calls_of_wp Try.func23 rfl ?_
  obtain ⟨a, ha⟩ : ∃ a : Act, a = { tmps := #[] ++ Array.replicate (Try.f23.ntmps - (#[] : Array Value).size) undef, defers := [] } := ⟨_, rfl⟩
  rw [← ha]
  have hs : a.tmps.size = 98 := by rw [ha]; kernel_rfl
  have hd : a.defers = [] := by rw [ha]
  clear ha
  apply wp_seq_k; intro K0 hK0
  apply wp_region_list
  refine wpList_same (l' := [{ dst := some 0, op := .assign (.const (.slice none 0 0)), type := 32, pos := "ref.go:8", after := #[], guard := none }]) rfl ?_
  refine wpList_plain rfl fun K hK => BigFrame.wp_assign _ rfl (hK _ _ ?_)
  apply wpList_nil
  refine hK0 _ _ ?_
  clear hK0 K0 hK K
  refine Go.Great.wp_anyFrame 98 (by rw [Act.size_put]; exact hs) (by rw [Act.defers_put']; exact hd) fun a1 hs1 hd1 => ?_
  apply wp_seq_k; intro K1 hK1
  apply wp_region_list
  refine wpList_same (l' := rowOps 35 "ref.go:9" 1 tab ++ (opsOf Try.f23).drop 96) (by kernel_rfl) ?_
  refine wpList_rowOps _ _ (fun x y z u v => by kernel_rfl) tab 1 a1 (by rw [tab_len, hs1]; omega) fun a2 hs2 hd2 hev _ => ?_
  refine wpList_same (l' := [((opsOf Try.f23).drop 96).getD 0 noOper, ((opsOf Try.f23).drop 96).getD 1 noOper]) (by kernel_rfl) ?_
  have hl : (tab.map fun x => Value.agg (rowC x).toArray).length = 96 := by rw [List.length_map, tab_len]
  refine Go.Great.wpList_buildRows (by kernel_rfl) 32 35 parts96 5 (tab.map fun x => Value.agg (rowC x).toArray) (by rw [hl]; kernel_rfl) (fun i => 1 + i) w.heap.size rfl (some 97) (by kernel_rfl) (by kernel_rfl) (by kernel_rfl) (by kernel_rfl) (by decide) (by rw [hl]; decide) (by rw [hl]; decide)
    (by rw [hl]; kernel_rfl) (fun v hv => by obtain ⟨x, _, rfl⟩ := List.mem_map.1 hv; rfl) (fun i hi => by rw [hev i (by simpa using hi)]; simp) ?_
  rw [hl, show ((tab.map fun x => Value.agg (rowC x).toArray).flatMap fun v => v.cells.toList) = tab.flatMap rowC by simp [List.flatMap_map, Value.cells]]
  refine wpList_plain (by kernel_rfl) fun K hK => BigFrame.wp_assign (.tmp 97) (by kernel_rfl) (hK _ _ ?_)
  rw [Act.eval_put_same _ _ _ (by rw [hs2, hs1]; decide)]
  apply wpList_nil
  refine hK1 _ _ ?_
  clear hK1 K1 hK K
  apply wp_ret
  have hd0 : (((opsOf Try.f23).drop 96).getD 1 noOper).dst = some 0 := by kernel_rfl
  rw [hd0]
  refine bodyPost_ret (v := .slice (some ⟨w.heap.size, 0, none⟩) 96 96) ?_ ?_ ⟨rfl, ?_, (Below.refl _ _).alloc (Nat.le_refl _) _⟩
  · rw [results_tmp Try.results23]
    exact congrArg (fun v => Result.ok v _) (Act.eval_put_same _ 0 _ (by rw [Act.size_put, hs2, hs1]; decide))
  · rw [Act.defers_put', Act.defers_put', hd2, hd1]
  · exact (Deep.blk_alloc_new _ _).trans (by unfold rowsC; rfl)

end Go.Proofs.Ythflnllmenapkaa
