/- Layer 5: a decoder in memory; Byte. -/
import Derived.Test.YtbnclfelkdbbcaaDoorDcA
import Derived.ChangeAlike
import Derived.Deep.QuietTactic
import Derived.OneCell
import Derived.Deep.Heap
import Derived.Deep.DeepCutAuto
import Derived.Outline
namespace Go.Proofs.YtbnclfelkdbbcaaDoor
open Go.RowKit Go.Lib Dec

def cellsK (k : List UInt8) : Array Value := #[.int .u8 (bt k 0), .int .u8 (bt k 1), .int .u8 (bt k 2), .int .u8 (bt k 3), .int .i64 k.length]

/-- A decoder in memory that keeps k. -/
structure IsDec (w : World) (a : Nat) (k : List UInt8) : Prop where
  blk : w.heap[a]? = some (.cells (cellsK k) 29 (0, 0))
  ok : fullB k = false

theorem cell_of {w : World} {b : Nat} {c : Array Value} {t : TypeId} (h : w.heap[b]? = some (.cells c t (0, 0))) (i : Nat) : w.cell? ⟨b, i, none⟩ = c[i]? := by simp [World.cell?, h]
theorem free_of {w : World} {b : Nat} {c : Array Value} {t : TypeId} (h : w.heap[b]? = some (.cells c t (0, 0))) (i : Nat) : w.frozen? ⟨b, i, none⟩ = false := by simp [World.frozen?, h]

theorem cells_put {k : List UInt8} (h : k.length ≤ 3) (b : UInt8) : ((cellsK k).setIfInBounds k.length (.int .u8 b.toNat)).setIfInBounds 4 (.int .i64 ((k.length : Int) + 1)) = cellsK (k ++ [b]) := by
  match k, h with
  | [], _ => rfl
  | [x], _ => rfl
  | [x, y], _ => rfl
  | [x, y, z], _ => rfl

/-- Only block g, and new blocks, have turned. -/
structure Stirs (g : Nat) (w w' : World) : Prop where
  os : w'.os = w.os
  tape : w'.tape = w.tape
  output : w'.output = w.output
  size : w.heap.size ≤ w'.heap.size
  block : ∀ k, k < w.heap.size → k ≠ g → w'.heap[k]? = w.heap[k]?

theorem Stirs.below {g B : Nat} {w0 w w' : World} (h : Stirs g w w') (hg : B ≤ g) (hb : Below B w0 w) (hs : B ≤ w.heap.size) : Below B w0 w' :=
  hb.trans ⟨h.os, h.tape, h.output, h.size, fun k hk => h.block k (by omega) (by omega)⟩
theorem Stirs.then {g B : Nat} {w w1 w2 : World} (h : Stirs g w w1) (hb : Below B w1 w2) (hB : w.heap.size ≤ B) : Stirs g w w2 :=
  ⟨hb.os.trans h.os, hb.tape.trans h.tape, hb.output.trans h.output, Nat.le_trans h.size (hb.size), fun k hk hg => (hb.block k (by omega)).trans (h.block k hk hg)⟩
theorem Stirs.trans {g : Nat} {w w1 w2 : World} (h : Stirs g w w1) (k : Stirs g w1 w2) : Stirs g w w2 :=
  ⟨k.os.trans h.os, k.tape.trans h.tape, k.output.trans h.output, Nat.le_trans h.size k.size, fun j hj hg => (k.block j (by have := h.size; omega) hg).trans (h.block j hj hg)⟩
theorem Stirs.set {g : Nat} {w w1 : World} (h : Stirs g w w1) (i : Nat) (v : Value) : Stirs g w (w1.setCell ⟨g, i, none⟩ v) :=
  ⟨h.os, h.tape, h.output, by simpa using h.size, fun j hj hg => (Below.heap_setCell _ _ _ _ hg).trans (h.block j hj hg)⟩
theorem Stirs.alloc {g : Nat} {w w1 : World} (h : Stirs g w w1) (o : Obj) : Stirs g w (w1.alloc o) :=
  ⟨h.os, h.tape, h.output, by have := h.size; simp; omega, fun j hj hg => (Below.heap_alloc _ _ _ (by have := h.size; omega)).trans (h.block j hj hg)⟩
theorem Stirs.refl (g : Nat) (w : World) : Stirs g w w := ⟨rfl, rfl, rfl, Nat.le_refl _, fun _ _ _ => rfl⟩
theorem Stirs.drew {g : Nat} {w w1 : World} (h : Stirs g w w1) : Stirs g w w1.drew := ⟨h.os, h.tape, h.output, h.size, h.block⟩
theorem Stirs.drewN {g : Nat} {w w1 : World} (h : Stirs g w w1) (n : Nat) : Stirs g w (w1.drewN n) := ⟨h.os, h.tape, h.output, h.size, h.block⟩

theorem lt_block {w : World} {b o : Nat} {v : Value} (h : w.cell? ⟨b, o, none⟩ = some v) : b < w.heap.size := by
  unfold World.cell? at h
  cases hx : w.heap[b]? with
  | none => simp [hx] at h
  | some y => exact (Array.getElem?_eq_some_iff.1 hx).1

/-- The tables stay. -/
theorem Tabs.same {w w' : World} (h : Tabs w) (k0 : w'.heap[0]? = w.heap[0]?) (k1 : w'.heap[1]? = w.heap[1]?) : Tabs w' :=
  ⟨fun c hc => (World.cell?_of_block (w := w) k0).trans (h.1 c hc), fun i hi => ⟨(World.cell?_of_block (w := w) k1).trans (h.2 i hi).1, (World.cell?_of_block (w := w) k1).trans (h.2 i hi).2⟩⟩
theorem Tabs.lt {w : World} (h : Tabs w) : 0 < w.heap.size ∧ 1 < w.heap.size := ⟨lt_block (h.1 0 (by omega)), lt_block (h.2 0 (by omega)).1⟩
theorem Tabs.below {w w' : World} {B : Nat} (h : Tabs w) (hb : Below B w w') (hB : w.heap.size ≤ B) : Tabs w' := h.same (hb.block _ (Nat.lt_of_lt_of_le h.lt.1 hB)) (hb.block _ (Nat.lt_of_lt_of_le h.lt.2 hB))
theorem Tabs.drewN {w : World} (h : Tabs w) (n : Nat) : Tabs (w.drewN n) := h
/-- A decoder is no table. -/
theorem Tabs.ne {w : World} (h : Tabs w) {a : Nat} {k : List UInt8} {t : TypeId} (hb : w.heap[a]? = some (.cells (cellsK k) t (0, 0))) : a ≠ 0 ∧ a ≠ 1 := by
  constructor
  · rintro rfl
    have := (cell_of hb 5).symm.trans (h.1 5 (by omega))
    simp [cellsK] at this
  · rintro rfl
    have := (cell_of hb 6).symm.trans (h.2 3 (by omega)).1
    simp [cellsK] at this
theorem Tabs.stirs {w w' : World} {a : Nat} (h : Tabs w) (hs : Stirs a w w') (hn : a ≠ 0 ∧ a ≠ 1) : Tabs w' := h.same (hs.block _ h.lt.1 hn.1.symm) (hs.block _ h.lt.2 hn.2.symm)

/-- What Byte answers: t is told, k is kept. -/
def BytePost (w : World) (a : Nat) (t : List Nat × List UInt8) (e : Ending) (w' : World) : Prop :=
  e = .returned (.tuple #[.agg #[.int .i32 (t.1.getD 0 0 : Nat), .int .i32 (t.1.getD 1 0 : Nat)], .int .i64 t.1.length]) ∧ IsDec w' a t.2 ∧ Stirs a w w'

/-- FullRune, DecodeRune over what a decoder holds. -/
def FullIs (a : Nat) (l : List UInt8) (f : Bool) : Prop := ∀ w : World, Tabs w → w.heap[a]? = some (.cells (cellsK l) 29 (0, 0)) →
  Calls Tryd.prog 17 #[.slice (some ⟨a, 0, none⟩) l.length 4] w fun e w' => e = .returned (.bool f) ∧ Below w.heap.size w w'
def DecIs (a : Nat) (l : List UInt8) (r n : Nat) : Prop := ∀ w : World, Tabs w → w.heap[a]? = some (.cells (cellsK l) 29 (0, 0)) →
  Calls Tryd.prog 18 #[.slice (some ⟨a, 0, none⟩) l.length 4] w fun e w' => e = .returned (.tuple #[.int .i32 r, .int .i64 n]) ∧ Below w.heap.size w w'

theorem cells_at {l : List UInt8} (hl : l.length ≤ 4) (i : Nat) (hi : i < l.length) : (cellsK l)[i]? = some (.int .u8 (bt l i : Nat)) := by
  obtain rfl | rfl | rfl | rfl : i = 0 ∨ i = 1 ∨ i = 2 ∨ i = 3 := by omega
  all_goals rfl

theorem full_is (a : Nat) (l : List UInt8) (h1 : 1 ≤ l.length) (h4 : l.length ≤ 4) : FullIs a l (fullB l) := by
  intro w hT hb
  have hf : fullB l = fullN l.length (bt l 0) (bt l 1) (bt l 2) := by
    cases l with
    | nil => simp at h1
    | cons x l => rfl
  rw [hf]
  exact full_any a l.length 4 _ _ _ w hT h1 h4 (bt_lt l 0) ((cell_of hb 0).trans (cells_at h4 0 (by omega))) (fun h => (cell_of hb 1).trans (cells_at h4 1 h)) (fun h => (cell_of hb 2).trans (cells_at h4 2 h))

theorem slice_four (a n : Nat) (hn : n ≤ 3) (W : World) : (Instr.sliceAt 27 (.pointer (some ⟨a, 0, none⟩)) none (some (.int .i64 ((n : Int) + 1))) none).run Tryd.prog W = .ok (.slice (some ⟨a, 0, none⟩) (n + 1) 4) W := by
  have ha : Tryd.prog.arrayLen 27 = 4 := by kernel_rfl
  have := run_sliceAt_array_h (P := Tryd.prog) (w := W) (t := 27) (a := ⟨a, 0, none⟩) Tryd.underlying27 .i64 ((n : Int) + 1) (by omega) (by rw [ha]; omega)
  rw [this, ha]
  rfl

theorem build_dec (W : World) : (Instr.build 29 #[]).run Tryd.prog W = .ok (.agg #[.int .u8 0, .int .u8 0, .int .u8 0, .int .u8 0, .int .i64 0]) W := run_build W 29 #[] _ (by kernel_rfl)
theorem build_one (x : Int) (W : World) : (Instr.build 33 #[(0, .int .i32 x)]).run Tryd.prog W = .ok (.agg #[.int .i32 x, .int .i32 0]) W := run_build W 33 #[(0, .int .i32 x)] _ (by kernel_rfl)
theorem build_two (x y : Int) (W : World) : (Instr.build 33 #[(0, .int .i32 x), (1, .int .i32 y)]).run Tryd.prog W = .ok (.agg #[.int .i32 x, .int .i32 y]) W := run_build W 33 #[(0, .int .i32 x), (1, .int .i32 y)] _ (by kernel_rfl)

theorem dec_len {a n r : Nat} {l : List UInt8} (h : l.length = n + 1) (hD : DecIs a l r l.length) (w : World) (hT : Tabs w) (hw : w.heap[a]? = some (.cells (cellsK l) 29 (0, 0))) :
    Calls Tryd.prog 18 #[.slice (some ⟨a, 0, none⟩) (n + 1) 4] w fun e w' => e = .returned (.tuple #[.int .i32 r, .int .i64 ((n : Int) + 1)]) ∧ Below w.heap.size w w' := by
  have := hD w hT hw
  rw [h] at this
  exact this

theorem byte_keep (a : Nat) (k : List UInt8) (b : UInt8) (w : World) (hT : Tabs w) (h : IsDec w a k) (hF : fullB (k ++ [b]) = false) :
    Calls Tryd.prog 12 #[.pointer (some ⟨a, 0, none⟩), .int .u8 b.toNat] w (BytePost w a ([], k ++ [b])) := by
  have hn := full_length h.ok
  have hb := h.blk
  have hl : a < w.heap.size := (Array.getElem?_eq_some_iff.1 hb).1
  have hne := hT.ne hb
  obtain ⟨n, hk⟩ : ∃ n, n = k.length := ⟨_, rfl⟩
  have c4 : w.cell? ⟨a, 4, none⟩ = some (.int .i64 n) := by rw [cell_of hb, hk]; rfl
  have f4 : w.frozen? ⟨a, 4, none⟩ = false := free_of hb 4
  obtain ⟨v, cn⟩ : ∃ v, w.cell? ⟨a, n, none⟩ = some v := ⟨_, by rw [cell_of hb]; exact Array.getElem?_eq_getElem (by simp [cellsK]; omega)⟩
  have fn : w.frozen? ⟨a, n, none⟩ = false := free_of hb n
  have hn3 : n ≤ 3 := by omega
  have HW : Hid (((w.setCell ⟨a, n, none⟩ (.int .u8 b.toNat)).setCell ⟨a, 4, none⟩ (.int .i64 ((n : Int) + 1))).heap[a]? = some (.cells (cellsK (k ++ [b])) 29 (0, 0))) := Lib.hid (by
    have h1 := heap_setCell_same w a n _ _ (.int .u8 b.toNat) hb
    have h2 := heap_setCell_same _ a 4 _ _ (.int .i64 ((n : Int) + 1)) h1
    rw [h2, hk, cells_put hn])
  have HFull := Lib.hid (full_is a (k ++ [b]) (by simp) (by simp; omega))
  have HK := Lib.hid (show (k ++ [b]).length = n + 1 by simp [hk])
  have HF := Lib.hid hF
  have HT := Lib.hid hT
  have HN := Lib.hid hne
  clear h hk hn hF hT hne
  go_enter Tryd.func12, Tryd.ntmps12
  go_wp2
  go_region
  go_wp2
  obtain ⟨L, hL⟩ : ∃ L, L = w.heap.size := ⟨_, rfl⟩
  obtain ⟨V, hV⟩ : ∃ V, V = (((w.setCell ⟨a, n, none⟩ (.int .u8 b.toNat)).setCell ⟨a, 4, none⟩ (.int .i64 ((n : Int) + 1))).alloc (.cells #[.int .i32 0, .int .i32 0] 33)).drew := ⟨_, rfl⟩
  have VB : Hid (V.heap[a]? = some (.cells (cellsK (k ++ [b])) 29 (0, 0))) := Lib.hid (by
    rw [hV, heap_drew, Below.heap_alloc _ _ _ (by simpa using hl)]; exact HW.out)
  have VL : Hid (V.heap[L]? = some (.cells #[.int .i32 0, .int .i32 0] 33 (0, 0))) := Lib.hid (by
    rw [hV, hL, heap_drew]
    have := Deep.blk_alloc_new ((w.setCell ⟨a, n, none⟩ (.int .u8 b.toNat)).setCell ⟨a, 4, none⟩ (.int .i64 ((n : Int) + 1))) (.cells #[.int .i32 0, .int .i32 0] 33)
    simpa using this)
  have VS : Hid (Stirs a w V) := Lib.hid (by rw [hV]; exact ((((Stirs.refl a w).set n _).set 4 _).alloc _).drew)
  have VT : Hid (Tabs V) := Lib.hid (HT.out.stirs VS.out HN.out)
  have d4 : V.cell? ⟨a, 4, none⟩ = some (.int .i64 ((n : Int) + 1)) := by rw [cell_of VB.out]; simp [cellsK, HK.out]
  have hL0 := Lib.hid hL
  have hsl : ∀ W : World, (Instr.sliceAt 27 (.pointer (some ⟨a, 0, none⟩)) none (some (.int .i64 ((n : Int) + 1))) none).run Tryd.prog W = .ok (.slice (some ⟨a, 0, none⟩) (n + 1) 4) W := slice_four a n hn3
  rw [← hV, ← hL]
  clear hV hL c4 f4 cn fn HW hb
  go_region
  go_wp2_with fail
  refine (show Calls _ _ _ _ _ from HK.out ▸ HFull.out _ (VT.out.drewN 1) VB.out).mono ?_
  rintro e w' ⟨rfl, hb⟩
  have HB := Lib.hid hb
  clear hb
  have e1 := HF.out
  have hLw : L < V.heap.size := (Array.getElem?_eq_some_iff.1 VL.out).1
  have wl : w'.heap[L]? = some (.cells #[.int .i32 0, .int .i32 0] 33 (0, 0)) := (HB.out.block L hLw).trans VL.out
  have cl0 : w'.cell? ⟨L, 0, none⟩ = some (.int .i32 0) := by rw [cell_of wl]; rfl
  have cl1 : w'.cell? ⟨L, 1, none⟩ = some (.int .i32 0) := by rw [cell_of wl]; rfl
  have fl0 : w'.frozen? ⟨L, 0, none⟩ = false := free_of wl 0
  have fl1 : w'.frozen? ⟨L, 1, none⟩ = false := free_of wl 1
  have ha : a < V.heap.size := (Array.getElem?_eq_some_iff.1 VB.out).1
  have hWB : Hid (w'.heap[a]? = some (.cells (cellsK (k ++ [b])) 29 (0, 0))) := Lib.hid ((HB.out.block a ha).trans VB.out)
  have hLa : Hid (a ≠ L) := Lib.hid (by have := hL0.out; omega)
  have WL := Lib.hid wl
  have hLw' := Lib.hid hLw
  clear wl hLw ha
  go_wp2
  refine bodyPost_ret (v := .tuple #[.agg #[.int .i32 0, .int .i32 0], .int .i64 0]) (by simp [results, Tryd.results12, go_sem, cl0, cl1]) rfl ⟨rfl, ⟨?_, HF.out⟩, ?_⟩
  · rw [Below.heap_setCell _ _ _ _ hLa.out, Below.heap_setCell _ _ _ _ hLa.out]
    exact hWB.out
  · have s1 : Stirs a w w' := (VS.out.drewN 1).then HB.out VS.out.size
    refine s1.then (B := w.heap.size) ?_ (Nat.le_refl _)
    exact ((Below.refl _ _).setCell (by simp [hL0.out]) _).setCell (by simp [hL0.out]) _

theorem byte_whole (a : Nat) (k : List UInt8) (b : UInt8) (w : World) (hT : Tabs w) (h : IsDec w a k) (hF : fullB (k ++ [b]) = true) (r : Nat) (hD : DecIs a (k ++ [b]) r (k ++ [b]).length) :
    Calls Tryd.prog 12 #[.pointer (some ⟨a, 0, none⟩), .int .u8 b.toNat] w (BytePost w a ([r], [])) := by
  have hn := full_length h.ok
  have hb := h.blk
  have hl : a < w.heap.size := (Array.getElem?_eq_some_iff.1 hb).1
  have hne := hT.ne hb
  obtain ⟨n, hk⟩ : ∃ n, n = k.length := ⟨_, rfl⟩
  have c4 : w.cell? ⟨a, 4, none⟩ = some (.int .i64 n) := by rw [cell_of hb, hk]; rfl
  have f4 : w.frozen? ⟨a, 4, none⟩ = false := free_of hb 4
  obtain ⟨v, cn⟩ : ∃ v, w.cell? ⟨a, n, none⟩ = some v := ⟨_, by rw [cell_of hb]; exact Array.getElem?_eq_getElem (by simp [cellsK]; omega)⟩
  have fn : w.frozen? ⟨a, n, none⟩ = false := free_of hb n
  have hn3 : n ≤ 3 := by omega
  have HW : Hid (((w.setCell ⟨a, n, none⟩ (.int .u8 b.toNat)).setCell ⟨a, 4, none⟩ (.int .i64 ((n : Int) + 1))).heap[a]? = some (.cells (cellsK (k ++ [b])) 29 (0, 0))) := Lib.hid (by
    have h1 := heap_setCell_same w a n _ _ (.int .u8 b.toNat) hb
    have h2 := heap_setCell_same _ a 4 _ _ (.int .i64 ((n : Int) + 1)) h1
    rw [h2, hk, cells_put hn])
  have HFull := Lib.hid (full_is a (k ++ [b]) (by simp) (by simp; omega))
  have HK := Lib.hid (show (k ++ [b]).length = n + 1 by simp [hk])
  have HF := Lib.hid hF
  have HT := Lib.hid hT
  have HN := Lib.hid hne
  have HD := Lib.hid hD
  clear h hk hn hF hT hne hD
  go_enter Tryd.func12, Tryd.ntmps12
  go_wp2
  go_region
  go_wp2
  obtain ⟨L, hL⟩ : ∃ L, L = w.heap.size := ⟨_, rfl⟩
  obtain ⟨V, hV⟩ : ∃ V, V = (((w.setCell ⟨a, n, none⟩ (.int .u8 b.toNat)).setCell ⟨a, 4, none⟩ (.int .i64 ((n : Int) + 1))).alloc (.cells #[.int .i32 0, .int .i32 0] 33)).drew := ⟨_, rfl⟩
  have VB : Hid (V.heap[a]? = some (.cells (cellsK (k ++ [b])) 29 (0, 0))) := Lib.hid (by
    rw [hV, heap_drew, Below.heap_alloc _ _ _ (by simpa using hl)]; exact HW.out)
  have VL : Hid (V.heap[L]? = some (.cells #[.int .i32 0, .int .i32 0] 33 (0, 0))) := Lib.hid (by
    rw [hV, hL, heap_drew]
    have := Deep.blk_alloc_new ((w.setCell ⟨a, n, none⟩ (.int .u8 b.toNat)).setCell ⟨a, 4, none⟩ (.int .i64 ((n : Int) + 1))) (.cells #[.int .i32 0, .int .i32 0] 33)
    simpa using this)
  have VS : Hid (Stirs a w V) := Lib.hid (by rw [hV]; exact ((((Stirs.refl a w).set n _).set 4 _).alloc _).drew)
  have VT : Hid (Tabs V) := Lib.hid (HT.out.stirs VS.out HN.out)
  have d4 : V.cell? ⟨a, 4, none⟩ = some (.int .i64 ((n : Int) + 1)) := by rw [cell_of VB.out]; simp [cellsK, HK.out]
  have hL0 := Lib.hid hL
  have hsl : ∀ W : World, (Instr.sliceAt 27 (.pointer (some ⟨a, 0, none⟩)) none (some (.int .i64 ((n : Int) + 1))) none).run Tryd.prog W = .ok (.slice (some ⟨a, 0, none⟩) (n + 1) 4) W := slice_four a n hn3
  rw [← hV, ← hL]
  clear hV hL c4 f4 cn fn HW hb
  go_region
  go_wp2_with fail
  refine (show Calls _ _ _ _ _ from HK.out ▸ HFull.out _ (VT.out.drewN 1) VB.out).mono ?_
  rintro e w' ⟨rfl, hb⟩
  have HB := Lib.hid hb
  clear hb
  have e1 := HF.out
  have hLw : L < V.heap.size := (Array.getElem?_eq_some_iff.1 VL.out).1
  have ha : a < V.heap.size := (Array.getElem?_eq_some_iff.1 VB.out).1
  have hLV := Lib.hid hLw
  have haV := Lib.hid ha
  have VT2 : Hid (Tabs w') := Lib.hid ((VT.out.drewN 1).below HB.out (Nat.le_refl _))
  have hWB : Hid (w'.heap[a]? = some (.cells (cellsK (k ++ [b])) 29 (0, 0))) := Lib.hid ((HB.out.block a ha).trans VB.out)
  clear hLw ha
  go_wp2_with fail
  clear e1
  refine (show Calls _ _ _ _ _ from dec_len HK.out HD.out _ VT2.out hWB.out).mono ?_
  rintro e w2 ⟨rfl, hb⟩
  have HB2 := Lib.hid (HB.out.trans (hb.mono HB.out.size))
  clear hb
  have wa : w2.heap[a]? = some (.cells (cellsK (k ++ [b])) 29 (0, 0)) := (HB2.out.block a haV.out).trans VB.out
  have ca0 : w2.cell? ⟨a, 0, none⟩ = some (.int .u8 (bt (k ++ [b]) 0)) := by rw [cell_of wa]; rfl
  have ca1 : w2.cell? ⟨a, 1, none⟩ = some (.int .u8 (bt (k ++ [b]) 1)) := by rw [cell_of wa]; rfl
  have ca2 : w2.cell? ⟨a, 2, none⟩ = some (.int .u8 (bt (k ++ [b]) 2)) := by rw [cell_of wa]; rfl
  have ca3 : w2.cell? ⟨a, 3, none⟩ = some (.int .u8 (bt (k ++ [b]) 3)) := by rw [cell_of wa]; rfl
  have ca4 : w2.cell? ⟨a, 4, none⟩ = some (.int .i64 ((n : Int) + 1)) := by rw [cell_of wa]; simp [cellsK, HK.out]
  have fa0 := free_of wa 0
  have fa1 := free_of wa 1
  have fa2 := free_of wa 2
  have fa3 := free_of wa 3
  have fa4 := free_of wa 4
  have wl : w2.heap[L]? = some (.cells #[.int .i32 0, .int .i32 0] 33 (0, 0)) := (HB2.out.block L hLV.out).trans VL.out
  have hLa : Hid (a ≠ L) := Lib.hid (by have := hL0.out; omega)
  have WL := Lib.hid wl
  have WA := Lib.hid wa
  clear wl wa
  have kb := build_dec
  have k1 := build_one
  go_upto_region 12 with (fail)
  obtain ⟨w3, h3⟩ : ∃ w3, w3 = ((((w2.setCell ⟨a, 0, none⟩ (.int .u8 0)).setCell ⟨a, 1, none⟩ (.int .u8 0)).setCell ⟨a, 2, none⟩ (.int .u8 0)).setCell ⟨a, 3, none⟩ (.int .u8 0)).setCell ⟨a, 4, none⟩ (.int .i64 0) := ⟨_, rfl⟩
  have W3B : Hid (w3.heap[a]? = some (.cells (cellsK []) 29 (0, 0))) := Lib.hid (by
    rw [h3]
    have q0 := heap_setCell_same w2 a 0 _ _ (.int .u8 0) WA.out
    have q1 := heap_setCell_same _ a 1 _ _ (.int .u8 0) q0
    have q2 := heap_setCell_same _ a 2 _ _ (.int .u8 0) q1
    have q3 := heap_setCell_same _ a 3 _ _ (.int .u8 0) q2
    have q4 := heap_setCell_same _ a 4 _ _ (.int .i64 0) q3
    exact q4)
  have S3 : Hid (Stirs a w2 w3) := Lib.hid (by rw [h3]; exact (((((Stirs.refl a w2).set 0 _).set 1 _).set 2 _).set 3 _).set 4 _)
  have S : Hid (Stirs a w w3) := Lib.hid (((VS.out.drewN 1).then HB2.out VS.out.size).trans S3.out)
  have wl : w3.heap[L]? = some (.cells #[.int .i32 0, .int .i32 0] 33 (0, 0)) := (S3.out.block L (Array.getElem?_eq_some_iff.1 WL.out).1 hLa.out.symm).trans WL.out
  have cl0 : w3.cell? ⟨L, 0, none⟩ = some (.int .i32 0) := by rw [cell_of wl]; rfl
  have cl1 : w3.cell? ⟨L, 1, none⟩ = some (.int .i32 0) := by rw [cell_of wl]; rfl
  have fl0 : w3.frozen? ⟨L, 0, none⟩ = false := free_of wl 0
  have fl1 : w3.frozen? ⟨L, 1, none⟩ = false := free_of wl 1
  have WL3 := Lib.hid wl
  rw [← h3]
  clear h3 wl ca0 ca1 ca2 ca3 ca4 fa0 fa1 fa2 fa3 fa4
  go_wp2
  refine bodyPost_ret (v := .tuple #[.agg #[.int .i32 r, .int .i32 0], .int .i64 1]) (by simp [results, Tryd.results12, go_sem, cl0, cl1]) rfl ⟨rfl, ⟨?_, rfl⟩, ?_⟩
  · rw [Below.heap_setCell _ _ _ _ hLa.out, Below.heap_setCell _ _ _ _ hLa.out]
    exact W3B.out
  · refine S.out.then (B := w.heap.size) ?_ (Nat.le_refl _)
    exact ((Below.refl _ _).setCell (by simp [hL0.out]) _).setCell (by simp [hL0.out]) _

theorem dec_any {a n r m : Nat} {l : List UInt8} (h : l.length = n + 1) (hD : DecIs a l r m) (w : World) (hT : Tabs w) (hw : w.heap[a]? = some (.cells (cellsK l) 29 (0, 0))) :
    Calls Tryd.prog 18 #[.slice (some ⟨a, 0, none⟩) (n + 1) 4] w fun e w' => e = .returned (.tuple #[.int .i32 r, .int .i64 m]) ∧ Below w.heap.size w w' := by
  have := hD w hT hw
  rw [h] at this
  exact this

/-- What Byte answers, in letters. -/
def Post (w : World) (a x y p : Nat) (o : List UInt8) (e : Ending) (w' : World) : Prop := e = .returned (.tuple #[.agg #[.int .i32 x, .int .i32 y], .int .i64 (p : Nat)]) ∧ IsDec w' a o ∧ Stirs a w w'
def ByteIs (a : Nat) (k : List UInt8) (b : UInt8) (x y p : Nat) (o : List UInt8) : Prop := ∀ w : World, Tabs w → IsDec w a k → Calls Tryd.prog 12 #[.pointer (some ⟨a, 0, none⟩), .int .u8 b.toNat] w (Post w a x y p o)

set_option maxHeartbeats 400000 in
theorem byte_mark (a : Nat) (k : List UInt8) (b : UInt8) (w : World) (hT : Tabs w) (h : IsDec w a k) (hF : fullB (k ++ [b]) = true) (r m : Nat) (hD : DecIs a (k ++ [b]) r m) (hm : m ≠ (k ++ [b]).length) (x y p : Nat) (o : List UInt8) (hp : p ≤ 1) (hR : ByteIs a [] b x y p o) :
    Calls Tryd.prog 12 #[.pointer (some ⟨a, 0, none⟩), .int .u8 b.toNat] w (Post w a 65533 x (1 + p) o) := by
  have hn := full_length h.ok
  have hb := h.blk
  have hl : a < w.heap.size := (Array.getElem?_eq_some_iff.1 hb).1
  have hne := hT.ne hb
  obtain ⟨n, hk⟩ : ∃ n, n = k.length := ⟨_, rfl⟩
  have c4 : w.cell? ⟨a, 4, none⟩ = some (.int .i64 n) := by rw [cell_of hb, hk]; rfl
  have f4 : w.frozen? ⟨a, 4, none⟩ = false := free_of hb 4
  obtain ⟨v, cn⟩ : ∃ v, w.cell? ⟨a, n, none⟩ = some v := ⟨_, by rw [cell_of hb]; exact Array.getElem?_eq_getElem (by simp [cellsK]; omega)⟩
  have fn : w.frozen? ⟨a, n, none⟩ = false := free_of hb n
  have hn3 : n ≤ 3 := by omega
  have HW : Hid (((w.setCell ⟨a, n, none⟩ (.int .u8 b.toNat)).setCell ⟨a, 4, none⟩ (.int .i64 ((n : Int) + 1))).heap[a]? = some (.cells (cellsK (k ++ [b])) 29 (0, 0))) := Lib.hid (by
    have h1 := heap_setCell_same w a n _ _ (.int .u8 b.toNat) hb
    have h2 := heap_setCell_same _ a 4 _ _ (.int .i64 ((n : Int) + 1)) h1
    rw [h2, hk, cells_put hn])
  have HFull := Lib.hid (full_is a (k ++ [b]) (by simp) (by simp; omega))
  have HK := Lib.hid (show (k ++ [b]).length = n + 1 by simp [hk])
  have HF := Lib.hid hF
  have HT := Lib.hid hT
  have HN := Lib.hid hne
  have HD := Lib.hid hD
  have HR := Lib.hid hR
  have hmn : ((m : Int) == (n : Int) + 1) = false := by
    have h2 : m ≠ n + 1 := by simpa [hk] using hm
    simp; omega
  clear h hk hn hF hT hne hD hR hm
  go_enter Tryd.func12, Tryd.ntmps12
  go_wp2
  go_region
  go_wp2
  obtain ⟨L, hL⟩ : ∃ L, L = w.heap.size := ⟨_, rfl⟩
  obtain ⟨V, hV⟩ : ∃ V, V = (((w.setCell ⟨a, n, none⟩ (.int .u8 b.toNat)).setCell ⟨a, 4, none⟩ (.int .i64 ((n : Int) + 1))).alloc (.cells #[.int .i32 0, .int .i32 0] 33)).drew := ⟨_, rfl⟩
  have VB : Hid (V.heap[a]? = some (.cells (cellsK (k ++ [b])) 29 (0, 0))) := Lib.hid (by
    rw [hV, heap_drew, Below.heap_alloc _ _ _ (by simpa using hl)]; exact HW.out)
  have VL : Hid (V.heap[L]? = some (.cells #[.int .i32 0, .int .i32 0] 33 (0, 0))) := Lib.hid (by
    rw [hV, hL, heap_drew]
    have := Deep.blk_alloc_new ((w.setCell ⟨a, n, none⟩ (.int .u8 b.toNat)).setCell ⟨a, 4, none⟩ (.int .i64 ((n : Int) + 1))) (.cells #[.int .i32 0, .int .i32 0] 33)
    simpa using this)
  have VS : Hid (Stirs a w V) := Lib.hid (by rw [hV]; exact ((((Stirs.refl a w).set n _).set 4 _).alloc _).drew)
  have VT : Hid (Tabs V) := Lib.hid (HT.out.stirs VS.out HN.out)
  have d4 : V.cell? ⟨a, 4, none⟩ = some (.int .i64 ((n : Int) + 1)) := by rw [cell_of VB.out]; simp [cellsK, HK.out]
  have hL0 := Lib.hid hL
  have hsl : ∀ W : World, (Instr.sliceAt 27 (.pointer (some ⟨a, 0, none⟩)) none (some (.int .i64 ((n : Int) + 1))) none).run Tryd.prog W = .ok (.slice (some ⟨a, 0, none⟩) (n + 1) 4) W := slice_four a n hn3
  rw [← hV, ← hL]
  clear hV hL c4 f4 cn fn HW hb
  go_region
  go_wp2_with fail
  refine (show Calls _ _ _ _ _ from HK.out ▸ HFull.out _ (VT.out.drewN 1) VB.out).mono ?_
  rintro e w' ⟨rfl, hb⟩
  have HB := Lib.hid hb
  clear hb
  have e1 := HF.out
  have hLw : L < V.heap.size := (Array.getElem?_eq_some_iff.1 VL.out).1
  have ha : a < V.heap.size := (Array.getElem?_eq_some_iff.1 VB.out).1
  have hLV := Lib.hid hLw
  have haV := Lib.hid ha
  have VT2 : Hid (Tabs w') := Lib.hid ((VT.out.drewN 1).below HB.out (Nat.le_refl _))
  have hWB : Hid (w'.heap[a]? = some (.cells (cellsK (k ++ [b])) 29 (0, 0))) := Lib.hid ((HB.out.block a ha).trans VB.out)
  clear hLw ha
  go_wp2_with fail
  clear e1
  refine (show Calls _ _ _ _ _ from dec_any HK.out HD.out _ VT2.out hWB.out).mono ?_
  rintro e w2 ⟨rfl, hb⟩
  have HB2 := Lib.hid (HB.out.trans (hb.mono HB.out.size))
  clear hb
  have wa : w2.heap[a]? = some (.cells (cellsK (k ++ [b])) 29 (0, 0)) := (HB2.out.block a haV.out).trans VB.out
  have ca0 : w2.cell? ⟨a, 0, none⟩ = some (.int .u8 (bt (k ++ [b]) 0)) := by rw [cell_of wa]; rfl
  have ca1 : w2.cell? ⟨a, 1, none⟩ = some (.int .u8 (bt (k ++ [b]) 1)) := by rw [cell_of wa]; rfl
  have ca2 : w2.cell? ⟨a, 2, none⟩ = some (.int .u8 (bt (k ++ [b]) 2)) := by rw [cell_of wa]; rfl
  have ca3 : w2.cell? ⟨a, 3, none⟩ = some (.int .u8 (bt (k ++ [b]) 3)) := by rw [cell_of wa]; rfl
  have ca4 : w2.cell? ⟨a, 4, none⟩ = some (.int .i64 ((n : Int) + 1)) := by rw [cell_of wa]; simp [cellsK, HK.out]
  have fa0 := free_of wa 0
  have fa1 := free_of wa 1
  have fa2 := free_of wa 2
  have fa3 := free_of wa 3
  have fa4 := free_of wa 4
  have wl : w2.heap[L]? = some (.cells #[.int .i32 0, .int .i32 0] 33 (0, 0)) := (HB2.out.block L hLV.out).trans VL.out
  have hLa : Hid (a ≠ L) := Lib.hid (by have := hL0.out; omega)
  have WL := Lib.hid wl
  have WA := Lib.hid wa
  clear wl wa
  have kb := build_dec
  have k2 := build_two
  go_upto_region 13 with (fail)
  obtain ⟨w3, h3⟩ : ∃ w3, w3 = ((((w2.setCell ⟨a, 0, none⟩ (.int .u8 0)).setCell ⟨a, 1, none⟩ (.int .u8 0)).setCell ⟨a, 2, none⟩ (.int .u8 0)).setCell ⟨a, 3, none⟩ (.int .u8 0)).setCell ⟨a, 4, none⟩ (.int .i64 0) := ⟨_, rfl⟩
  have W3B : Hid (w3.heap[a]? = some (.cells (cellsK []) 29 (0, 0))) := Lib.hid (by
    rw [h3]
    have q0 := heap_setCell_same w2 a 0 _ _ (.int .u8 0) WA.out
    have q1 := heap_setCell_same _ a 1 _ _ (.int .u8 0) q0
    have q2 := heap_setCell_same _ a 2 _ _ (.int .u8 0) q1
    have q3 := heap_setCell_same _ a 3 _ _ (.int .u8 0) q2
    have q4 := heap_setCell_same _ a 4 _ _ (.int .i64 0) q3
    exact q4)
  have S3 : Hid (Stirs a w2 w3) := Lib.hid (by rw [h3]; exact (((((Stirs.refl a w2).set 0 _).set 1 _).set 2 _).set 3 _).set 4 _)
  have S : Hid (Stirs a w w3) := Lib.hid (((VS.out.drewN 1).then HB2.out VS.out.size).trans S3.out)
  have WL3 : Hid (w3.heap[L]? = some (.cells #[.int .i32 0, .int .i32 0] 33 (0, 0))) := Lib.hid ((S3.out.block L (Array.getElem?_eq_some_iff.1 WL.out).1 hLa.out.symm).trans WL.out)
  have T3 : Hid (Tabs w3) := Lib.hid (HT.out.stirs S.out HN.out)
  rw [← h3]
  clear h3 ca0 ca1 ca2 ca3 ca4 fa0 fa1 fa2 fa3 fa4 hmn
  go_wp2_with fail
  refine (show Calls _ _ _ _ _ from HR.out w3 T3.out ⟨W3B.out, rfl⟩).mono ?_
  rintro e w4 ⟨rfl, hd, hs⟩
  have HD4 := Lib.hid hd
  have HS4 := Lib.hid hs
  have wl : w4.heap[L]? = some (.cells #[.int .i32 0, .int .i32 0] 33 (0, 0)) := (hs.block L (Array.getElem?_eq_some_iff.1 WL3.out).1 hLa.out.symm).trans WL3.out
  have cl0 : w4.cell? ⟨L, 0, none⟩ = some (.int .i32 0) := by rw [cell_of wl]; rfl
  have cl1 : w4.cell? ⟨L, 1, none⟩ = some (.int .i32 0) := by rw [cell_of wl]; rfl
  have fl0 : w4.frozen? ⟨L, 0, none⟩ = false := free_of wl 0
  have fl1 : w4.frozen? ⟨L, 1, none⟩ = false := free_of wl 1
  have hLs : L < w4.heap.size := (Array.getElem?_eq_some_iff.1 wl).1
  have has : Hid (a < w4.heap.size) := Lib.hid (Array.getElem?_eq_some_iff.1 hd.blk).1
  have S4 : Hid (w.heap.size ≤ w4.heap.size) := Lib.hid (Nat.le_trans S.out.size hs.size)
  clear hd hs wl
  go_wp2
  refine bodyPost_ret (v := .tuple #[.agg #[.int .i32 65533, .int .i32 x], .int .i64 (1 + p)]) (by simp [results, Tryd.results12, go_sem, cl0, cl1, hLs]) rfl ⟨by simp, ⟨?_, HD4.out.ok⟩, ?_⟩
  · rw [Below.heap_alloc _ _ _ (by simpa using has.out), Below.heap_setCell _ _ _ _ hLa.out, Below.heap_setCell _ _ _ _ hLa.out]
    exact HD4.out.blk
  · refine (S.out.trans HS4.out).then (B := w.heap.size) ?_ (Nat.le_refl _)
    exact (((Below.refl _ _).setCell (by simp [hL0.out]) _).setCell (by simp [hL0.out]) _).alloc (by simpa using S4.out) _

end Go.Proofs.YtbnclfelkdbbcaaDoor
