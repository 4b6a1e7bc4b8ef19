/- Layer 5: a decoder in memory; Byte. -/
import Derived.Test.YtkenaccnmmmooaaDoorF5DcA
import Derived.ChangeAlike
import Derived.Deep.QuietTactic
import Derived.OneCell
import Derived.Deep.Heap
import Derived.Deep.DeepCutAuto
import Derived.Outline
namespace Go.Proofs.YtkenaccnmmmooaaDoor.D5
open Go.RowKit Go.Lib Dec

def cellsK (k : List UInt8) : Array Value := #[.int .u8 (bt k 0), .int .u8 (bt k 1), .int .u8 (bt k 2), .int .u8 (bt k 3), .int .i64 k.length]

/-- A decoder in memory that keeps k, from cell z of block a on. -/
structure IsDec (w : World) (a z : Nat) (k : List UInt8) : Prop where
  blk : Part w a z (cellsK k)
  ok : fullB k = false
  ne : a ≠ 2 ∧ a ≠ 3
theorem dc {w : World} {a z : Nat} {k : List UInt8} (h : Part w a z (cellsK k)) (i : Nat) (hi : i < 5) : w.cell? ⟨a, z + i, none⟩ = (cellsK k)[i]? := Part.cell h (show i < (cellsK k).size from hi)
theorem dc0 {w : World} {a z : Nat} {k : List UInt8} (h : Part w a z (cellsK k)) : w.cell? ⟨a, z, none⟩ = (cellsK k)[0]? := dc h 0 (by omega)
theorem set0 {w : World} {a z : Nat} {c : Array Value} (h : Part w a z c) (v : Value) (hi : 0 < c.size) : Part (w.setCell ⟨a, z, none⟩ v) a z (c.setIfInBounds 0 v) := Part.set h 0 v hi

theorem cell_of {w : World} {b : Nat} {c : Array Value} {t : TypeId} (h : w.heap[b]? = some (.cells c t (0, 0))) (i : Nat) : w.cell? ⟨b, i, none⟩ = c[i]? := by simp [World.cell?, h]
theorem free_of {w : World} {b : Nat} {c : Array Value} {t : TypeId} (h : w.heap[b]? = some (.cells c t (0, 0))) (i : Nat) : w.frozen? ⟨b, i, none⟩ = false := by simp [World.frozen?, h]

theorem cells_put {k : List UInt8} (h : k.length ≤ 3) (b : UInt8) : ((cellsK k).setIfInBounds k.length (.int .u8 b.toNat)).setIfInBounds 4 (.int .i64 ((k.length : Int) + 1)) = cellsK (k ++ [b]) := by
  match k, h with
  | [], _ => rfl
  | [x], _ => rfl
  | [x, y], _ => rfl
  | [x, y, z], _ => rfl










theorem lt_block {w : World} {b o : Nat} {v : Value} (h : w.cell? ⟨b, o, none⟩ = some v) : b < w.heap.size := by
  unfold World.cell? at h
  cases hx : w.heap[b]? with
  | none => simp [hx] at h
  | some y => exact (Array.getElem?_eq_some_iff.1 hx).1

/-- The tables stay. -/
theorem Tabs.same {w w' : World} (h : Tabs w) (k0 : w'.heap[2]? = w.heap[2]?) (k1 : w'.heap[3]? = w.heap[3]?) : Tabs w' :=
  ⟨fun c hc => (World.cell?_of_block (w := w) k0).trans (h.1 c hc), fun i hi => ⟨(World.cell?_of_block (w := w) k1).trans (h.2 i hi).1, (World.cell?_of_block (w := w) k1).trans (h.2 i hi).2⟩⟩
theorem Tabs.lt {w : World} (h : Tabs w) : 2 < w.heap.size ∧ 3 < w.heap.size := ⟨lt_block (h.1 0 (by omega)), lt_block (h.2 0 (by omega)).1⟩
theorem Tabs.below {w w' : World} {B : Nat} (h : Tabs w) (hb : Below B w w') (hB : w.heap.size ≤ B) : Tabs w' := h.same (hb.block _ (Nat.lt_of_lt_of_le h.lt.1 hB)) (hb.block _ (Nat.lt_of_lt_of_le h.lt.2 hB))
theorem Tabs.drewN {w : World} (h : Tabs w) (n : Nat) : Tabs (w.drewN n) := h

theorem Tabs.stirs {w w' : World} {a z n : Nat} (h : Tabs w) (hs : Stirs a z n w w') (hn : a ≠ 2 ∧ a ≠ 3) : Tabs w' := h.same (hs.block _ h.lt.1 hn.1.symm) (hs.block _ h.lt.2 hn.2.symm)

/-- What Byte answers: t is told, k is kept. -/
def BytePost (w : World) (a z : Nat) (t : List Nat × List UInt8) (e : Ending) (w' : World) : Prop :=
  e = .returned (.tuple #[.agg #[.int .i32 (t.1.getD 0 0 : Nat), .int .i32 (t.1.getD 1 0 : Nat)], .int .i64 t.1.length]) ∧ IsDec w' a z t.2 ∧ Stirs a z 5 w w'

/-- FullRune, DecodeRune over what a decoder holds. -/
def FullIs (a z : Nat) (l : List UInt8) (f : Bool) : Prop := ∀ w : World, Tabs w → Part w a z (cellsK l) →
  Calls Tryd.prog 71 #[.slice (some ⟨a, z, none⟩) l.length 4] w fun e w' => e = .returned (.bool f) ∧ Below w.heap.size w w'
def DecIs (a z : Nat) (l : List UInt8) (r n : Nat) : Prop := ∀ w : World, Tabs w → Part w a z (cellsK l) →
  Calls Tryd.prog 72 #[.slice (some ⟨a, z, none⟩) l.length 4] w fun e w' => e = .returned (.tuple #[.int .i32 r, .int .i64 n]) ∧ Below w.heap.size w w'

theorem cells_at {l : List UInt8} (hl : l.length ≤ 4) (i : Nat) (hi : i < l.length) : (cellsK l)[i]? = some (.int .u8 (bt l i : Nat)) := by
  obtain rfl | rfl | rfl | rfl : i = 0 ∨ i = 1 ∨ i = 2 ∨ i = 3 := by omega
  all_goals rfl

theorem full_is (a z : Nat) (l : List UInt8) (h1 : 1 ≤ l.length) (h4 : l.length ≤ 4) : FullIs a z l (fullB l) := by
  intro w hT hb
  have hf : fullB l = fullN l.length (bt l 0) (bt l 1) (bt l 2) := by
    cases l with
    | nil => simp at h1
    | cons x l => rfl
  rw [hf]
  exact full_any a z l.length 4 _ _ _ w hT h1 h4 (bt_lt l 0) ((dc0 hb).trans (cells_at h4 0 (by omega))) (fun h => (dc hb 1 (by omega)).trans (cells_at h4 1 h)) (fun h => (dc hb 2 (by omega)).trans (cells_at h4 2 h))

set_option maxRecDepth 100000 in
theorem slice_four (a z n : Nat) (hn : n ≤ 3) (W : World) : (Instr.sliceAt 55 (.pointer (some ⟨a, z, none⟩)) none (some (.int .i64 ((n : Int) + 1))) none).run Tryd.prog W = .ok (.slice (some ⟨a, z, none⟩) (n + 1) 4) W := by
  have ha : Tryd.prog.arrayLen 55 = 4 := by kernel_rfl
  have := run_sliceAt_array_h (P := Tryd.prog) (w := W) (t := 55) (a := ⟨a, z, none⟩) Tryd.underlying55 .i64 ((n : Int) + 1) (by omega) (by rw [ha]; omega)
  rw [this, ha]
  rfl

theorem build_dec (W : World) : (Instr.build 57 #[]).run Tryd.prog W = .ok (.agg #[.int .u8 0, .int .u8 0, .int .u8 0, .int .u8 0, .int .i64 0]) W := run_build W 57 #[] _ (by kernel_rfl)
theorem build_one (x : Int) (W : World) : (Instr.build 101 #[(0, .int .i32 x)]).run Tryd.prog W = .ok (.agg #[.int .i32 x, .int .i32 0]) W := run_build W 101 #[(0, .int .i32 x)] _ (by kernel_rfl)
theorem build_two (x y : Int) (W : World) : (Instr.build 101 #[(0, .int .i32 x), (1, .int .i32 y)]).run Tryd.prog W = .ok (.agg #[.int .i32 x, .int .i32 y]) W := run_build W 101 #[(0, .int .i32 x), (1, .int .i32 y)] _ (by kernel_rfl)

theorem dec_len {a z n r : Nat} {l : List UInt8} (h : l.length = n + 1) (hD : DecIs a z l r l.length) (w : World) (hT : Tabs w) (hw : Part w a z (cellsK l)) :
    Calls Tryd.prog 72 #[.slice (some ⟨a, z, none⟩) (n + 1) 4] w fun e w' => e = .returned (.tuple #[.int .i32 r, .int .i64 ((n : Int) + 1)]) ∧ Below w.heap.size w w' := by
  have := hD w hT hw
  rw [h] at this
  exact this

theorem byte_keep (a z : Nat) (k : List UInt8) (b : UInt8) (w : World) (hT : Tabs w) (h : IsDec w a z k) (hF : fullB (k ++ [b]) = false) :
    Calls Tryd.prog 58 #[.pointer (some ⟨a, z, none⟩), .int .u8 b.toNat] w (BytePost w a z ([], k ++ [b])) := by
  have hn := full_length h.ok
  have hb := h.blk
  have hl : a < w.heap.size := (Part.lt hb)
  have hne := h.ne
  obtain ⟨n, hk⟩ : ∃ n, n = k.length := ⟨_, rfl⟩
  have c4 : w.cell? ⟨a, z + 4, none⟩ = some (.int .i64 n) := by rw [dc hb 4 (by omega), hk]; rfl
  have f4 : w.frozen? ⟨a, z + 4, none⟩ = false := Part.free hb (z + 4)
  obtain ⟨v, cn⟩ : ∃ v, w.cell? ⟨a, z + n, none⟩ = some v := ⟨_, by rw [dc hb n (by omega)]; exact Array.getElem?_eq_getElem (by simp [cellsK]; omega)⟩
  have fn : w.frozen? ⟨a, z + n, none⟩ = false := Part.free hb (z + n)
  have hn3 : n ≤ 3 := by omega
  have HW : Hid (Part ((w.setCell ⟨a, z + n, none⟩ (.int .u8 b.toNat)).setCell ⟨a, z + 4, none⟩ (.int .i64 ((n : Int) + 1))) a z (cellsK (k ++ [b]))) := Lib.hid (by
    have h1 := Part.set hb n (.int .u8 b.toNat) (show n < 5 by omega)
    have h2 := Part.set h1 4 (.int .i64 ((n : Int) + 1)) (by simp [cellsK])
    rw [← cells_put hn, ← hk]; exact h2)
  have HFull := Lib.hid (full_is a z (k ++ [b]) (by simp) (by simp; omega))
  have HK := Lib.hid (show (k ++ [b]).length = n + 1 by simp [hk])
  have HF := Lib.hid hF
  have HT := Lib.hid hT
  have HN := Lib.hid hne
  clear h hk hn hF hT hne
  go_enter Tryd.func58, Tryd.ntmps58
  go_wp2
  go_region
  go_wp2
  obtain ⟨L, hL⟩ : ∃ L, L = w.heap.size := ⟨_, rfl⟩
  obtain ⟨V, hV⟩ : ∃ V, V = (((w.setCell ⟨a, z + n, none⟩ (.int .u8 b.toNat)).setCell ⟨a, z + 4, none⟩ (.int .i64 ((n : Int) + 1))).alloc (.cells #[.int .i32 0, .int .i32 0] 101)).drew := ⟨_, rfl⟩
  have VB : Hid (Part V a z (cellsK (k ++ [b]))) := Lib.hid (by
    exact Part.of_block HW.out (by rw [hV, heap_drew, Below.heap_alloc _ _ _ (by simpa using hl)]))
  have VL : Hid (V.heap[L]? = some (.cells #[.int .i32 0, .int .i32 0] 101 (0, 0))) := Lib.hid (by
    rw [hV, hL, heap_drew]
    have := Deep.blk_alloc_new ((w.setCell ⟨a, z + n, none⟩ (.int .u8 b.toNat)).setCell ⟨a, z + 4, none⟩ (.int .i64 ((n : Int) + 1))) (.cells #[.int .i32 0, .int .i32 0] 101)
    simpa using this)
  have VS : Hid (Stirs a z 5 w V) := Lib.hid (by rw [hV]; exact ((((Stirs.refl a z 5 w).set (z + n) _ (by omega)).set (z + 4) _ (by omega)).alloc _ hl).drew)
  have VT : Hid (Tabs V) := Lib.hid (HT.out.stirs VS.out HN.out)
  have d4 : V.cell? ⟨a, z + 4, none⟩ = some (.int .i64 ((n : Int) + 1)) := by rw [dc VB.out 4 (by omega)]; simp [cellsK, HK.out]
  have hL0 := Lib.hid hL
  have hsl : ∀ W : World, (Instr.sliceAt 55 (.pointer (some ⟨a, z, none⟩)) none (some (.int .i64 ((n : Int) + 1))) none).run Tryd.prog W = .ok (.slice (some ⟨a, z, none⟩) (n + 1) 4) W := slice_four a z n hn3
  rw [← hV, ← hL]
  clear hV hL c4 f4 cn fn HW hb
  go_region
  go_wp2_with fail
  refine (show Calls _ _ _ _ _ from HK.out ▸ HFull.out _ (VT.out.drewN 1) VB.out).mono ?_
  rintro e w' ⟨rfl, hb⟩
  have HB := Lib.hid hb
  clear hb
  have e1 := HF.out
  have hLw : L < V.heap.size := (Array.getElem?_eq_some_iff.1 VL.out).1
  have wl : w'.heap[L]? = some (.cells #[.int .i32 0, .int .i32 0] 101 (0, 0)) := (HB.out.block L hLw).trans VL.out
  have cl0 : w'.cell? ⟨L, 0, none⟩ = some (.int .i32 0) := by rw [cell_of wl]; rfl
  have cl1 : w'.cell? ⟨L, 1, none⟩ = some (.int .i32 0) := by rw [cell_of wl]; rfl
  have fl0 : w'.frozen? ⟨L, 0, none⟩ = false := free_of wl 0
  have fl1 : w'.frozen? ⟨L, 1, none⟩ = false := free_of wl 1
  have ha : a < V.heap.size := (Part.lt VB.out)
  have hWB : Hid (Part w' a z (cellsK (k ++ [b]))) := Lib.hid (Part.of_block VB.out (HB.out.block a ha))
  have hLa : Hid (a ≠ L) := Lib.hid (by have := hL0.out; omega)
  have WL := Lib.hid wl
  have hLw' := Lib.hid hLw
  clear wl hLw ha
  go_wp2
  refine bodyPost_ret (v := .tuple #[.agg #[.int .i32 0, .int .i32 0], .int .i64 0]) (by simp [results, Tryd.results58, go_sem, cl0, cl1]) rfl ⟨rfl, ⟨?_, HF.out, HN.out⟩, ?_⟩
  · exact Part.of_block hWB.out (by rw [Below.heap_setCell _ _ _ _ hLa.out, Below.heap_setCell _ _ _ _ hLa.out])
  · have s1 : Stirs a z 5 w w' := (VS.out.drewN 1).andthen HB.out VS.out.size hl
    refine s1.andthen (B := w.heap.size) ?_ (Nat.le_refl _) hl
    exact ((Below.refl _ _).setCell (by simp [hL0.out]) _).setCell (by simp [hL0.out]) _

theorem byte_whole (a z : Nat) (k : List UInt8) (b : UInt8) (w : World) (hT : Tabs w) (h : IsDec w a z k) (hF : fullB (k ++ [b]) = true) (r : Nat) (hD : DecIs a z (k ++ [b]) r (k ++ [b]).length) :
    Calls Tryd.prog 58 #[.pointer (some ⟨a, z, none⟩), .int .u8 b.toNat] w (BytePost w a z ([r], [])) := by
  have hn := full_length h.ok
  have hb := h.blk
  have hl : a < w.heap.size := (Part.lt hb)
  have hne := h.ne
  obtain ⟨n, hk⟩ : ∃ n, n = k.length := ⟨_, rfl⟩
  have c4 : w.cell? ⟨a, z + 4, none⟩ = some (.int .i64 n) := by rw [dc hb 4 (by omega), hk]; rfl
  have f4 : w.frozen? ⟨a, z + 4, none⟩ = false := Part.free hb (z + 4)
  obtain ⟨v, cn⟩ : ∃ v, w.cell? ⟨a, z + n, none⟩ = some v := ⟨_, by rw [dc hb n (by omega)]; exact Array.getElem?_eq_getElem (by simp [cellsK]; omega)⟩
  have fn : w.frozen? ⟨a, z + n, none⟩ = false := Part.free hb (z + n)
  have hn3 : n ≤ 3 := by omega
  have HW : Hid (Part ((w.setCell ⟨a, z + n, none⟩ (.int .u8 b.toNat)).setCell ⟨a, z + 4, none⟩ (.int .i64 ((n : Int) + 1))) a z (cellsK (k ++ [b]))) := Lib.hid (by
    have h1 := Part.set hb n (.int .u8 b.toNat) (show n < 5 by omega)
    have h2 := Part.set h1 4 (.int .i64 ((n : Int) + 1)) (by simp [cellsK])
    rw [← cells_put hn, ← hk]; exact h2)
  have HFull := Lib.hid (full_is a z (k ++ [b]) (by simp) (by simp; omega))
  have HK := Lib.hid (show (k ++ [b]).length = n + 1 by simp [hk])
  have HF := Lib.hid hF
  have HT := Lib.hid hT
  have HN := Lib.hid hne
  have HD := Lib.hid hD
  clear h hk hn hF hT hne hD
  go_enter Tryd.func58, Tryd.ntmps58
  go_wp2
  go_region
  go_wp2
  obtain ⟨L, hL⟩ : ∃ L, L = w.heap.size := ⟨_, rfl⟩
  obtain ⟨V, hV⟩ : ∃ V, V = (((w.setCell ⟨a, z + n, none⟩ (.int .u8 b.toNat)).setCell ⟨a, z + 4, none⟩ (.int .i64 ((n : Int) + 1))).alloc (.cells #[.int .i32 0, .int .i32 0] 101)).drew := ⟨_, rfl⟩
  have VB : Hid (Part V a z (cellsK (k ++ [b]))) := Lib.hid (by
    exact Part.of_block HW.out (by rw [hV, heap_drew, Below.heap_alloc _ _ _ (by simpa using hl)]))
  have VL : Hid (V.heap[L]? = some (.cells #[.int .i32 0, .int .i32 0] 101 (0, 0))) := Lib.hid (by
    rw [hV, hL, heap_drew]
    have := Deep.blk_alloc_new ((w.setCell ⟨a, z + n, none⟩ (.int .u8 b.toNat)).setCell ⟨a, z + 4, none⟩ (.int .i64 ((n : Int) + 1))) (.cells #[.int .i32 0, .int .i32 0] 101)
    simpa using this)
  have VS : Hid (Stirs a z 5 w V) := Lib.hid (by rw [hV]; exact ((((Stirs.refl a z 5 w).set (z + n) _ (by omega)).set (z + 4) _ (by omega)).alloc _ hl).drew)
  have VT : Hid (Tabs V) := Lib.hid (HT.out.stirs VS.out HN.out)
  have d4 : V.cell? ⟨a, z + 4, none⟩ = some (.int .i64 ((n : Int) + 1)) := by rw [dc VB.out 4 (by omega)]; simp [cellsK, HK.out]
  have hL0 := Lib.hid hL
  have hsl : ∀ W : World, (Instr.sliceAt 55 (.pointer (some ⟨a, z, none⟩)) none (some (.int .i64 ((n : Int) + 1))) none).run Tryd.prog W = .ok (.slice (some ⟨a, z, none⟩) (n + 1) 4) W := slice_four a z n hn3
  rw [← hV, ← hL]
  clear hV hL c4 f4 cn fn HW hb
  go_region
  go_wp2_with fail
  refine (show Calls _ _ _ _ _ from HK.out ▸ HFull.out _ (VT.out.drewN 1) VB.out).mono ?_
  rintro e w' ⟨rfl, hb⟩
  have HB := Lib.hid hb
  clear hb
  have e1 := HF.out
  have hLw : L < V.heap.size := (Array.getElem?_eq_some_iff.1 VL.out).1
  have ha : a < V.heap.size := (Part.lt VB.out)
  have hLV := Lib.hid hLw
  have haV := Lib.hid ha
  have VT2 : Hid (Tabs w') := Lib.hid ((VT.out.drewN 1).below HB.out (Nat.le_refl _))
  have hWB : Hid (Part w' a z (cellsK (k ++ [b]))) := Lib.hid (Part.of_block VB.out (HB.out.block a ha))
  clear hLw ha
  go_wp2_with fail
  clear e1
  refine (show Calls _ _ _ _ _ from dec_len HK.out HD.out _ VT2.out hWB.out).mono ?_
  rintro e w2 ⟨rfl, hb⟩
  have HB2 := Lib.hid (HB.out.trans (hb.mono HB.out.size))
  clear hb
  have wa : Part w2 a z (cellsK (k ++ [b])) := Part.of_block VB.out (HB2.out.block a haV.out)
  have ca0 : w2.cell? ⟨a, z, none⟩ = some (.int .u8 (bt (k ++ [b]) 0)) := by rw [dc0 wa]; rfl
  have ca1 : w2.cell? ⟨a, z + 1, none⟩ = some (.int .u8 (bt (k ++ [b]) 1)) := by rw [dc wa 1 (by omega)]; rfl
  have ca2 : w2.cell? ⟨a, z + 2, none⟩ = some (.int .u8 (bt (k ++ [b]) 2)) := by rw [dc wa 2 (by omega)]; rfl
  have ca3 : w2.cell? ⟨a, z + 3, none⟩ = some (.int .u8 (bt (k ++ [b]) 3)) := by rw [dc wa 3 (by omega)]; rfl
  have ca4 : w2.cell? ⟨a, z + 4, none⟩ = some (.int .i64 ((n : Int) + 1)) := by rw [dc wa 4 (by omega)]; simp [cellsK, HK.out]
  have fa0 := Part.free wa z
  have fa1 := Part.free wa (z + 1)
  have fa2 := Part.free wa (z + 2)
  have fa3 := Part.free wa (z + 3)
  have fa4 := Part.free wa (z + 4)
  have wl : w2.heap[L]? = some (.cells #[.int .i32 0, .int .i32 0] 101 (0, 0)) := (HB2.out.block L hLV.out).trans VL.out
  have hLa : Hid (a ≠ L) := Lib.hid (by have := hL0.out; omega)
  have WL := Lib.hid wl
  have WA := Lib.hid wa
  clear wl wa
  have kb := build_dec
  have k1 := build_one
  go_upto_region 12 with (fail)
  obtain ⟨w3, h3⟩ : ∃ w3, w3 = ((((w2.setCell ⟨a, z, none⟩ (.int .u8 0)).setCell ⟨a, z + 1, none⟩ (.int .u8 0)).setCell ⟨a, z + 2, none⟩ (.int .u8 0)).setCell ⟨a, z + 3, none⟩ (.int .u8 0)).setCell ⟨a, z + 4, none⟩ (.int .i64 0) := ⟨_, rfl⟩
  have W3B : Hid (Part w3 a z (cellsK [])) := Lib.hid (by
    rw [h3]
    have q0 := set0 WA.out (.int .u8 0) (by simp [cellsK])
    have q1 := Part.set q0 1 (.int .u8 0) (by simp [cellsK])
    have q2 := Part.set q1 2 (.int .u8 0) (by simp [cellsK])
    have q3 := Part.set q2 3 (.int .u8 0) (by simp [cellsK])
    have q4 := Part.set q3 4 (.int .i64 0) (by simp [cellsK])
    exact q4)
  have S3 : Hid (Stirs a z 5 w2 w3) := Lib.hid (by rw [h3]; exact (((((Stirs.refl a z 5 w2).set z _ (by omega)).set (z + 1) _ (by omega)).set (z + 2) _ (by omega)).set (z + 3) _ (by omega)).set (z + 4) _ (by omega))
  have S : Hid (Stirs a z 5 w w3) := Lib.hid (((VS.out.drewN 1).andthen HB2.out VS.out.size hl).trans S3.out)
  have wl : w3.heap[L]? = some (.cells #[.int .i32 0, .int .i32 0] 101 (0, 0)) := (S3.out.block L (Array.getElem?_eq_some_iff.1 WL.out).1 hLa.out.symm).trans WL.out
  have cl0 : w3.cell? ⟨L, 0, none⟩ = some (.int .i32 0) := by rw [cell_of wl]; rfl
  have cl1 : w3.cell? ⟨L, 1, none⟩ = some (.int .i32 0) := by rw [cell_of wl]; rfl
  have fl0 : w3.frozen? ⟨L, 0, none⟩ = false := free_of wl 0
  have fl1 : w3.frozen? ⟨L, 1, none⟩ = false := free_of wl 1
  have WL3 := Lib.hid wl
  rw [← h3]
  clear h3 wl ca0 ca1 ca2 ca3 ca4 fa0 fa1 fa2 fa3 fa4
  go_wp2
  refine bodyPost_ret (v := .tuple #[.agg #[.int .i32 r, .int .i32 0], .int .i64 1]) (by simp [results, Tryd.results58, go_sem, cl0, cl1]) rfl ⟨rfl, ⟨?_, rfl, HN.out⟩, ?_⟩
  · exact Part.of_block W3B.out (by rw [Below.heap_setCell _ _ _ _ hLa.out, Below.heap_setCell _ _ _ _ hLa.out])
  · refine S.out.andthen (B := w.heap.size) ?_ (Nat.le_refl _) hl
    exact ((Below.refl _ _).setCell (by simp [hL0.out]) _).setCell (by simp [hL0.out]) _

theorem dec_any {a z n r m : Nat} {l : List UInt8} (h : l.length = n + 1) (hD : DecIs a z l r m) (w : World) (hT : Tabs w) (hw : Part w a z (cellsK l)) :
    Calls Tryd.prog 72 #[.slice (some ⟨a, z, none⟩) (n + 1) 4] w fun e w' => e = .returned (.tuple #[.int .i32 r, .int .i64 m]) ∧ Below w.heap.size w w' := by
  have := hD w hT hw
  rw [h] at this
  exact this

/-- What Byte answers, in letters. -/
def Post (w : World) (a z x y p : Nat) (o : List UInt8) (e : Ending) (w' : World) : Prop := e = .returned (.tuple #[.agg #[.int .i32 x, .int .i32 y], .int .i64 (p : Nat)]) ∧ IsDec w' a z o ∧ Stirs a z 5 w w'
def ByteIs (a z : Nat) (k : List UInt8) (b : UInt8) (x y p : Nat) (o : List UInt8) : Prop := ∀ w : World, Tabs w → IsDec w a z k → Calls Tryd.prog 58 #[.pointer (some ⟨a, z, none⟩), .int .u8 b.toNat] w (Post w a z x y p o)

set_option maxHeartbeats 400000 in
theorem byte_mark (a z : Nat) (k : List UInt8) (b : UInt8) (w : World) (hT : Tabs w) (h : IsDec w a z k) (hF : fullB (k ++ [b]) = true) (r m : Nat) (hD : DecIs a z (k ++ [b]) r m) (hm : m ≠ (k ++ [b]).length) (x y p : Nat) (o : List UInt8) (hp : p ≤ 1) (hR : ByteIs a z [] b x y p o) :
    Calls Tryd.prog 58 #[.pointer (some ⟨a, z, none⟩), .int .u8 b.toNat] w (Post w a z 65533 x (1 + p) o) := by
  have hn := full_length h.ok
  have hb := h.blk
  have hl : a < w.heap.size := (Part.lt hb)
  have hne := h.ne
  obtain ⟨n, hk⟩ : ∃ n, n = k.length := ⟨_, rfl⟩
  have c4 : w.cell? ⟨a, z + 4, none⟩ = some (.int .i64 n) := by rw [dc hb 4 (by omega), hk]; rfl
  have f4 : w.frozen? ⟨a, z + 4, none⟩ = false := Part.free hb (z + 4)
  obtain ⟨v, cn⟩ : ∃ v, w.cell? ⟨a, z + n, none⟩ = some v := ⟨_, by rw [dc hb n (by omega)]; exact Array.getElem?_eq_getElem (by simp [cellsK]; omega)⟩
  have fn : w.frozen? ⟨a, z + n, none⟩ = false := Part.free hb (z + n)
  have hn3 : n ≤ 3 := by omega
  have HW : Hid (Part ((w.setCell ⟨a, z + n, none⟩ (.int .u8 b.toNat)).setCell ⟨a, z + 4, none⟩ (.int .i64 ((n : Int) + 1))) a z (cellsK (k ++ [b]))) := Lib.hid (by
    have h1 := Part.set hb n (.int .u8 b.toNat) (show n < 5 by omega)
    have h2 := Part.set h1 4 (.int .i64 ((n : Int) + 1)) (by simp [cellsK])
    rw [← cells_put hn, ← hk]; exact h2)
  have HFull := Lib.hid (full_is a z (k ++ [b]) (by simp) (by simp; omega))
  have HK := Lib.hid (show (k ++ [b]).length = n + 1 by simp [hk])
  have HF := Lib.hid hF
  have HT := Lib.hid hT
  have HN := Lib.hid hne
  have HD := Lib.hid hD
  have HR := Lib.hid hR
  have hmn : ((m : Int) == (n : Int) + 1) = false := by
    have h2 : m ≠ n + 1 := by simpa [hk] using hm
    simp; omega
  clear h hk hn hF hT hne hD hR hm
  go_enter Tryd.func58, Tryd.ntmps58
  go_wp2
  go_region
  go_wp2
  obtain ⟨L, hL⟩ : ∃ L, L = w.heap.size := ⟨_, rfl⟩
  obtain ⟨V, hV⟩ : ∃ V, V = (((w.setCell ⟨a, z + n, none⟩ (.int .u8 b.toNat)).setCell ⟨a, z + 4, none⟩ (.int .i64 ((n : Int) + 1))).alloc (.cells #[.int .i32 0, .int .i32 0] 101)).drew := ⟨_, rfl⟩
  have VB : Hid (Part V a z (cellsK (k ++ [b]))) := Lib.hid (by
    exact Part.of_block HW.out (by rw [hV, heap_drew, Below.heap_alloc _ _ _ (by simpa using hl)]))
  have VL : Hid (V.heap[L]? = some (.cells #[.int .i32 0, .int .i32 0] 101 (0, 0))) := Lib.hid (by
    rw [hV, hL, heap_drew]
    have := Deep.blk_alloc_new ((w.setCell ⟨a, z + n, none⟩ (.int .u8 b.toNat)).setCell ⟨a, z + 4, none⟩ (.int .i64 ((n : Int) + 1))) (.cells #[.int .i32 0, .int .i32 0] 101)
    simpa using this)
  have VS : Hid (Stirs a z 5 w V) := Lib.hid (by rw [hV]; exact ((((Stirs.refl a z 5 w).set (z + n) _ (by omega)).set (z + 4) _ (by omega)).alloc _ hl).drew)
  have VT : Hid (Tabs V) := Lib.hid (HT.out.stirs VS.out HN.out)
  have d4 : V.cell? ⟨a, z + 4, none⟩ = some (.int .i64 ((n : Int) + 1)) := by rw [dc VB.out 4 (by omega)]; simp [cellsK, HK.out]
  have hL0 := Lib.hid hL
  have hsl : ∀ W : World, (Instr.sliceAt 55 (.pointer (some ⟨a, z, none⟩)) none (some (.int .i64 ((n : Int) + 1))) none).run Tryd.prog W = .ok (.slice (some ⟨a, z, none⟩) (n + 1) 4) W := slice_four a z n hn3
  rw [← hV, ← hL]
  clear hV hL c4 f4 cn fn HW hb
  go_region
  go_wp2_with fail
  refine (show Calls _ _ _ _ _ from HK.out ▸ HFull.out _ (VT.out.drewN 1) VB.out).mono ?_
  rintro e w' ⟨rfl, hb⟩
  have HB := Lib.hid hb
  clear hb
  have e1 := HF.out
  have hLw : L < V.heap.size := (Array.getElem?_eq_some_iff.1 VL.out).1
  have ha : a < V.heap.size := (Part.lt VB.out)
  have hLV := Lib.hid hLw
  have haV := Lib.hid ha
  have VT2 : Hid (Tabs w') := Lib.hid ((VT.out.drewN 1).below HB.out (Nat.le_refl _))
  have hWB : Hid (Part w' a z (cellsK (k ++ [b]))) := Lib.hid (Part.of_block VB.out (HB.out.block a ha))
  clear hLw ha
  go_wp2_with fail
  clear e1
  refine (show Calls _ _ _ _ _ from dec_any HK.out HD.out _ VT2.out hWB.out).mono ?_
  rintro e w2 ⟨rfl, hb⟩
  have HB2 := Lib.hid (HB.out.trans (hb.mono HB.out.size))
  clear hb
  have wa : Part w2 a z (cellsK (k ++ [b])) := Part.of_block VB.out (HB2.out.block a haV.out)
  have ca0 : w2.cell? ⟨a, z, none⟩ = some (.int .u8 (bt (k ++ [b]) 0)) := by rw [dc0 wa]; rfl
  have ca1 : w2.cell? ⟨a, z + 1, none⟩ = some (.int .u8 (bt (k ++ [b]) 1)) := by rw [dc wa 1 (by omega)]; rfl
  have ca2 : w2.cell? ⟨a, z + 2, none⟩ = some (.int .u8 (bt (k ++ [b]) 2)) := by rw [dc wa 2 (by omega)]; rfl
  have ca3 : w2.cell? ⟨a, z + 3, none⟩ = some (.int .u8 (bt (k ++ [b]) 3)) := by rw [dc wa 3 (by omega)]; rfl
  have ca4 : w2.cell? ⟨a, z + 4, none⟩ = some (.int .i64 ((n : Int) + 1)) := by rw [dc wa 4 (by omega)]; simp [cellsK, HK.out]
  have fa0 := Part.free wa z
  have fa1 := Part.free wa (z + 1)
  have fa2 := Part.free wa (z + 2)
  have fa3 := Part.free wa (z + 3)
  have fa4 := Part.free wa (z + 4)
  have wl : w2.heap[L]? = some (.cells #[.int .i32 0, .int .i32 0] 101 (0, 0)) := (HB2.out.block L hLV.out).trans VL.out
  have hLa : Hid (a ≠ L) := Lib.hid (by have := hL0.out; omega)
  have WL := Lib.hid wl
  have WA := Lib.hid wa
  clear wl wa
  have kb := build_dec
  have k2 := build_two
  go_upto_region 13 with (fail)
  obtain ⟨w3, h3⟩ : ∃ w3, w3 = ((((w2.setCell ⟨a, z, none⟩ (.int .u8 0)).setCell ⟨a, z + 1, none⟩ (.int .u8 0)).setCell ⟨a, z + 2, none⟩ (.int .u8 0)).setCell ⟨a, z + 3, none⟩ (.int .u8 0)).setCell ⟨a, z + 4, none⟩ (.int .i64 0) := ⟨_, rfl⟩
  have W3B : Hid (Part w3 a z (cellsK [])) := Lib.hid (by
    rw [h3]
    have q0 := set0 WA.out (.int .u8 0) (by simp [cellsK])
    have q1 := Part.set q0 1 (.int .u8 0) (by simp [cellsK])
    have q2 := Part.set q1 2 (.int .u8 0) (by simp [cellsK])
    have q3 := Part.set q2 3 (.int .u8 0) (by simp [cellsK])
    have q4 := Part.set q3 4 (.int .i64 0) (by simp [cellsK])
    exact q4)
  have S3 : Hid (Stirs a z 5 w2 w3) := Lib.hid (by rw [h3]; exact (((((Stirs.refl a z 5 w2).set z _ (by omega)).set (z + 1) _ (by omega)).set (z + 2) _ (by omega)).set (z + 3) _ (by omega)).set (z + 4) _ (by omega))
  have S : Hid (Stirs a z 5 w w3) := Lib.hid (((VS.out.drewN 1).andthen HB2.out VS.out.size hl).trans S3.out)
  have WL3 : Hid (w3.heap[L]? = some (.cells #[.int .i32 0, .int .i32 0] 101 (0, 0))) := Lib.hid ((S3.out.block L (Array.getElem?_eq_some_iff.1 WL.out).1 hLa.out.symm).trans WL.out)
  have T3 : Hid (Tabs w3) := Lib.hid (HT.out.stirs S.out HN.out)
  rw [← h3]
  clear h3 ca0 ca1 ca2 ca3 ca4 fa0 fa1 fa2 fa3 fa4 hmn
  go_wp2_with fail
  refine (show Calls _ _ _ _ _ from HR.out w3 T3.out ⟨W3B.out, rfl, HN.out⟩).mono ?_
  rintro e w4 ⟨rfl, hd, hs⟩
  have HD4 := Lib.hid hd
  have HS4 := Lib.hid hs
  have wl : w4.heap[L]? = some (.cells #[.int .i32 0, .int .i32 0] 101 (0, 0)) := (hs.block L (Array.getElem?_eq_some_iff.1 WL3.out).1 hLa.out.symm).trans WL3.out
  have cl0 : w4.cell? ⟨L, 0, none⟩ = some (.int .i32 0) := by rw [cell_of wl]; rfl
  have cl1 : w4.cell? ⟨L, 1, none⟩ = some (.int .i32 0) := by rw [cell_of wl]; rfl
  have fl0 : w4.frozen? ⟨L, 0, none⟩ = false := free_of wl 0
  have fl1 : w4.frozen? ⟨L, 1, none⟩ = false := free_of wl 1
  have hLs : L < w4.heap.size := (Array.getElem?_eq_some_iff.1 wl).1
  have has : Hid (a < w4.heap.size) := Lib.hid (Part.lt hd.blk)
  have S4 : Hid (w.heap.size ≤ w4.heap.size) := Lib.hid (Nat.le_trans S.out.size hs.size)
  clear hd hs wl
  go_wp2
  refine bodyPost_ret (v := .tuple #[.agg #[.int .i32 65533, .int .i32 x], .int .i64 (1 + p)]) (by simp [results, Tryd.results58, go_sem, cl0, cl1, hLs]) rfl ⟨by simp, ⟨?_, HD4.out.ok, HN.out⟩, ?_⟩
  · exact Part.of_block HD4.out.blk (by rw [Below.heap_alloc _ _ _ (by simpa using has.out), Below.heap_setCell _ _ _ _ hLa.out, Below.heap_setCell _ _ _ _ hLa.out])
  · refine (S.out.trans HS4.out).andthen (B := w.heap.size) ?_ (Nat.le_refl _) hl
    exact (((Below.refl _ _).setCell (by simp [hL0.out]) _).setCell (by simp [hL0.out]) _).alloc (by simpa using S4.out) _

end Go.Proofs.YtkenaccnmmmooaaDoor.D5
