/- Layer 8: EventsSame's walk, way by way (written by gen_epsam.py). -/
import Derived.Test.YtfekjlajagoooaaDoorEpU
import Derived.Test.YtfekjlajagoooaaDoorOpenEv
import Derived.LoopTactic
set_option linter.unusedVariables false
namespace Go.Proofs.YtfekjlajagoooaaDoor
open Go.RowKit Ev

/-- The cells of an event that came in. -/
abbrev inO (k r f : Int) (m : ByteArray) (A : Option Addr) (n c : Nat) (x : ByteArray) : Obj := .cells #[.int .i64 k, .int .i32 r, .int .u8 f, .string m, .slice A n c, .string x] 31 (0, 0)
def InAt (w1 : World) (rb : Nat) (k r f : Int) (m : ByteArray) (A : Option Addr) (n c : Nat) (x : ByteArray) : Prop := w1.cell? ⟨rb, 0, none⟩ = some (.int .i64 k) ∧ w1.cell? ⟨rb, 1, none⟩ = some (.int .i32 r) ∧ w1.cell? ⟨rb, 2, none⟩ = some (.int .u8 f) ∧ w1.cell? ⟨rb, 3, none⟩ = some (.string m) ∧ w1.cell? ⟨rb, 4, none⟩ = some (.slice A n c) ∧ w1.cell? ⟨rb, 5, none⟩ = some (.string x)
theorem in_open {w1 : World} {rb : Nat} {k r f : Int} {m x : ByteArray} {A : Option Addr} {n c : Nat} (h : w1.heap[rb]? = some (inO k r f m A n c x)) : InAt w1 rb k r f m A n c x :=
  ⟨by rw [cell_at h]; rfl, by rw [cell_at h]; rfl, by rw [cell_at h]; rfl, by rw [cell_at h]; rfl, by rw [cell_at h]; rfl, by rw [cell_at h]; rfl⟩

/-- What the walks have of the two events that came in, boxed, in a world w0. -/
structure TwoE (w w0 : World) (k1 r1 f1 : Int) (m1 x1 : ByteArray) (A1 : Option Addr) (n1 c1 : Nat) (L : Nat → Nat) (T : Nat → Nat → Int) (k2 r2 f2 : Int) (m2 x2 : ByteArray) (A2 : Option Addr) (n2 c2 : Nat) (M : Nat → Nat) (U : Nat → Nat → Int) : Prop where
  old : Below w.heap.size w w0
  ba : w0.heap[w.heap.size]? = some (inO k1 r1 f1 m1 A1 n1 c1 x1)
  bb : w0.heap[w.heap.size + 1]? = some (inO k2 r2 f2 m2 A2 n2 c2 x2)
  g1 : GridW w0 A1 n1 L T
  g2 : GridW w0 A2 n2 M U
  n1 : n1 ≤ 9223372036854775807
  n2 : n2 ≤ 9223372036854775807
  tabs : D5.Tabs w0
namespace TwoE
variable {w w0 w1 : World} {k1 r1 f1 : Int} {m1 x1 : ByteArray} {A1 : Option Addr} {n1 c1 : Nat} {L : Nat → Nat} {T : Nat → Nat → Int} {k2 r2 f2 : Int} {m2 x2 : ByteArray} {A2 : Option Addr} {n2 c2 : Nat} {M : Nat → Nat} {U : Nat → Nat → Int}
theorem start (g1 : GridW w A1 n1 L T) (g2 : GridW w A2 n2 M U) (h1 : n1 ≤ 9223372036854775807) (h2 : n2 ≤ 9223372036854775807) (hT : D5.Tabs w) : TwoE w ((w.alloc (inO k1 r1 f1 m1 A1 n1 c1 x1)).alloc (inO k2 r2 f2 m2 A2 n2 c2 x2)) k1 r1 f1 m1 x1 A1 n1 c1 L T k2 r2 f2 m2 x2 A2 n2 c2 M U := by
  have hb0 := two_below w (inO k1 r1 f1 m1 A1 n1 c1 x1) (inO k2 r2 f2 m2 A2 n2 c2 x2)
  refine ⟨hb0, (heap_alloc_old _ _ (by simp)).trans (Deep.blk_alloc_new w _), ?_, g1.below hb0, g2.below hb0, h1, h2, hT.below hb0 (Nat.le_refl _)⟩
  have := Deep.blk_alloc_new (w.alloc (inO k1 r1 f1 m1 A1 n1 c1 x1)) (inO k2 r2 f2 m2 A2 n2 c2 x2)
  rw [show (w.alloc (inO k1 r1 f1 m1 A1 n1 c1 x1)).heap.size = w.heap.size + 1 by simp] at this
  exact this
theorem below (h : TwoE w w0 k1 r1 f1 m1 x1 A1 n1 c1 L T k2 r2 f2 m2 x2 A2 n2 c2 M U) (hb : Below w0.heap.size w0 w1) : TwoE w w1 k1 r1 f1 m1 x1 A1 n1 c1 L T k2 r2 f2 m2 x2 A2 n2 c2 M U :=
  ⟨h.old.trans (hb.mono h.old.size), (hb.block _ (Array.getElem?_eq_some_iff.1 h.ba).1).trans h.ba, (hb.block _ (Array.getElem?_eq_some_iff.1 h.bb).1).trans h.bb, h.g1.below hb, h.g2.below hb, h.n1, h.n2, h.tabs.below hb (Nat.le_refl _)⟩
theorem awake (h : TwoE w w0 k1 r1 f1 m1 x1 A1 n1 c1 L T k2 r2 f2 m2 x2 A2 n2 c2 M U) : Calls Tryd.prog 15 #[] w0 fun e w' => e = .returned (.bool true) ∧ TwoE w w' k1 r1 f1 m1 x1 A1 n1 c1 L T k2 r2 f2 m2 x2 A2 n2 c2 M U :=
  (awake_any w0 h.tabs (tabs_lt h.tabs)).mono fun _ _ hx => ⟨hx.1, h.below hx.2⟩
theorem ab (h : TwoE w w0 k1 r1 f1 m1 x1 A1 n1 c1 L T k2 r2 f2 m2 x2 A2 n2 c2 M U) (b : Bool) (hb : sameV k1 k2 r1 r2 f1 f2 m1 m2 x1 x2 (gridsB n1 n2 L M T U) = b) : Calls Tryd.prog 16 #[.agg #[.int .i64 k1, .int .i32 r1, .int .u8 f1, .string m1, .slice A1 n1 c1, .string x1], .agg #[.int .i64 k2, .int .i32 r2, .int .u8 f2, .string m2, .slice A2 n2 c2, .string x2]] w0 fun e w' => e = .returned (.bool b) ∧ TwoE w w' k1 r1 f1 m1 x1 A1 n1 c1 L T k2 r2 f2 m2 x2 A2 n2 c2 M U :=
  (same_any _ _ _ _ _ _ _ _ _ _ c1 c2 h.n1 h.n2 h.g1 h.g2).mono fun _ _ hx => ⟨by rw [hx.1, hb], h.below hx.2⟩
theorem ba_ (h : TwoE w w0 k1 r1 f1 m1 x1 A1 n1 c1 L T k2 r2 f2 m2 x2 A2 n2 c2 M U) (b : Bool) (hb : sameV k2 k1 r2 r1 f2 f1 m2 m1 x2 x1 (gridsB n2 n1 M L U T) = b) : Calls Tryd.prog 16 #[.agg #[.int .i64 k2, .int .i32 r2, .int .u8 f2, .string m2, .slice A2 n2 c2, .string x2], .agg #[.int .i64 k1, .int .i32 r1, .int .u8 f1, .string m1, .slice A1 n1 c1, .string x1]] w0 fun e w' => e = .returned (.bool b) ∧ TwoE w w' k1 r1 f1 m1 x1 A1 n1 c1 L T k2 r2 f2 m2 x2 A2 n2 c2 M U :=
  (same_any _ _ _ _ _ _ _ _ _ _ c2 c1 h.n2 h.n1 h.g2 h.g1).mono fun _ _ hx => ⟨by rw [hx.1, hb], h.below hx.2⟩
theorem aa (h : TwoE w w0 k1 r1 f1 m1 x1 A1 n1 c1 L T k2 r2 f2 m2 x2 A2 n2 c2 M U) : Calls Tryd.prog 16 #[.agg #[.int .i64 k1, .int .i32 r1, .int .u8 f1, .string m1, .slice A1 n1 c1, .string x1], .agg #[.int .i64 k1, .int .i32 r1, .int .u8 f1, .string m1, .slice A1 n1 c1, .string x1]] w0 fun e w' => e = .returned (.bool true) ∧ TwoE w w' k1 r1 f1 m1 x1 A1 n1 c1 L T k2 r2 f2 m2 x2 A2 n2 c2 M U :=
  (same_any _ _ _ _ _ _ _ _ _ _ c1 c1 h.n1 h.n1 h.g1 h.g1).mono fun _ _ hx => ⟨by rw [hx.1, sameV_self], h.below hx.2⟩
end TwoE
theorem rowB_sym (n : Nat) (f g : Nat → Int) : ∀ d k, n - k = d → rowB n f g k = rowB n g f k
  | 0, k, h => by rw [rowB_end (by omega), rowB_end (by omega)]
  | d + 1, k, h => by
    by_cases e : f k = g k
    · rw [rowB_go (by omega) e, rowB_go (by omega) e.symm, rowB_sym n f g d (k + 1) (by omega)]
    · rw [rowB_no (by omega) e, rowB_no (by omega) (fun x => e x.symm)]
theorem rowsB_sym (n m : Nat) (f g : Nat → Int) : rowsB n m f g = rowsB m n g f := by
  unfold rowsB
  by_cases e : n = m
  · subst e; rw [if_pos rfl, if_pos rfl, rowB_sym n f g _ 0 rfl]
  · rw [if_neg e, if_neg (fun x => e x.symm)]
theorem gridB_sym (n : Nat) (L M : Nat → Nat) (T U : Nat → Nat → Int) : ∀ d k, n - k = d → gridB n L M T U k = gridB n M L U T k
  | 0, k, h => by rw [gridB_end (by omega), gridB_end (by omega)]
  | d + 1, k, h => by
    cases e : rowsB (L k) (M k) (T k) (U k) with
    | true => rw [gridB_go (k := k) (by omega) e, gridB_go (L := M) (M := L) (T := U) (U := T) (k := k) (by omega) (by rw [rowsB_sym]; exact e), gridB_sym n L M T U d (k + 1) (by omega)]
    | false => rw [gridB_no (k := k) (by omega) e, gridB_no (L := M) (M := L) (T := U) (U := T) (k := k) (by omega) (by rw [rowsB_sym]; exact e)]
theorem gridsB_sym (n m : Nat) (L M : Nat → Nat) (T U : Nat → Nat → Int) : gridsB n m L M T U = gridsB m n M L U T := by
  unfold gridsB
  by_cases e : n = m
  · subst e; rw [if_pos rfl, if_pos rfl, gridB_sym n L M T U _ 0 rfl]
  · rw [if_neg e, if_neg (fun x => e x.symm)]
theorem sameV_sym (k1 k2 r1 r2 f1 f2 : Int) (m1 m2 x1 x2 : ByteArray) (g : Bool) : sameV k1 k2 r1 r2 f1 f2 m1 m2 x1 x2 g = sameV k2 k1 r2 r1 f2 f1 m2 m1 x2 x1 g := by
  unfold sameV
  rw [Bool.beq_comm (a := k1), Bool.beq_comm (a := r1), Bool.beq_comm (a := f1), Bool.beq_comm (a := m1.toList), Bool.beq_comm (a := x1.toList)]


set_option maxRecDepth 100000 in
set_option maxHeartbeats 4000000 in
theorem esame_n1 (k1 r1 f1 : Int) (m1 x1 : ByteArray) (A1 : Option Addr) (n1 c1 : Nat) (L : Nat → Nat) (T : Nat → Nat → Int) (k2 r2 f2 : Int) (m2 x2 : ByteArray) (A2 : Option Addr) (n2 c2 : Nat) (M : Nat → Nat) (U : Nat → Nat → Int) (w : World) (g1 : GridW w A1 n1 L T) (g2 : GridW w A2 n2 M U) (hn1 : n1 ≤ 9223372036854775807) (hn2 : n2 ≤ 9223372036854775807) (hT : D5.Tabs w) (h : 100 < n1) : Calls Tryd.prog 6 #[.agg #[.int .i64 k1, .int .i32 r1, .int .u8 f1, .string m1, .slice A1 n1 c1, .string x1], .agg #[.int .i64 k2, .int .i32 r2, .int .u8 f2, .string m2, .slice A2 n2 c2, .string x2]] w fun e w' => e = .returned (.bool true) ∧ Below w.heap.size w w' := by
  have e1 : decide ((n1 : Int) > 100) = true := by simp; omega
  have e1' : decide ((100 : Int) < n1) = true := by simp; omega
  have HA := Lib.hid (TwoE.start (k1 := k1) (r1 := r1) (f1 := f1) (m1 := m1) (x1 := x1) (c1 := c1) (k2 := k2) (r2 := r2) (f2 := f2) (m2 := m2) (x2 := x2) (c2 := c2) g1 g2 hn1 hn2 hT).awake
  clear g1 g2 hT
  clear h
  go_enter Tryd.func6, Tryd.ntmps6
  go_wp2_with fail
  refine (show Calls _ _ _ _ _ from HA.out).mono ?_
  rintro e w1 ⟨rfl, h1⟩
  have H1 := Lib.hid h1
  obtain ⟨a0, a1, a2, a3, a4, a5⟩ := in_open h1.ba
  obtain ⟨b0, b1, b2, b3, b4, b5⟩ := in_open h1.bb
  clear h1 HA
  go_wp2
  go_ret
  exact ⟨rfl, H1.out.old⟩

set_option maxRecDepth 100000 in
set_option maxHeartbeats 4000000 in
theorem esame_n2 (k1 r1 f1 : Int) (m1 x1 : ByteArray) (A1 : Option Addr) (n1 c1 : Nat) (L : Nat → Nat) (T : Nat → Nat → Int) (k2 r2 f2 : Int) (m2 x2 : ByteArray) (A2 : Option Addr) (n2 c2 : Nat) (M : Nat → Nat) (U : Nat → Nat → Int) (w : World) (g1 : GridW w A1 n1 L T) (g2 : GridW w A2 n2 M U) (hn1 : n1 ≤ 9223372036854775807) (hn2 : n2 ≤ 9223372036854775807) (hT : D5.Tabs w) (h0 : n1 ≤ 100) (h : 100 < n2) : Calls Tryd.prog 6 #[.agg #[.int .i64 k1, .int .i32 r1, .int .u8 f1, .string m1, .slice A1 n1 c1, .string x1], .agg #[.int .i64 k2, .int .i32 r2, .int .u8 f2, .string m2, .slice A2 n2 c2, .string x2]] w fun e w' => e = .returned (.bool true) ∧ Below w.heap.size w w' := by
  have e1 : decide ((n1 : Int) > 100) = false := by simp; omega
  have e1' : decide ((100 : Int) < n1) = false := by simp; omega
  have e2 : decide ((n2 : Int) > 100) = true := by simp; omega
  have e2' : decide ((100 : Int) < n2) = true := by simp; omega
  have HA := Lib.hid (TwoE.start (k1 := k1) (r1 := r1) (f1 := f1) (m1 := m1) (x1 := x1) (c1 := c1) (k2 := k2) (r2 := r2) (f2 := f2) (m2 := m2) (x2 := x2) (c2 := c2) g1 g2 hn1 hn2 hT).awake
  clear g1 g2 hT
  clear h
  clear h0
  go_enter Tryd.func6, Tryd.ntmps6
  go_wp2_with fail
  refine (show Calls _ _ _ _ _ from HA.out).mono ?_
  rintro e w1 ⟨rfl, h1⟩
  have H1 := Lib.hid h1
  obtain ⟨a0, a1, a2, a3, a4, a5⟩ := in_open h1.ba
  obtain ⟨b0, b1, b2, b3, b4, b5⟩ := in_open h1.bb
  clear h1 HA
  go_wp2
  go_ret
  exact ⟨rfl, H1.out.old⟩

set_option maxRecDepth 100000 in
set_option maxHeartbeats 4000000 in
theorem esame_sum (k1 r1 f1 : Int) (m1 x1 : ByteArray) (A1 : Option Addr) (n1 c1 : Nat) (L : Nat → Nat) (T : Nat → Nat → Int) (k2 r2 f2 : Int) (m2 x2 : ByteArray) (A2 : Option Addr) (n2 c2 : Nat) (M : Nat → Nat) (U : Nat → Nat → Int) (w : World) (g1 : GridW w A1 n1 L T) (g2 : GridW w A2 n2 M U) (hn1 : n1 ≤ 9223372036854775807) (hn2 : n2 ≤ 9223372036854775807) (hT : D5.Tabs w) (h0 : n1 ≤ 100) (h1 : n2 ≤ 100) (ez : decide (3000 < wrap64 (wrap64 (wrap64 ((m1.size : Int) + (m2.size : Int)) + (x1.size : Int)) + (x2.size : Int))) = true) : Calls Tryd.prog 6 #[.agg #[.int .i64 k1, .int .i32 r1, .int .u8 f1, .string m1, .slice A1 n1 c1, .string x1], .agg #[.int .i64 k2, .int .i32 r2, .int .u8 f2, .string m2, .slice A2 n2 c2, .string x2]] w fun e w' => e = .returned (.bool true) ∧ Below w.heap.size w w' := by
  have e1 : decide ((n1 : Int) > 100) = false := by simp; omega
  have e1' : decide ((100 : Int) < n1) = false := by simp; omega
  have e2 : decide ((n2 : Int) > 100) = false := by simp; omega
  have e2' : decide ((100 : Int) < n2) = false := by simp; omega
  have HA := Lib.hid (TwoE.start (k1 := k1) (r1 := r1) (f1 := f1) (m1 := m1) (x1 := x1) (c1 := c1) (k2 := k2) (r2 := r2) (f2 := f2) (m2 := m2) (x2 := x2) (c2 := c2) g1 g2 hn1 hn2 hT).awake
  clear g1 g2 hT
  clear h0
  clear h1
  go_enter Tryd.func6, Tryd.ntmps6
  go_wp2_with fail
  refine (show Calls _ _ _ _ _ from HA.out).mono ?_
  rintro e w1 ⟨rfl, h1⟩
  have H1 := Lib.hid h1
  obtain ⟨a0, a1, a2, a3, a4, a5⟩ := in_open h1.ba
  obtain ⟨b0, b1, b2, b3, b4, b5⟩ := in_open h1.bb
  clear h1 HA
  go_wp2
  go_ret
  exact ⟨rfl, H1.out.old⟩

set_option maxRecDepth 100000 in
set_option maxHeartbeats 4000000 in
theorem esame_kind (k1 r1 f1 : Int) (m1 x1 : ByteArray) (A1 : Option Addr) (n1 c1 : Nat) (L : Nat → Nat) (T : Nat → Nat → Int) (k2 r2 f2 : Int) (m2 x2 : ByteArray) (A2 : Option Addr) (n2 c2 : Nat) (M : Nat → Nat) (U : Nat → Nat → Int) (w : World) (g1 : GridW w A1 n1 L T) (g2 : GridW w A2 n2 M U) (hn1 : n1 ≤ 9223372036854775807) (hn2 : n2 ≤ 9223372036854775807) (hT : D5.Tabs w) (h0 : n1 ≤ 100) (h1 : n2 ≤ 100) (ez : decide (3000 < wrap64 (wrap64 (wrap64 ((m1.size : Int) + (m2.size : Int)) + (x1.size : Int)) + (x2.size : Int))) = false) (hne : k1 ≠ k2) : Calls Tryd.prog 6 #[.agg #[.int .i64 k1, .int .i32 r1, .int .u8 f1, .string m1, .slice A1 n1 c1, .string x1], .agg #[.int .i64 k2, .int .i32 r2, .int .u8 f2, .string m2, .slice A2 n2 c2, .string x2]] w fun e w' => e = .returned (.bool true) ∧ Below w.heap.size w w' := by
  have e1 : decide ((n1 : Int) > 100) = false := by simp; omega
  have e1' : decide ((100 : Int) < n1) = false := by simp; omega
  have e2 : decide ((n2 : Int) > 100) = false := by simp; omega
  have e2' : decide ((100 : Int) < n2) = false := by simp; omega
  have d1 : (k1 == k2) = false := by simpa using hne
  have HSV : Hid (sameV k1 k2 r1 r2 f1 f2 m1 m2 x1 x2 (gridsB n1 n2 L M T U) = false) := Lib.hid (by simp [sameV, d1])
  clear hne h0 h1
  have HA := Lib.hid (TwoE.start (k1 := k1) (r1 := r1) (f1 := f1) (m1 := m1) (x1 := x1) (c1 := c1) (k2 := k2) (r2 := r2) (f2 := f2) (m2 := m2) (x2 := x2) (c2 := c2) g1 g2 hn1 hn2 hT).awake
  clear g1 g2 hT
  go_enter Tryd.func6, Tryd.ntmps6
  go_wp2_with fail
  refine (show Calls _ _ _ _ _ from HA.out).mono ?_
  rintro e w1 ⟨rfl, h1⟩
  have H1 := Lib.hid h1
  obtain ⟨a0, a1, a2, a3, a4, a5⟩ := in_open h1.ba
  obtain ⟨b0, b1, b2, b3, b4, b5⟩ := in_open h1.bb
  clear h1 HA
  go_wp2
  go_loopw [5, 6] (fun al i wr => al = .bool false ∧ i = .int .i64 0 ∧ wr = w1) (fun _ _ _ => 0)
  case atStart => exact ⟨rfl, rfl, rfl⟩
  case round =>
    obtain ⟨rfl, rfl, rfl⟩ := hrel
    clear a0 a1 a2 a3 a4 a5 b0 b1 b2 b3 b4 b5
    have HX := H1
    by_cases hz : n1 = 0
    · subst hz
      obtain ⟨a0, a1, a2, a3, a4, a5⟩ := in_open HX.out.ba
      obtain ⟨b0, b1, b2, b3, b4, b5⟩ := in_open HX.out.bb
      have HSab := Lib.hid (HX.out.ab false HSV.out)
      clear H1
      go_wp2_with fail
      refine (show Calls _ _ _ _ _ from HSab.out).mono ?_
      rintro e v1 ⟨rfl, hv1⟩
      have HV1 := Lib.hid hv1
      clear a0 a1 a2 a3 a4 a5 b0 b1 b2 b3 b4 b5 HSab
      obtain ⟨a0, a1, a2, a3, a4, a5⟩ := in_open hv1.ba
      obtain ⟨b0, b1, b2, b3, b4, b5⟩ := in_open hv1.bb
      have HSba := Lib.hid (hv1.ba_ false (by rw [sameV_sym, gridsB_sym]; exact HSV.out))
      clear hv1
      go_wp2_with fail
      refine (show Calls _ _ _ _ _ from HSba.out).mono ?_
      rintro e v2 ⟨rfl, hv2⟩
      have HV2 := Lib.hid hv2
      clear a0 a1 a2 a3 a4 a5 b0 b1 b2 b3 b4 b5 HSba HV1
      obtain ⟨a0, a1, a2, a3, a4, a5⟩ := in_open hv2.ba
      have HSaa := Lib.hid hv2.aa
      clear hv2
      go_wp2_with fail
      refine (show Calls _ _ _ _ _ from HSaa.out).mono ?_
      rintro e v3 ⟨rfl, hv3⟩
      have HV3 := Lib.hid hv3.old
      clear hv3 HSaa a0 a1 a2 a3 a4 a5 HV2
      go_wp2
      go_ret
      exact ⟨rfl, HV3.out⟩
    · have z1 : decide (0 < n1) = true := by simp; omega
      have z2 : decide ((0 : Int) < n1) = true := by simp; omega
      obtain ⟨a0, a1, a2, a3, a4, a5⟩ := in_open HX.out.ba
      obtain ⟨b0, b1, b2, b3, b4, b5⟩ := in_open HX.out.bb
      have HSab := Lib.hid (HX.out.ab false HSV.out)
      clear H1
      go_wp2_with fail
      refine (show Calls _ _ _ _ _ from HSab.out).mono ?_
      rintro e v1 ⟨rfl, hv1⟩
      have HV1 := Lib.hid hv1
      clear a0 a1 a2 a3 a4 a5 b0 b1 b2 b3 b4 b5 HSab
      obtain ⟨a0, a1, a2, a3, a4, a5⟩ := in_open hv1.ba
      obtain ⟨b0, b1, b2, b3, b4, b5⟩ := in_open hv1.bb
      have HSba := Lib.hid (hv1.ba_ false (by rw [sameV_sym, gridsB_sym]; exact HSV.out))
      clear hv1
      go_wp2_with fail
      refine (show Calls _ _ _ _ _ from HSba.out).mono ?_
      rintro e v2 ⟨rfl, hv2⟩
      have HV2 := Lib.hid hv2
      clear a0 a1 a2 a3 a4 a5 b0 b1 b2 b3 b4 b5 HSba HV1
      obtain ⟨a0, a1, a2, a3, a4, a5⟩ := in_open hv2.ba
      have HSaa := Lib.hid hv2.aa
      clear hv2
      go_wp2_with fail
      refine (show Calls _ _ _ _ _ from HSaa.out).mono ?_
      rintro e v3 ⟨rfl, hv3⟩
      have HV3 := Lib.hid hv3.old
      clear hv3 HSaa a0 a1 a2 a3 a4 a5 HV2
      go_wp2
      go_ret
      exact ⟨rfl, HV3.out⟩

set_option maxRecDepth 100000 in
set_option maxHeartbeats 4000000 in
theorem esame_rune (k1 r1 f1 : Int) (m1 x1 : ByteArray) (A1 : Option Addr) (n1 c1 : Nat) (L : Nat → Nat) (T : Nat → Nat → Int) (k2 r2 f2 : Int) (m2 x2 : ByteArray) (A2 : Option Addr) (n2 c2 : Nat) (M : Nat → Nat) (U : Nat → Nat → Int) (w : World) (g1 : GridW w A1 n1 L T) (g2 : GridW w A2 n2 M U) (hn1 : n1 ≤ 9223372036854775807) (hn2 : n2 ≤ 9223372036854775807) (hT : D5.Tabs w) (h0 : n1 ≤ 100) (h1 : n2 ≤ 100) (ez : decide (3000 < wrap64 (wrap64 (wrap64 ((m1.size : Int) + (m2.size : Int)) + (x1.size : Int)) + (x2.size : Int))) = false) (q0 : k1 = k2) (hne : r1 ≠ r2) : Calls Tryd.prog 6 #[.agg #[.int .i64 k1, .int .i32 r1, .int .u8 f1, .string m1, .slice A1 n1 c1, .string x1], .agg #[.int .i64 k2, .int .i32 r2, .int .u8 f2, .string m2, .slice A2 n2 c2, .string x2]] w fun e w' => e = .returned (.bool true) ∧ Below w.heap.size w w' := by
  have e1 : decide ((n1 : Int) > 100) = false := by simp; omega
  have e1' : decide ((100 : Int) < n1) = false := by simp; omega
  have e2 : decide ((n2 : Int) > 100) = false := by simp; omega
  have e2' : decide ((100 : Int) < n2) = false := by simp; omega
  subst q0
  have d1 : (r1 == r2) = false := by simpa using hne
  have HSV : Hid (sameV k1 k1 r1 r2 f1 f2 m1 m2 x1 x2 (gridsB n1 n2 L M T U) = false) := Lib.hid (by simp [sameV, d1])
  clear hne h0 h1
  have HA := Lib.hid (TwoE.start (k1 := k1) (r1 := r1) (f1 := f1) (m1 := m1) (x1 := x1) (c1 := c1) (k2 := k1) (r2 := r2) (f2 := f2) (m2 := m2) (x2 := x2) (c2 := c2) g1 g2 hn1 hn2 hT).awake
  clear g1 g2 hT
  go_enter Tryd.func6, Tryd.ntmps6
  go_wp2_with fail
  refine (show Calls _ _ _ _ _ from HA.out).mono ?_
  rintro e w1 ⟨rfl, h1⟩
  have H1 := Lib.hid h1
  obtain ⟨a0, a1, a2, a3, a4, a5⟩ := in_open h1.ba
  obtain ⟨b0, b1, b2, b3, b4, b5⟩ := in_open h1.bb
  clear h1 HA
  go_wp2
  go_loopw [5, 6] (fun al i wr => al = .bool false ∧ i = .int .i64 0 ∧ wr = w1) (fun _ _ _ => 0)
  case atStart => exact ⟨rfl, rfl, rfl⟩
  case round =>
    obtain ⟨rfl, rfl, rfl⟩ := hrel
    clear a0 a1 a2 a3 a4 a5 b0 b1 b2 b3 b4 b5
    have HX := H1
    by_cases hz : n1 = 0
    · subst hz
      obtain ⟨a0, a1, a2, a3, a4, a5⟩ := in_open HX.out.ba
      obtain ⟨b0, b1, b2, b3, b4, b5⟩ := in_open HX.out.bb
      have HSab := Lib.hid (HX.out.ab false HSV.out)
      clear H1
      go_wp2_with fail
      refine (show Calls _ _ _ _ _ from HSab.out).mono ?_
      rintro e v1 ⟨rfl, hv1⟩
      have HV1 := Lib.hid hv1
      clear a0 a1 a2 a3 a4 a5 b0 b1 b2 b3 b4 b5 HSab
      obtain ⟨a0, a1, a2, a3, a4, a5⟩ := in_open hv1.ba
      obtain ⟨b0, b1, b2, b3, b4, b5⟩ := in_open hv1.bb
      have HSba := Lib.hid (hv1.ba_ false (by rw [sameV_sym, gridsB_sym]; exact HSV.out))
      clear hv1
      go_wp2_with fail
      refine (show Calls _ _ _ _ _ from HSba.out).mono ?_
      rintro e v2 ⟨rfl, hv2⟩
      have HV2 := Lib.hid hv2
      clear a0 a1 a2 a3 a4 a5 b0 b1 b2 b3 b4 b5 HSba HV1
      obtain ⟨a0, a1, a2, a3, a4, a5⟩ := in_open hv2.ba
      have HSaa := Lib.hid hv2.aa
      clear hv2
      go_wp2_with fail
      refine (show Calls _ _ _ _ _ from HSaa.out).mono ?_
      rintro e v3 ⟨rfl, hv3⟩
      have HV3 := Lib.hid hv3.old
      clear hv3 HSaa a0 a1 a2 a3 a4 a5 HV2
      go_wp2
      go_ret
      exact ⟨rfl, HV3.out⟩
    · have z1 : decide (0 < n1) = true := by simp; omega
      have z2 : decide ((0 : Int) < n1) = true := by simp; omega
      obtain ⟨a0, a1, a2, a3, a4, a5⟩ := in_open HX.out.ba
      obtain ⟨b0, b1, b2, b3, b4, b5⟩ := in_open HX.out.bb
      have HSab := Lib.hid (HX.out.ab false HSV.out)
      clear H1
      go_wp2_with fail
      refine (show Calls _ _ _ _ _ from HSab.out).mono ?_
      rintro e v1 ⟨rfl, hv1⟩
      have HV1 := Lib.hid hv1
      clear a0 a1 a2 a3 a4 a5 b0 b1 b2 b3 b4 b5 HSab
      obtain ⟨a0, a1, a2, a3, a4, a5⟩ := in_open hv1.ba
      obtain ⟨b0, b1, b2, b3, b4, b5⟩ := in_open hv1.bb
      have HSba := Lib.hid (hv1.ba_ false (by rw [sameV_sym, gridsB_sym]; exact HSV.out))
      clear hv1
      go_wp2_with fail
      refine (show Calls _ _ _ _ _ from HSba.out).mono ?_
      rintro e v2 ⟨rfl, hv2⟩
      have HV2 := Lib.hid hv2
      clear a0 a1 a2 a3 a4 a5 b0 b1 b2 b3 b4 b5 HSba HV1
      obtain ⟨a0, a1, a2, a3, a4, a5⟩ := in_open hv2.ba
      have HSaa := Lib.hid hv2.aa
      clear hv2
      go_wp2_with fail
      refine (show Calls _ _ _ _ _ from HSaa.out).mono ?_
      rintro e v3 ⟨rfl, hv3⟩
      have HV3 := Lib.hid hv3.old
      clear hv3 HSaa a0 a1 a2 a3 a4 a5 HV2
      go_wp2
      go_ret
      exact ⟨rfl, HV3.out⟩

set_option maxRecDepth 100000 in
set_option maxHeartbeats 4000000 in
theorem esame_final (k1 r1 f1 : Int) (m1 x1 : ByteArray) (A1 : Option Addr) (n1 c1 : Nat) (L : Nat → Nat) (T : Nat → Nat → Int) (k2 r2 f2 : Int) (m2 x2 : ByteArray) (A2 : Option Addr) (n2 c2 : Nat) (M : Nat → Nat) (U : Nat → Nat → Int) (w : World) (g1 : GridW w A1 n1 L T) (g2 : GridW w A2 n2 M U) (hn1 : n1 ≤ 9223372036854775807) (hn2 : n2 ≤ 9223372036854775807) (hT : D5.Tabs w) (h0 : n1 ≤ 100) (h1 : n2 ≤ 100) (ez : decide (3000 < wrap64 (wrap64 (wrap64 ((m1.size : Int) + (m2.size : Int)) + (x1.size : Int)) + (x2.size : Int))) = false) (q0 : k1 = k2) (q1 : r1 = r2) (hne : f1 ≠ f2) : Calls Tryd.prog 6 #[.agg #[.int .i64 k1, .int .i32 r1, .int .u8 f1, .string m1, .slice A1 n1 c1, .string x1], .agg #[.int .i64 k2, .int .i32 r2, .int .u8 f2, .string m2, .slice A2 n2 c2, .string x2]] w fun e w' => e = .returned (.bool true) ∧ Below w.heap.size w w' := by
  have e1 : decide ((n1 : Int) > 100) = false := by simp; omega
  have e1' : decide ((100 : Int) < n1) = false := by simp; omega
  have e2 : decide ((n2 : Int) > 100) = false := by simp; omega
  have e2' : decide ((100 : Int) < n2) = false := by simp; omega
  subst q0
  subst q1
  have d1 : (f1 == f2) = false := by simpa using hne
  have HSV : Hid (sameV k1 k1 r1 r1 f1 f2 m1 m2 x1 x2 (gridsB n1 n2 L M T U) = false) := Lib.hid (by simp [sameV, d1])
  clear hne h0 h1
  have HA := Lib.hid (TwoE.start (k1 := k1) (r1 := r1) (f1 := f1) (m1 := m1) (x1 := x1) (c1 := c1) (k2 := k1) (r2 := r1) (f2 := f2) (m2 := m2) (x2 := x2) (c2 := c2) g1 g2 hn1 hn2 hT).awake
  clear g1 g2 hT
  go_enter Tryd.func6, Tryd.ntmps6
  go_wp2_with fail
  refine (show Calls _ _ _ _ _ from HA.out).mono ?_
  rintro e w1 ⟨rfl, h1⟩
  have H1 := Lib.hid h1
  obtain ⟨a0, a1, a2, a3, a4, a5⟩ := in_open h1.ba
  obtain ⟨b0, b1, b2, b3, b4, b5⟩ := in_open h1.bb
  clear h1 HA
  go_wp2
  go_loopw [5, 6] (fun al i wr => al = .bool false ∧ i = .int .i64 0 ∧ wr = w1) (fun _ _ _ => 0)
  case atStart => exact ⟨rfl, rfl, rfl⟩
  case round =>
    obtain ⟨rfl, rfl, rfl⟩ := hrel
    clear a0 a1 a2 a3 a4 a5 b0 b1 b2 b3 b4 b5
    have HX := H1
    by_cases hz : n1 = 0
    · subst hz
      obtain ⟨a0, a1, a2, a3, a4, a5⟩ := in_open HX.out.ba
      obtain ⟨b0, b1, b2, b3, b4, b5⟩ := in_open HX.out.bb
      have HSab := Lib.hid (HX.out.ab false HSV.out)
      clear H1
      go_wp2_with fail
      refine (show Calls _ _ _ _ _ from HSab.out).mono ?_
      rintro e v1 ⟨rfl, hv1⟩
      have HV1 := Lib.hid hv1
      clear a0 a1 a2 a3 a4 a5 b0 b1 b2 b3 b4 b5 HSab
      obtain ⟨a0, a1, a2, a3, a4, a5⟩ := in_open hv1.ba
      obtain ⟨b0, b1, b2, b3, b4, b5⟩ := in_open hv1.bb
      have HSba := Lib.hid (hv1.ba_ false (by rw [sameV_sym, gridsB_sym]; exact HSV.out))
      clear hv1
      go_wp2_with fail
      refine (show Calls _ _ _ _ _ from HSba.out).mono ?_
      rintro e v2 ⟨rfl, hv2⟩
      have HV2 := Lib.hid hv2
      clear a0 a1 a2 a3 a4 a5 b0 b1 b2 b3 b4 b5 HSba HV1
      obtain ⟨a0, a1, a2, a3, a4, a5⟩ := in_open hv2.ba
      have HSaa := Lib.hid hv2.aa
      clear hv2
      go_wp2_with fail
      refine (show Calls _ _ _ _ _ from HSaa.out).mono ?_
      rintro e v3 ⟨rfl, hv3⟩
      have HV3 := Lib.hid hv3.old
      clear hv3 HSaa a0 a1 a2 a3 a4 a5 HV2
      go_wp2
      go_ret
      exact ⟨rfl, HV3.out⟩
    · have z1 : decide (0 < n1) = true := by simp; omega
      have z2 : decide ((0 : Int) < n1) = true := by simp; omega
      obtain ⟨a0, a1, a2, a3, a4, a5⟩ := in_open HX.out.ba
      obtain ⟨b0, b1, b2, b3, b4, b5⟩ := in_open HX.out.bb
      have HSab := Lib.hid (HX.out.ab false HSV.out)
      clear H1
      go_wp2_with fail
      refine (show Calls _ _ _ _ _ from HSab.out).mono ?_
      rintro e v1 ⟨rfl, hv1⟩
      have HV1 := Lib.hid hv1
      clear a0 a1 a2 a3 a4 a5 b0 b1 b2 b3 b4 b5 HSab
      obtain ⟨a0, a1, a2, a3, a4, a5⟩ := in_open hv1.ba
      obtain ⟨b0, b1, b2, b3, b4, b5⟩ := in_open hv1.bb
      have HSba := Lib.hid (hv1.ba_ false (by rw [sameV_sym, gridsB_sym]; exact HSV.out))
      clear hv1
      go_wp2_with fail
      refine (show Calls _ _ _ _ _ from HSba.out).mono ?_
      rintro e v2 ⟨rfl, hv2⟩
      have HV2 := Lib.hid hv2
      clear a0 a1 a2 a3 a4 a5 b0 b1 b2 b3 b4 b5 HSba HV1
      obtain ⟨a0, a1, a2, a3, a4, a5⟩ := in_open hv2.ba
      have HSaa := Lib.hid hv2.aa
      clear hv2
      go_wp2_with fail
      refine (show Calls _ _ _ _ _ from HSaa.out).mono ?_
      rintro e v3 ⟨rfl, hv3⟩
      have HV3 := Lib.hid hv3.old
      clear hv3 HSaa a0 a1 a2 a3 a4 a5 HV2
      go_wp2
      go_ret
      exact ⟨rfl, HV3.out⟩

set_option maxRecDepth 100000 in
set_option maxHeartbeats 4000000 in
theorem esame_mids (k1 r1 f1 : Int) (m1 x1 : ByteArray) (A1 : Option Addr) (n1 c1 : Nat) (L : Nat → Nat) (T : Nat → Nat → Int) (k2 r2 f2 : Int) (m2 x2 : ByteArray) (A2 : Option Addr) (n2 c2 : Nat) (M : Nat → Nat) (U : Nat → Nat → Int) (w : World) (g1 : GridW w A1 n1 L T) (g2 : GridW w A2 n2 M U) (hn1 : n1 ≤ 9223372036854775807) (hn2 : n2 ≤ 9223372036854775807) (hT : D5.Tabs w) (h0 : n1 ≤ 100) (h1 : n2 ≤ 100) (ez : decide (3000 < wrap64 (wrap64 (wrap64 ((m1.size : Int) + (m2.size : Int)) + (x1.size : Int)) + (x2.size : Int))) = false) (q0 : k1 = k2) (q1 : r1 = r2) (q2 : f1 = f2) (hne : m1 ≠ m2) : Calls Tryd.prog 6 #[.agg #[.int .i64 k1, .int .i32 r1, .int .u8 f1, .string m1, .slice A1 n1 c1, .string x1], .agg #[.int .i64 k2, .int .i32 r2, .int .u8 f2, .string m2, .slice A2 n2 c2, .string x2]] w fun e w' => e = .returned (.bool true) ∧ Below w.heap.size w w' := by
  have e1 : decide ((n1 : Int) > 100) = false := by simp; omega
  have e1' : decide ((100 : Int) < n1) = false := by simp; omega
  have e2 : decide ((n2 : Int) > 100) = false := by simp; omega
  have e2' : decide ((100 : Int) < n2) = false := by simp; omega
  subst q0
  subst q1
  subst q2
  have d1 := str_ne hne
  have HSV : Hid (sameV k1 k1 r1 r1 f1 f1 m1 m2 x1 x2 (gridsB n1 n2 L M T U) = false) := Lib.hid (by simp [sameV, d1])
  clear hne h0 h1
  have HA := Lib.hid (TwoE.start (k1 := k1) (r1 := r1) (f1 := f1) (m1 := m1) (x1 := x1) (c1 := c1) (k2 := k1) (r2 := r1) (f2 := f1) (m2 := m2) (x2 := x2) (c2 := c2) g1 g2 hn1 hn2 hT).awake
  clear g1 g2 hT
  go_enter Tryd.func6, Tryd.ntmps6
  go_wp2_with fail
  refine (show Calls _ _ _ _ _ from HA.out).mono ?_
  rintro e w1 ⟨rfl, h1⟩
  have H1 := Lib.hid h1
  obtain ⟨a0, a1, a2, a3, a4, a5⟩ := in_open h1.ba
  obtain ⟨b0, b1, b2, b3, b4, b5⟩ := in_open h1.bb
  clear h1 HA
  go_wp2
  go_loopw [5, 6] (fun al i wr => al = .bool false ∧ i = .int .i64 0 ∧ wr = w1) (fun _ _ _ => 0)
  case atStart => exact ⟨rfl, rfl, rfl⟩
  case round =>
    obtain ⟨rfl, rfl, rfl⟩ := hrel
    clear a0 a1 a2 a3 a4 a5 b0 b1 b2 b3 b4 b5
    have HX := H1
    by_cases hz : n1 = 0
    · subst hz
      obtain ⟨a0, a1, a2, a3, a4, a5⟩ := in_open HX.out.ba
      obtain ⟨b0, b1, b2, b3, b4, b5⟩ := in_open HX.out.bb
      have HSab := Lib.hid (HX.out.ab false HSV.out)
      clear H1
      go_wp2_with fail
      refine (show Calls _ _ _ _ _ from HSab.out).mono ?_
      rintro e v1 ⟨rfl, hv1⟩
      have HV1 := Lib.hid hv1
      clear a0 a1 a2 a3 a4 a5 b0 b1 b2 b3 b4 b5 HSab
      obtain ⟨a0, a1, a2, a3, a4, a5⟩ := in_open hv1.ba
      obtain ⟨b0, b1, b2, b3, b4, b5⟩ := in_open hv1.bb
      have HSba := Lib.hid (hv1.ba_ false (by rw [sameV_sym, gridsB_sym]; exact HSV.out))
      clear hv1
      go_wp2_with fail
      refine (show Calls _ _ _ _ _ from HSba.out).mono ?_
      rintro e v2 ⟨rfl, hv2⟩
      have HV2 := Lib.hid hv2
      clear a0 a1 a2 a3 a4 a5 b0 b1 b2 b3 b4 b5 HSba HV1
      obtain ⟨a0, a1, a2, a3, a4, a5⟩ := in_open hv2.ba
      have HSaa := Lib.hid hv2.aa
      clear hv2
      go_wp2_with fail
      refine (show Calls _ _ _ _ _ from HSaa.out).mono ?_
      rintro e v3 ⟨rfl, hv3⟩
      have HV3 := Lib.hid hv3.old
      clear hv3 HSaa a0 a1 a2 a3 a4 a5 HV2
      go_wp2
      go_ret
      exact ⟨rfl, HV3.out⟩
    · have z1 : decide (0 < n1) = true := by simp; omega
      have z2 : decide ((0 : Int) < n1) = true := by simp; omega
      obtain ⟨a0, a1, a2, a3, a4, a5⟩ := in_open HX.out.ba
      obtain ⟨b0, b1, b2, b3, b4, b5⟩ := in_open HX.out.bb
      have HSab := Lib.hid (HX.out.ab false HSV.out)
      clear H1
      go_wp2_with fail
      refine (show Calls _ _ _ _ _ from HSab.out).mono ?_
      rintro e v1 ⟨rfl, hv1⟩
      have HV1 := Lib.hid hv1
      clear a0 a1 a2 a3 a4 a5 b0 b1 b2 b3 b4 b5 HSab
      obtain ⟨a0, a1, a2, a3, a4, a5⟩ := in_open hv1.ba
      obtain ⟨b0, b1, b2, b3, b4, b5⟩ := in_open hv1.bb
      have HSba := Lib.hid (hv1.ba_ false (by rw [sameV_sym, gridsB_sym]; exact HSV.out))
      clear hv1
      go_wp2_with fail
      refine (show Calls _ _ _ _ _ from HSba.out).mono ?_
      rintro e v2 ⟨rfl, hv2⟩
      have HV2 := Lib.hid hv2
      clear a0 a1 a2 a3 a4 a5 b0 b1 b2 b3 b4 b5 HSba HV1
      obtain ⟨a0, a1, a2, a3, a4, a5⟩ := in_open hv2.ba
      have HSaa := Lib.hid hv2.aa
      clear hv2
      go_wp2_with fail
      refine (show Calls _ _ _ _ _ from HSaa.out).mono ?_
      rintro e v3 ⟨rfl, hv3⟩
      have HV3 := Lib.hid hv3.old
      clear hv3 HSaa a0 a1 a2 a3 a4 a5 HV2
      go_wp2
      go_ret
      exact ⟨rfl, HV3.out⟩

set_option maxRecDepth 100000 in
set_option maxHeartbeats 4000000 in
theorem esame_text (k1 r1 f1 : Int) (m1 x1 : ByteArray) (A1 : Option Addr) (n1 c1 : Nat) (L : Nat → Nat) (T : Nat → Nat → Int) (k2 r2 f2 : Int) (m2 x2 : ByteArray) (A2 : Option Addr) (n2 c2 : Nat) (M : Nat → Nat) (U : Nat → Nat → Int) (w : World) (g1 : GridW w A1 n1 L T) (g2 : GridW w A2 n2 M U) (hn1 : n1 ≤ 9223372036854775807) (hn2 : n2 ≤ 9223372036854775807) (hT : D5.Tabs w) (h0 : n1 ≤ 100) (h1 : n2 ≤ 100) (ez : decide (3000 < wrap64 (wrap64 (wrap64 ((m1.size : Int) + (m2.size : Int)) + (x1.size : Int)) + (x2.size : Int))) = false) (q0 : k1 = k2) (q1 : r1 = r2) (q2 : f1 = f2) (q3 : m1 = m2) (hne : x1 ≠ x2) : Calls Tryd.prog 6 #[.agg #[.int .i64 k1, .int .i32 r1, .int .u8 f1, .string m1, .slice A1 n1 c1, .string x1], .agg #[.int .i64 k2, .int .i32 r2, .int .u8 f2, .string m2, .slice A2 n2 c2, .string x2]] w fun e w' => e = .returned (.bool true) ∧ Below w.heap.size w w' := by
  have e1 : decide ((n1 : Int) > 100) = false := by simp; omega
  have e1' : decide ((100 : Int) < n1) = false := by simp; omega
  have e2 : decide ((n2 : Int) > 100) = false := by simp; omega
  have e2' : decide ((100 : Int) < n2) = false := by simp; omega
  subst q0
  subst q1
  subst q2
  subst q3
  have d1 := str_ne hne
  have em := str_eq m1
  have HSV : Hid (sameV k1 k1 r1 r1 f1 f1 m1 m1 x1 x2 (gridsB n1 n2 L M T U) = false) := Lib.hid (by simp [sameV, d1])
  clear hne h0 h1
  have HA := Lib.hid (TwoE.start (k1 := k1) (r1 := r1) (f1 := f1) (m1 := m1) (x1 := x1) (c1 := c1) (k2 := k1) (r2 := r1) (f2 := f1) (m2 := m1) (x2 := x2) (c2 := c2) g1 g2 hn1 hn2 hT).awake
  clear g1 g2 hT
  go_enter Tryd.func6, Tryd.ntmps6
  go_wp2_with fail
  refine (show Calls _ _ _ _ _ from HA.out).mono ?_
  rintro e w1 ⟨rfl, h1⟩
  have H1 := Lib.hid h1
  obtain ⟨a0, a1, a2, a3, a4, a5⟩ := in_open h1.ba
  obtain ⟨b0, b1, b2, b3, b4, b5⟩ := in_open h1.bb
  clear h1 HA
  go_wp2
  go_loopw [5, 6] (fun al i wr => al = .bool false ∧ i = .int .i64 0 ∧ wr = w1) (fun _ _ _ => 0)
  case atStart => exact ⟨rfl, rfl, rfl⟩
  case round =>
    obtain ⟨rfl, rfl, rfl⟩ := hrel
    clear a0 a1 a2 a3 a4 a5 b0 b1 b2 b3 b4 b5
    have HX := H1
    by_cases hz : n1 = 0
    · subst hz
      obtain ⟨a0, a1, a2, a3, a4, a5⟩ := in_open HX.out.ba
      obtain ⟨b0, b1, b2, b3, b4, b5⟩ := in_open HX.out.bb
      have HSab := Lib.hid (HX.out.ab false HSV.out)
      clear H1
      go_wp2_with fail
      refine (show Calls _ _ _ _ _ from HSab.out).mono ?_
      rintro e v1 ⟨rfl, hv1⟩
      have HV1 := Lib.hid hv1
      clear a0 a1 a2 a3 a4 a5 b0 b1 b2 b3 b4 b5 HSab
      obtain ⟨a0, a1, a2, a3, a4, a5⟩ := in_open hv1.ba
      obtain ⟨b0, b1, b2, b3, b4, b5⟩ := in_open hv1.bb
      have HSba := Lib.hid (hv1.ba_ false (by rw [sameV_sym, gridsB_sym]; exact HSV.out))
      clear hv1
      go_wp2_with fail
      refine (show Calls _ _ _ _ _ from HSba.out).mono ?_
      rintro e v2 ⟨rfl, hv2⟩
      have HV2 := Lib.hid hv2
      clear a0 a1 a2 a3 a4 a5 b0 b1 b2 b3 b4 b5 HSba HV1
      obtain ⟨a0, a1, a2, a3, a4, a5⟩ := in_open hv2.ba
      have HSaa := Lib.hid hv2.aa
      clear hv2
      go_wp2_with fail
      refine (show Calls _ _ _ _ _ from HSaa.out).mono ?_
      rintro e v3 ⟨rfl, hv3⟩
      have HV3 := Lib.hid hv3.old
      clear hv3 HSaa a0 a1 a2 a3 a4 a5 HV2
      go_wp2
      go_ret
      exact ⟨rfl, HV3.out⟩
    · have z1 : decide (0 < n1) = true := by simp; omega
      have z2 : decide ((0 : Int) < n1) = true := by simp; omega
      obtain ⟨a0, a1, a2, a3, a4, a5⟩ := in_open HX.out.ba
      obtain ⟨b0, b1, b2, b3, b4, b5⟩ := in_open HX.out.bb
      have HSab := Lib.hid (HX.out.ab false HSV.out)
      clear H1
      go_wp2_with fail
      refine (show Calls _ _ _ _ _ from HSab.out).mono ?_
      rintro e v1 ⟨rfl, hv1⟩
      have HV1 := Lib.hid hv1
      clear a0 a1 a2 a3 a4 a5 b0 b1 b2 b3 b4 b5 HSab
      obtain ⟨a0, a1, a2, a3, a4, a5⟩ := in_open hv1.ba
      obtain ⟨b0, b1, b2, b3, b4, b5⟩ := in_open hv1.bb
      have HSba := Lib.hid (hv1.ba_ false (by rw [sameV_sym, gridsB_sym]; exact HSV.out))
      clear hv1
      go_wp2_with fail
      refine (show Calls _ _ _ _ _ from HSba.out).mono ?_
      rintro e v2 ⟨rfl, hv2⟩
      have HV2 := Lib.hid hv2
      clear a0 a1 a2 a3 a4 a5 b0 b1 b2 b3 b4 b5 HSba HV1
      obtain ⟨a0, a1, a2, a3, a4, a5⟩ := in_open hv2.ba
      have HSaa := Lib.hid hv2.aa
      clear hv2
      go_wp2_with fail
      refine (show Calls _ _ _ _ _ from HSaa.out).mono ?_
      rintro e v3 ⟨rfl, hv3⟩
      have HV3 := Lib.hid hv3.old
      clear hv3 HSaa a0 a1 a2 a3 a4 a5 HV2
      go_wp2
      go_ret
      exact ⟨rfl, HV3.out⟩

set_option maxRecDepth 100000 in
set_option maxHeartbeats 4000000 in
theorem esame_len (k1 r1 f1 : Int) (m1 x1 : ByteArray) (A1 : Option Addr) (n1 c1 : Nat) (L : Nat → Nat) (T : Nat → Nat → Int) (k2 r2 f2 : Int) (m2 x2 : ByteArray) (A2 : Option Addr) (n2 c2 : Nat) (M : Nat → Nat) (U : Nat → Nat → Int) (w : World) (g1 : GridW w A1 n1 L T) (g2 : GridW w A2 n2 M U) (hn1 : n1 ≤ 9223372036854775807) (hn2 : n2 ≤ 9223372036854775807) (hT : D5.Tabs w) (h0 : n1 ≤ 100) (h1 : n2 ≤ 100) (ez : decide (3000 < wrap64 (wrap64 (wrap64 ((m1.size : Int) + (m2.size : Int)) + (x1.size : Int)) + (x2.size : Int))) = false) (q0 : k1 = k2) (q1 : r1 = r2) (q2 : f1 = f2) (q3 : m1 = m2) (q4 : x1 = x2) (hne : n1 ≠ n2) : Calls Tryd.prog 6 #[.agg #[.int .i64 k1, .int .i32 r1, .int .u8 f1, .string m1, .slice A1 n1 c1, .string x1], .agg #[.int .i64 k2, .int .i32 r2, .int .u8 f2, .string m2, .slice A2 n2 c2, .string x2]] w fun e w' => e = .returned (.bool true) ∧ Below w.heap.size w w' := by
  have e1 : decide ((n1 : Int) > 100) = false := by simp; omega
  have e1' : decide ((100 : Int) < n1) = false := by simp; omega
  have e2 : decide ((n2 : Int) > 100) = false := by simp; omega
  have e2' : decide ((100 : Int) < n2) = false := by simp; omega
  subst q0
  subst q1
  subst q2
  subst q3
  subst q4
  have d1 : ((n1 : Int) == (n2 : Int)) = false := by simp; omega
  have em := str_eq m1
  have ex := str_eq x1
  have HSV : Hid (sameV k1 k1 r1 r1 f1 f1 m1 m1 x1 x1 (gridsB n1 n2 L M T U) = false) := Lib.hid (by rw [show gridsB n1 n2 L M T U = false by simp [gridsB, hne]]; simp [sameV])
  clear hne h0 h1
  have HA := Lib.hid (TwoE.start (k1 := k1) (r1 := r1) (f1 := f1) (m1 := m1) (x1 := x1) (c1 := c1) (k2 := k1) (r2 := r1) (f2 := f1) (m2 := m1) (x2 := x1) (c2 := c2) g1 g2 hn1 hn2 hT).awake
  clear g1 g2 hT
  go_enter Tryd.func6, Tryd.ntmps6
  go_wp2_with fail
  refine (show Calls _ _ _ _ _ from HA.out).mono ?_
  rintro e w1 ⟨rfl, h1⟩
  have H1 := Lib.hid h1
  obtain ⟨a0, a1, a2, a3, a4, a5⟩ := in_open h1.ba
  obtain ⟨b0, b1, b2, b3, b4, b5⟩ := in_open h1.bb
  clear h1 HA
  go_wp2
  go_loopw [5, 6] (fun al i wr => al = .bool false ∧ i = .int .i64 0 ∧ wr = w1) (fun _ _ _ => 0)
  case atStart => exact ⟨rfl, rfl, rfl⟩
  case round =>
    obtain ⟨rfl, rfl, rfl⟩ := hrel
    clear a0 a1 a2 a3 a4 a5 b0 b1 b2 b3 b4 b5
    have HX := H1
    by_cases hz : n1 = 0
    · subst hz
      obtain ⟨a0, a1, a2, a3, a4, a5⟩ := in_open HX.out.ba
      obtain ⟨b0, b1, b2, b3, b4, b5⟩ := in_open HX.out.bb
      have HSab := Lib.hid (HX.out.ab false HSV.out)
      clear H1
      go_wp2_with fail
      refine (show Calls _ _ _ _ _ from HSab.out).mono ?_
      rintro e v1 ⟨rfl, hv1⟩
      have HV1 := Lib.hid hv1
      clear a0 a1 a2 a3 a4 a5 b0 b1 b2 b3 b4 b5 HSab
      obtain ⟨a0, a1, a2, a3, a4, a5⟩ := in_open hv1.ba
      obtain ⟨b0, b1, b2, b3, b4, b5⟩ := in_open hv1.bb
      have HSba := Lib.hid (hv1.ba_ false (by rw [sameV_sym, gridsB_sym]; exact HSV.out))
      clear hv1
      go_wp2_with fail
      refine (show Calls _ _ _ _ _ from HSba.out).mono ?_
      rintro e v2 ⟨rfl, hv2⟩
      have HV2 := Lib.hid hv2
      clear a0 a1 a2 a3 a4 a5 b0 b1 b2 b3 b4 b5 HSba HV1
      obtain ⟨a0, a1, a2, a3, a4, a5⟩ := in_open hv2.ba
      have HSaa := Lib.hid hv2.aa
      clear hv2
      go_wp2_with fail
      refine (show Calls _ _ _ _ _ from HSaa.out).mono ?_
      rintro e v3 ⟨rfl, hv3⟩
      have HV3 := Lib.hid hv3.old
      clear hv3 HSaa a0 a1 a2 a3 a4 a5 HV2
      go_wp2
      go_ret
      exact ⟨rfl, HV3.out⟩
    · have z1 : decide (0 < n1) = true := by simp; omega
      have z2 : decide ((0 : Int) < n1) = true := by simp; omega
      obtain ⟨a0, a1, a2, a3, a4, a5⟩ := in_open HX.out.ba
      obtain ⟨b0, b1, b2, b3, b4, b5⟩ := in_open HX.out.bb
      have HSab := Lib.hid (HX.out.ab false HSV.out)
      clear H1
      go_wp2_with fail
      refine (show Calls _ _ _ _ _ from HSab.out).mono ?_
      rintro e v1 ⟨rfl, hv1⟩
      have HV1 := Lib.hid hv1
      clear a0 a1 a2 a3 a4 a5 b0 b1 b2 b3 b4 b5 HSab
      obtain ⟨a0, a1, a2, a3, a4, a5⟩ := in_open hv1.ba
      obtain ⟨b0, b1, b2, b3, b4, b5⟩ := in_open hv1.bb
      have HSba := Lib.hid (hv1.ba_ false (by rw [sameV_sym, gridsB_sym]; exact HSV.out))
      clear hv1
      go_wp2_with fail
      refine (show Calls _ _ _ _ _ from HSba.out).mono ?_
      rintro e v2 ⟨rfl, hv2⟩
      have HV2 := Lib.hid hv2
      clear a0 a1 a2 a3 a4 a5 b0 b1 b2 b3 b4 b5 HSba HV1
      obtain ⟨a0, a1, a2, a3, a4, a5⟩ := in_open hv2.ba
      have HSaa := Lib.hid hv2.aa
      clear hv2
      go_wp2_with fail
      refine (show Calls _ _ _ _ _ from HSaa.out).mono ?_
      rintro e v3 ⟨rfl, hv3⟩
      have HV3 := Lib.hid hv3.old
      clear hv3 HSaa a0 a1 a2 a3 a4 a5 HV2
      go_wp2
      go_ret
      exact ⟨rfl, HV3.out⟩

end Go.Proofs.YtfekjlajagoooaaDoor
