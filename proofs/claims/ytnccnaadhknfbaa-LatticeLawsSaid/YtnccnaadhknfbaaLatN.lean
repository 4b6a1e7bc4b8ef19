/- Layer 1: awake answers true. -/
import Derived.Test.YtnccnaadhknfbaaLatL
namespace Go.Proofs.Ytnccnaadhknfbaa
open Go.RowKit Lat

theorem Keeps.below {x : Nat} {w w' : World} (h : Keeps x w w') {B : Nat} (hx : B ≤ x) (hB : B ≤ w.heap.size) : Below B w w' :=
  ⟨h.os, h.tape, h.output, h.size, fun k hk => h.block k (by omega) (by omega)⟩

/-- A table of two by two. -/
def tabT (a b c d : Bool) : Nat → Nat → Bool := fun r x => if r = 0 then (if x = 0 then a else b) else (if x = 0 then c else d)

theorem rank21 : rankOk 2 1 := by unfold rankOk; decide
theorem err2 : newErr 2 (fun _ => 2) (tabT true true false true) = 0 := by kernel_rfl

/-- A table whose rows are blocks known whole. -/
theorem grid_of_rows {w : World} {B b n : Nat} {G L C : Nat → Nat} {T : Nat → Nat → Bool} (hb : b < B) (ht : w.rowIs b 26 n (fun r => .slice (some ⟨G r, 0, none⟩) (L r) (C r)))
    (hr : ∀ r, r < n → G r < B ∧ L r ≤ C r ∧ L r ≤ 9223372036854775807 ∧ w.rowIs (G r) 4 (C r) (fun c => .bool (T r c))) : Grid w B (some ⟨b, 0, none⟩) n L T := by
  intro _
  refine ⟨_, rfl, hb, fun r hlt => ?_⟩
  obtain ⟨h1, h2, h3, h4⟩ := hr r hlt
  refine ⟨_, _, by rw [add_zero]; exact ht.cell hlt, h3, fun c hc => ⟨_, rfl, h1, ?_⟩⟩
  rw [add_zero]
  exact h4.cell (by omega)

/-- The blocks of a literal of two rows of two. -/
theorem grid22 (w : World) (a b c d : Bool) : Grid (((w.alloc (.cells #[.bool a, .bool b] 4)).alloc (.cells #[.bool c, .bool d] 4)).alloc (.cells #[.slice (some ⟨w.heap.size, 0, none⟩) 2 2, .slice (some ⟨w.heap.size + 1, 0, none⟩) 2 2] 26))
    (w.heap.size + 1 + 1 + 1) (some ⟨w.heap.size + 1 + 1, 0, none⟩) 2 (fun _ => 2) (tabT a b c d) := by
  have r0 := ((World.rowIs_alloc w #[.bool a, .bool b] 4 (fun x => .bool (if x = 0 then a else b)) (fun i hi => by
    match i, hi with
    | 0, _ => rfl
    | 1, _ => rfl)).alloc (.cells #[.bool c, .bool d] 4)).alloc (.cells #[.slice (some ⟨w.heap.size, 0, none⟩) 2 2, .slice (some ⟨w.heap.size + 1, 0, none⟩) 2 2] 26)
  have r1 := (World.rowIs_alloc (w.alloc (.cells #[.bool a, .bool b] 4)) #[.bool c, .bool d] 4 (fun x => .bool (if x = 0 then c else d)) (fun i hi => by
    match i, hi with
    | 0, _ => rfl
    | 1, _ => rfl)).alloc (.cells #[.slice (some ⟨w.heap.size, 0, none⟩) 2 2, .slice (some ⟨w.heap.size + 1, 0, none⟩) 2 2] 26)
  have r2 := World.rowIs_alloc ((w.alloc (.cells #[.bool a, .bool b] 4)).alloc (.cells #[.bool c, .bool d] 4)) #[.slice (some ⟨w.heap.size, 0, none⟩) 2 2, .slice (some ⟨w.heap.size + 1, 0, none⟩) 2 2] 26
    (fun r => .slice (some ⟨if r = 0 then w.heap.size else w.heap.size + 1, 0, none⟩) 2 2) (fun i hi => by
    match i, hi with
    | 0, _ => rfl
    | 1, _ => rfl)
  simp only [World.size_alloc] at r1 r2
  refine grid_of_rows (G := fun r => if r = 0 then w.heap.size else w.heap.size + 1) (C := fun _ => 2) (by omega) r2 fun r hr => ?_
  match r, hr with
  | 0, _ => exact ⟨by show w.heap.size < _; omega, Nat.le_refl _, by show 2 ≤ _; omega, r0⟩
  | 1, _ => exact ⟨by show w.heap.size + 1 < _; omega, Nat.le_refl _, by show 2 ≤ _; omega, r1⟩

set_option maxHeartbeats 1600000 in
theorem awake_any (w : World) : Calls Try.prog 11 #[] w fun e w' => e = .returned (.bool true) ∧ Below w.heap.size w w' := by
  go_enter Try.func11, Try.ntmps11
  go_wp2_with fail
  refine (rank_any 2 1 w).mono ?_
  rintro e w1 ⟨hB1, ⟨hno, _⟩ | ⟨_, lb1, rfl, hl1, hI1⟩⟩
  · exact absurd rank21 hno
  have HB1 := Lib.hid hB1
  have HI1 := Lib.hid (show IsLat w1 lb1 4 (rankT 2) from hI1)
  clear hB1 hI1
  go_wp2_with fail
  refine (new_any 2 2 _ (fun _ => 2) (tabT true true false true) _ (by simpa using grid22 w1 true true false true) (by omega)).mono ?_
  rintro e w3 ⟨hB3, ⟨hno, _⟩ | ⟨_, lb2, rfl, hl2, hI2⟩⟩
  · exact absurd err2 hno
  have HB13 := Lib.hid ((((Below.refl w1.heap.size w1).alloc (Nat.le_refl _) (.cells #[.bool true, .bool true] 4)).alloc (by simp) (.cells #[.bool false, .bool true] 4)).alloc (by simp; omega) (.cells #[.slice (some ⟨w1.heap.size, 0, none⟩) 2 2, .slice (some ⟨w1.heap.size + 1, 0, none⟩) 2 2] 26) |>.trans (hB3.mono (by simp; omega)))
  have HL2 := Lib.hid (show lb1 < lb2 from by have := HI1.out.lt; simp at hl2; omega)
  have HI13 := Lib.hid (HI1.out.below HB13.out (Nat.le_refl _))
  have HI23 := Lib.hid hI2
  have HB3 := Lib.hid (HB1.out.trans (HB13.out.mono HB1.out.size))
  have HL1 := Lib.hid hl1
  clear hB3 hl2 hI2 hl1 HI1 HB1 HB13
  go_wp2_with (first | (go_at_call 12; refine (len_any lb1 4 (rankT 2) _ HI13.out).mono ?_; rintro e w' ⟨rfl, rfl⟩) | (go_at_call_of 21 (Value.int IntKind.i64 0); refine (below_any lb1 4 (rankT 2) 0 3 _ HI13.out).mono ?_; rw [show belowV 4 (rankT 2) 0 3 = true from by kernel_rfl]; rintro e w' ⟨rfl, rfl⟩) | (go_at_call_of 21 (Value.int IntKind.i64 2); refine (below_any lb1 4 (rankT 2) 1 2 _ HI13.out).mono ?_; rw [show belowV 4 (rankT 2) 1 2 = false from by kernel_rfl]; rintro e w' ⟨rfl, rfl⟩))
  refine (join_any lb1 4 (rankT 2) 1 2 _ HI13.out).mono ?_
  rw [show joinV 4 (rankT 2) 1 2 = 3 from by kernel_rfl]
  rintro e w4 ⟨rfl, hI4, hK4⟩
  have HI14 := Lib.hid hI4
  have HI24 := Lib.hid (HI23.out.other HI13.out hK4 (by have := HL2.out; omega))
  have HB4 := Lib.hid (HB3.out.trans (hK4.below HL1.out HB3.out.size))
  clear hI4 hK4 HI13 HI23 HB3
  go_wp2_with fail
  refine (meet_any lb1 4 (rankT 2) 1 2 _ HI14.out).mono ?_
  rw [show joinV 4 (flipT (rankT 2)) 1 2 = 0 from by kernel_rfl]
  rintro e w5 ⟨rfl, hI4, hK4⟩
  have HI15 := Lib.hid hI4
  have HI25 := Lib.hid (HI24.out.other HI14.out hK4 (by have := HL2.out; omega))
  have HB5 := Lib.hid (HB4.out.trans (hK4.below HL1.out HB4.out.size))
  clear hI4 hK4 HI14 HI24 HB4
  go_wp2_with fail
  refine (downset_any lb1 4 (rankT 2) 1 _ HI15.out (by omega)).mono ?_
  rintro e w6 ⟨v, rfl, ho, hB6⟩
  obtain ⟨A, c, rfl, _⟩ := own_shape ho
  rw [show (downs (rankT 2) 1 4).length = 2 from by kernel_rfl]
  have HI26 := Lib.hid (HI25.out.below hB6 (Nat.le_refl _))
  have HB6 := Lib.hid (HB5.out.trans (hB6.mono HB5.out.size))
  clear ho hB6 HI15 HI25 HB5
  go_wp2_with fail
  refine (top_any lb2 2 _ _ HI26.out).mono ?_
  rw [show endT 2 (flipT (tabT true true false true)) = 1 from by kernel_rfl]
  rintro e w7 ⟨rfl, q, rfl⟩
  go_wp2_with fail
  refine (bottom_any lb2 2 _ _ (HI26.out.drewN q)).mono ?_
  rw [show endT 2 (tabT true true false true) = 0 from by kernel_rfl]
  rintro e w8 ⟨rfl, q', rfl⟩
  go_wp2
  go_ret
  exact ⟨rfl, below_drew HB6.out _⟩
end Go.Proofs.Ytnccnaadhknfbaa
