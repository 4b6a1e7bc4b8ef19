/- Layer 1: LatticeKnown's walk. -/
import Derived.Test.YtnccnaadhknfbaaLatN
namespace Go.Proofs.Ytnccnaadhknfbaa
open Go.RowKit Lat

theorem new_err (n cap : Nat) (A : Option Addr) (L : Nat → Nat) (T : Nat → Nat → Bool) (c : Int) (w : World) (hG : Grid w w.heap.size A n L T) (hm : n ≤ 9223372036854775807) (he : newErr n L T = c) (hc : c ≠ 0) :
    Calls Try.prog 9 #[.slice A n cap] w fun e w' => e = .returned (.tuple #[.pointer none, .int .i64 c]) ∧ Below w.heap.size w w' :=
  (new_any n cap A L T w hG hm).mono fun e w' ⟨hb, h⟩ => by
    rcases h with ⟨_, h⟩ | ⟨h, _⟩
    · exact ⟨by rw [h, he], hb⟩
    · exact absurd (he.symm.trans h) hc

theorem rank_err (ranks sets : Int) (w : World) (h : ¬ rankOk ranks sets) : Calls Try.prog 10 #[.int .i64 ranks, .int .i64 sets] w fun e w' => e = .returned (.tuple #[.pointer none, .int .i64 1]) ∧ Below w.heap.size w w' :=
  (rank_any ranks sets w).mono fun e w' ⟨hb, hh⟩ => by
    rcases hh with ⟨_, h'⟩ | ⟨h', _⟩
    · exact ⟨h', hb⟩
    · exact absurd h' h

theorem rank_ok (ranks sets : Int) (w : World) (h : rankOk ranks sets) : Calls Try.prog 10 #[.int .i64 ranks, .int .i64 sets] w fun e w' => ∃ lb, e = .returned (.tuple #[.pointer (some ⟨lb, 0, none⟩), .int .i64 0]) ∧ w.heap.size ≤ lb ∧ IsLat w' lb (ranks.toNat * 2 ^ sets.toNat) (rankT ranks.toNat) ∧ Below w.heap.size w w' :=
  (rank_any ranks sets w).mono fun e w' ⟨hb, hh⟩ => by
    rcases hh with ⟨h', _⟩ | ⟨_, lb, he, hl, hi⟩
    · exact absurd h h'
    · exact ⟨lb, he, hl, hi, hb⟩

/-- The blocks of the literal of a row of two and a row of one. -/
theorem grid21 (w : World) (a b c : Bool) : Grid (((w.alloc (.cells #[.bool a, .bool b] 4)).alloc (.cells #[.bool c] 4)).alloc (.cells #[.slice (some ⟨w.heap.size, 0, none⟩) 2 2, .slice (some ⟨w.heap.size + 1, 0, none⟩) 1 1] 26))
    (w.heap.size + 1 + 1 + 1) (some ⟨w.heap.size + 1 + 1, 0, none⟩) 2 (fun r => if r = 0 then 2 else 1) (fun r x => if r = 0 then (if x = 0 then a else b) else c) := by
  have r0 := ((World.rowIs_alloc w #[.bool a, .bool b] 4 (fun x => .bool (if x = 0 then a else b)) (fun i hi => by
    match i, hi with
    | 0, _ => rfl
    | 1, _ => rfl)).alloc (.cells #[.bool c] 4)).alloc (.cells #[.slice (some ⟨w.heap.size, 0, none⟩) 2 2, .slice (some ⟨w.heap.size + 1, 0, none⟩) 1 1] 26)
  have r1 := (World.rowIs_alloc (w.alloc (.cells #[.bool a, .bool b] 4)) #[.bool c] 4 (fun _ => .bool c) (fun i hi => by
    match i, hi with
    | 0, _ => rfl)).alloc (.cells #[.slice (some ⟨w.heap.size, 0, none⟩) 2 2, .slice (some ⟨w.heap.size + 1, 0, none⟩) 1 1] 26)
  have r2 := World.rowIs_alloc ((w.alloc (.cells #[.bool a, .bool b] 4)).alloc (.cells #[.bool c] 4)) #[.slice (some ⟨w.heap.size, 0, none⟩) 2 2, .slice (some ⟨w.heap.size + 1, 0, none⟩) 1 1] 26
    (fun r => .slice (some ⟨if r = 0 then w.heap.size else w.heap.size + 1, 0, none⟩) (if r = 0 then 2 else 1) (if r = 0 then 2 else 1)) (fun i hi => by
    match i, hi with
    | 0, _ => rfl
    | 1, _ => rfl)
  simp only [World.size_alloc] at r1 r2
  refine grid_of_rows (G := fun r => if r = 0 then w.heap.size else w.heap.size + 1) (C := fun r => if r = 0 then 2 else 1) (by omega) r2 fun r hr => ?_
  match r, hr with
  | 0, _ => exact ⟨by show w.heap.size < _; omega, Nat.le_refl _, by show 2 ≤ _; omega, r0⟩
  | 1, _ => exact ⟨by show w.heap.size + 1 < _; omega, Nat.le_refl _, by show 1 ≤ _; omega, r1⟩

theorem grid11 (w : World) (a : Bool) : Grid ((w.alloc (.cells #[.bool a] 4)).alloc (.cells #[.slice (some ⟨w.heap.size, 0, none⟩) 1 1] 26))
    (w.heap.size + 1 + 1) (some ⟨w.heap.size + 1, 0, none⟩) 1 (fun _ => 1) (fun _ _ => a) := by
  have r0 := (World.rowIs_alloc w #[.bool a] 4 (fun _ => .bool a) (fun i hi => by
    match i, hi with
    | 0, _ => rfl)).alloc (.cells #[.slice (some ⟨w.heap.size, 0, none⟩) 1 1] 26)
  have r2 := World.rowIs_alloc (w.alloc (.cells #[.bool a] 4)) #[.slice (some ⟨w.heap.size, 0, none⟩) 1 1] 26
    (fun _ => .slice (some ⟨w.heap.size, 0, none⟩) 1 1) (fun i hi => by
    match i, hi with
    | 0, _ => rfl)
  simp only [World.size_alloc] at r2
  refine grid_of_rows (G := fun _ => w.heap.size) (C := fun _ => 1) (by omega) r2 fun r hr => ⟨by omega, Nat.le_refl _, by omega, r0⟩

theorem below3 (w : World) (a b c : Obj) : Below w.heap.size w (((w.alloc a).alloc b).alloc c) := (((Below.refl w.heap.size w).alloc (Nat.le_refl _) a).alloc (by simp) b).alloc (by simp; omega) c
theorem below2 (w : World) (a b : Obj) : Below w.heap.size w ((w.alloc a).alloc b) := ((Below.refl w.heap.size w).alloc (Nat.le_refl _) a).alloc (by simp) b

theorem top64 : endT 64 (flipT (rankT 1)) = 63 := by kernel_rfl
theorem bot64 : endT 64 (rankT 1) = 0 := by kernel_rfl
theorem top12 : endT 12 (flipT (rankT 3)) = 11 := by kernel_rfl
theorem join12 : joinV 12 (rankT 3) 2 3 = 5 := by kernel_rfl
theorem meet12 : joinV 12 (flipT (rankT 3)) 2 3 = 0 := by kernel_rfl

set_option maxRecDepth 100000 in
set_option maxHeartbeats 3200000 in
theorem known_any (w : World) : Calls Try.prog 3 #[] w fun e w' => e = .returned (.bool true) ∧ Below w.heap.size w w' := by
  go_enter Try.func3, Try.ntmps3
  go_wp2_with fail
  refine (new_err 2 2 _ (fun _ => 2) (tabT true false false true) 1 _ (by simpa using grid22 w true false false true) (by omega) (by kernel_rfl) (by decide)).mono ?_
  rintro e w1 ⟨rfl, hb⟩
  have H1 := Lib.hid ((below3 w _ _ _).trans (hb.mono (by simp; omega)))
  clear hb
  go_wp2_with fail
  refine (new_err 0 0 none (fun _ => 0) (fun _ _ => false) 3 _ (fun h => by omega) (by omega) (by kernel_rfl) (by decide)).mono ?_
  rintro e w2 ⟨rfl, hb⟩
  have H2 := Lib.hid (H1.out.trans (hb.mono H1.out.size))
  clear hb H1
  go_wp2_with fail
  refine (new_err 2 2 _ (fun r => if r = 0 then 2 else 1) (fun r x => if r = 0 then (if x = 0 then true else true) else true) 8 _ (by simpa using grid21 w2 true true true) (by omega) (by kernel_rfl) (by decide)).mono ?_
  rintro e w3 ⟨rfl, hb⟩
  have H3 := Lib.hid (H2.out.trans (((below3 w2 _ _ _).trans (hb.mono (by simp; omega))).mono H2.out.size))
  clear hb H2
  go_wp2_with fail
  refine (new_err 1 1 _ (fun _ => 1) (fun _ _ => false) 1 _ (by simpa using grid11 w3 false) (by omega) (by kernel_rfl) (by decide)).mono ?_
  rintro e w4 ⟨rfl, hb⟩
  have H4 := Lib.hid (H3.out.trans (((below2 w3 _ _).trans (hb.mono (by simp; omega))).mono H3.out.size))
  clear hb H3
  go_wp2_with fail
  refine (new_err 2 2 _ (fun _ => 2) (tabT true true true true) 1 _ (by simpa using grid22 w4 true true true true) (by omega) (by kernel_rfl) (by decide)).mono ?_
  rintro e w5 ⟨rfl, hb⟩
  have H5 := Lib.hid (H4.out.trans (((below3 w4 _ _ _).trans (hb.mono (by simp; omega))).mono H4.out.size))
  clear hb H4
  go_wp2_with fail
  refine (rank_err 64 1 _ (by unfold rankOk; decide)).mono ?_
  rintro e w6 ⟨rfl, hb⟩
  have H6 := Lib.hid (H5.out.trans (hb.mono H5.out.size))
  clear hb H5
  go_wp2_with fail
  refine (rank_ok 1 6 _ (by unfold rankOk; decide)).mono ?_
  rintro e w7 ⟨lbg, rfl, hg, hIg, hb⟩
  have H7 := Lib.hid (H6.out.trans (hb.mono H6.out.size))
  have HG7 := Lib.hid (show IsLat w7 lbg 64 (rankT 1) from hIg)
  clear hb H6 hIg hg
  go_wp2_with fail
  refine (rank_ok 3 2 _ (by unfold rankOk; decide)).mono ?_
  rintro e w8 ⟨lbi, rfl, hg, hIi, hb⟩
  have HL := Lib.hid (show w.heap.size ≤ lbi from Nat.le_trans H7.out.size hg)
  have H8 := Lib.hid (H7.out.trans (hb.mono H7.out.size))
  have HG8 := Lib.hid (HG7.out.below hb (Nat.le_refl _))
  have HI8 := Lib.hid (show IsLat w8 lbi 12 (rankT 3) from hIi)
  clear hb H7 HG7 hIi hg
  go_wp2_with fail
  refine (awake_any w8).mono ?_
  rintro e w9 ⟨rfl, hb⟩
  have H9 := Lib.hid (H8.out.trans (hb.mono H8.out.size))
  have HG9 := Lib.hid (HG8.out.below hb (Nat.le_refl _))
  have HI9 := Lib.hid (HI8.out.below hb (Nat.le_refl _))
  clear hb H8 HG8 HI8
  go_wp2_with fail
  refine (len_any lbg 64 _ _ HG9.out).mono ?_
  rintro e w' ⟨rfl, rfl⟩
  go_wp2_with fail
  refine (top_any lbg 64 _ _ HG9.out).mono ?_
  rw [top64]
  rintro e w' ⟨rfl, q1, rfl⟩
  go_wp2_with fail
  refine (bottom_any lbg 64 _ _ (HG9.out.drewN q1)).mono ?_
  rw [bot64]
  rintro e w' ⟨rfl, q2, rfl⟩
  go_wp2_with fail
  refine (len_any lbi 12 _ _ (HI9.out.drewN _)).mono ?_
  rintro e w' ⟨rfl, rfl⟩
  go_wp2_with fail
  refine (top_any lbi 12 _ _ (HI9.out.drewN _)).mono ?_
  rw [top12]
  rintro e w' ⟨rfl, q3, rfl⟩
  go_wp2_with fail
  refine (join_any lbi 12 _ 2 3 _ (HI9.out.drewN _)).mono ?_
  rw [join12]
  rintro e w10 ⟨rfl, hI, hK⟩
  have HI10 := Lib.hid hI
  have H10 := Lib.hid ((below_drew H9.out _).trans (hK.below HL.out H9.out.size))
  clear hI hK
  go_wp2_with fail
  refine (meet_any lbi 12 _ 2 3 _ HI10.out).mono ?_
  rw [meet12]
  rintro e w11 ⟨rfl, hI, hK⟩
  have H11 := Lib.hid (H10.out.trans (hK.below HL.out H10.out.size))
  clear hI hK
  go_wp2
  go_ret
  exact ⟨rfl, H11.out⟩
end Go.Proofs.Ytnccnaadhknfbaa
