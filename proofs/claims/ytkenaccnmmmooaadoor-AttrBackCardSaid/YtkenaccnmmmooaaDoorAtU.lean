/- Layer 10: the library's table as Itoa reads it; the program's octet and spelt. -/
import Derived.Test.YtkenaccnmmmooaaDoorAtR
import Derived.Test.YtkenaccnmmmooaaDoorAtN
import Derived.Test.YtkenaccnmmmooaaDoorAtShelf
import Derived.Lib.LaidTab
set_option linter.unusedVariables false
namespace Go.Proofs.YtkenaccnmmmooaaDoor.A10
open Go.RowKit Sgr

/-- What the library's variable holds that the program's road reads. -/
def Vars (w : World) : Prop := Lib.TabIs Tryd.prog w "internal/strconv.uint64pow10" .u64 Lib.pow10Tab
theorem var_below {P : Program} {n : String} {cs : Array Value} {w w' : World} (h : w.var? P n = some cs) {B : Nat} (hb : Below B w w') (hB : w.heap.size ≤ B) : w'.var? P n = some cs := by
  unfold World.var? at h ⊢
  obtain ⟨g, hg, h⟩ := Option.bind_eq_some_iff.1 h
  rw [hg]
  have hlt : g < w.heap.size := by
    cases hx : w.heap[g]? with
    | none => rw [hx] at h; cases h
    | some o => exact (Array.getElem?_eq_some_iff.1 hx).1
  simp only [Option.bind_some]
  rw [hb.block g (by omega)]
  exact h
theorem Vars.below {w w' : World} (h : Vars w) (hb : Below w.heap.size w w') : Vars w' := var_below h hb (Nat.le_refl _)
theorem below_grow (w : World) (k : Nat) (os : Array Obj) : Below w.heap.size w (Sort.grow (w.drewN k) os) := by
  refine ⟨rfl, rfl, rfl, ?_, fun j hj => ?_⟩
  · show w.heap.size ≤ (w.heap ++ os).size
    simp
  · show (w.heap ++ os)[j]? = w.heap[j]?
    exact Array.getElem?_append_left hj
theorem itoa_nat (n : Nat) (h : n < 4294967296) (w : World) (hV : Vars w) :
    Calls Tryd.prog 9 #[.int .i64 n] w fun e w' => e = .returned (.string (strL (Lib.decDigits n))) ∧ Below w.heap.size w w' :=
  (Tryd.strconv_Itoa n (by omega) (by omega) w hV).mono fun _ _ ⟨he, k, os, hw⟩ => ⟨by
    rw [he]
    unfold Lib.itoa
    rw [if_neg (by omega), Int.toNat_natCast]
    rfl, hw ▸ below_grow w k os⟩
theorem octet_any (n : Nat) (h : n < 4294967296) (w : World) (hV : Vars w) :
    Calls Tryd.prog 21 #[.int .u32 n] w fun e w' => e = .returned (.string (strL (Lib.decDigits (n % 256)))) ∧ Below w.heap.size w w' := by
  have e : bits .and .u32 (n : Int) 255 = ((n % 256 : Nat) : Int) := by
    have := u32_and_nat n 255 h (by decide)
    rw [show n &&& 255 = n % 256 from Nat.and_two_pow_sub_one_eq_mod n 8] at this
    exact this
  obtain ⟨x, hx⟩ : ∃ x, x = n % 256 := ⟨_, rfl⟩
  rw [← hx] at e ⊢
  have hx2 : x < 256 := by omega
  have HI := Lib.hid (itoa_nat x (by omega) w hV)
  generalize strL (Lib.decDigits x) = X at *
  clear hx
  go_enter Tryd.func21, Tryd.ntmps21
  go_wp2_with fail
  refine (HI.out).mono ?_
  rintro e w1 ⟨rfl, b1⟩
  have B1 := Lib.hid b1
  clear b1
  go_wp2
  go_ret
  exact ⟨rfl, B1.out⟩

theorem spelt_none (m : Nat) (hm : m < 100) (c : Co) (h1 : c.kind ≠ 1) (h2 : c.kind ≠ 2) (w : World) (hV : Vars w) : Calls Tryd.prog 10 #[.int .i64 m, coA c] w fun e w' => e = .returned (.string (strL (colT m c))) ∧ Below w.heap.size w w' := by
  have e : colT m c = [] := by unfold colT; rw [if_neg h1, if_neg h2]
  rw [e]
  have s1 := digits_ten (n := m) (by omega)
  rw [← str_size] at s1
  obtain ⟨k, n⟩ := c
  dsimp only at h1 h2
  have d1 : ((k : Int) == 1) = false := by simp; omega
  have d2 : ((k : Int) == 2) = false := by simp; omega
  have HI : Hid (∀ V, Below w.heap.size w V → Calls Tryd.prog 9 #[.int .i64 m] V fun e w' => e = .returned (.string (strL (Lib.decDigits m))) ∧ Below V.heap.size V w') := Lib.hid fun V hV2 => itoa_nat m (by omega) V (hV.below hV2)
  generalize strL (Lib.decDigits m) = X at *
  obtain ⟨W, hW⟩ : ∃ W, W = w.alloc (.cells #[.int .u8 (k : Int), .int .u32 (n : Int)] 25) := ⟨_, rfl⟩
  have hB : Below w.heap.size w W := by rw [hW]; exact (Below.refl _ _).alloc (Nat.le_refl _) _
  have hsz : w.heap.size < W.heap.size := by rw [hW]; simp
  have q0 : ∀ V, Below W.heap.size W V → V.cell? ⟨w.heap.size, 0, none⟩ = some (.int .u8 (k : Int)) := fun V hV => (hV.cell (p := ⟨w.heap.size, 0, none⟩) hsz).trans (by rw [hW]; exact box_cell _ _ _ _ _ rfl)
  have HW := Lib.hid hW
  have HB := Lib.hid hB
  unfold coA
  dsimp only
  clear e h1 h2 hW hB hsz
  go_enter Tryd.func10, Tryd.ntmps10
  go_wp2_with fail
  rw [← HW.out]
  refine (HI.out _ HB.out).mono ?_
  rintro e w1 ⟨rfl, b1⟩
  have q1 := q0 w1 b1
  have B1 := Lib.hid (HB.out.trans (b1.mono HB.out.size))
  clear b1 q0
  go_wp2
  go_ret
  exact ⟨rfl, B1.out⟩

set_option maxHeartbeats 1000000 in
theorem spelt_one (m : Nat) (hm : m < 100) (n : Nat) (hn : n < 4294967296) (w : World) (hV : Vars w) : Calls Tryd.prog 10 #[.int .i64 m, .agg #[.int .u8 1, .int .u32 n]] w fun e w' => e = .returned (.string (strL (colT m ⟨1, n⟩))) ∧ Below w.heap.size w w' := by
  have e : strL (colT m ⟨1, n⟩) = ⟨#[59]⟩ ++ strL (Lib.decDigits m) ++ ⟨#[58, 53, 58]⟩ ++ strL (Lib.decDigits n) := by
    apply ByteArray.ext
    simp [strL, colT, ByteArray.data_append]
  rw [e]
  have s1 := digits_ten (n := m) (by omega)
  have s2 := digits_ten (n := n) (by omega)
  rw [← str_size] at s1 s2
  have HI : Hid (∀ V, Below w.heap.size w V → Calls Tryd.prog 9 #[.int .i64 m] V fun e w' => e = .returned (.string (strL (Lib.decDigits m))) ∧ Below V.heap.size V w') := Lib.hid fun V hV2 => itoa_nat m (by omega) V (hV.below hV2)
  have HI2 : Hid (∀ V, Below w.heap.size w V → Calls Tryd.prog 9 #[.int .i64 n] V fun e w' => e = .returned (.string (strL (Lib.decDigits n))) ∧ Below V.heap.size V w') := Lib.hid fun V hV2 => itoa_nat n (by omega) V (hV.below hV2)
  generalize strL (Lib.decDigits m) = X at *
  generalize strL (Lib.decDigits n) = Y at *
  obtain ⟨W, hW⟩ : ∃ W, W = w.alloc (.cells #[.int .u8 1, .int .u32 (n : Int)] 25) := ⟨_, rfl⟩
  have hB : Below w.heap.size w W := by rw [hW]; exact (Below.refl _ _).alloc (Nat.le_refl _) _
  have hsz : w.heap.size < W.heap.size := by rw [hW]; simp
  have q0 : ∀ V, Below W.heap.size W V → V.cell? ⟨w.heap.size, 0, none⟩ = some (.int .u8 1) := fun V hV => (hV.cell (p := ⟨w.heap.size, 0, none⟩) hsz).trans (by rw [hW]; exact box_cell _ _ _ _ _ rfl)
  have q1 : ∀ V, Below W.heap.size W V → V.cell? ⟨w.heap.size, 1, none⟩ = some (.int .u32 (n : Int)) := fun V hV => (hV.cell (p := ⟨w.heap.size, 1, none⟩) hsz).trans (by rw [hW]; exact box_cell _ _ _ _ _ rfl)
  have HW := Lib.hid hW
  have HB := Lib.hid hB
  clear e hW hB hsz
  go_enter Tryd.func10, Tryd.ntmps10
  go_wp2_with fail
  rw [← HW.out]
  refine (HI.out _ HB.out).mono ?_
  rintro e w1 ⟨rfl, b1⟩
  have q2 := q0 w1 b1
  have q3 := q1 w1 b1
  have B1 := Lib.hid (HB.out.trans (b1.mono HB.out.size))
  clear b1 q0 q1 HI
  go_wp2_with fail
  refine (HI2.out _ B1.out).mono ?_
  rintro e w2 ⟨rfl, b2⟩
  have B2 := Lib.hid (B1.out.trans (b2.mono B1.out.size))
  clear b2
  go_wp2
  go_ret
  exact ⟨rfl, B2.out⟩

set_option maxHeartbeats 2000000 in
theorem spelt_two (m : Nat) (hm : m < 100) (n : Nat) (hn : n ≤ 16777215) (w : World) (hV : Vars w) : Calls Tryd.prog 10 #[.int .i64 m, .agg #[.int .u8 2, .int .u32 n]] w fun e w' => e = .returned (.string (strL (colT m ⟨2, n⟩))) ∧ Below w.heap.size w w' := by
  have e : strL (colT m ⟨2, n⟩) = ⟨#[59]⟩ ++ strL (Lib.decDigits m) ++ ⟨#[58, 50, 58, 58]⟩ ++ strL (Lib.decDigits (n / 65536)) ++ ⟨#[58]⟩ ++ strL (Lib.decDigits (n / 256 % 256)) ++ ⟨#[58]⟩ ++ strL (Lib.decDigits (n % 256)) := by
    apply ByteArray.ext
    simp [strL, colT, ByteArray.data_append]
  rw [e]
  have s1 := digits_ten (n := m) (by omega)
  have s2 := digits_ten (n := n / 65536) (by omega)
  have s3 := digits_ten (n := n / 256 % 256) (by omega)
  have s4 := digits_ten (n := n % 256) (by omega)
  rw [← str_size] at s1 s2 s3 s4
  have HI : Hid (∀ V, Below w.heap.size w V → Calls Tryd.prog 9 #[.int .i64 m] V fun e w' => e = .returned (.string (strL (Lib.decDigits m))) ∧ Below V.heap.size V w') := Lib.hid fun V hV2 => itoa_nat m (by omega) V (hV.below hV2)
  have D : ∀ k, k < 4294967296 → ∀ V, Below w.heap.size w V → Calls Tryd.prog 21 #[.int .u32 (k : Nat)] V fun e w' => e = .returned (.string (strL (Lib.decDigits (k % 256)))) ∧ Below V.heap.size V w' := fun k hk V hV2 => octet_any k hk V (hV.below hV2)
  have D2 := D (n / 65536) (by omega)
  have D3 := D (n / 256) (by omega)
  have D4 := D n (by omega)
  rw [show n / 65536 % 256 = n / 65536 from by omega, show ((n / 65536 : Nat) : Int) = (n : Int) / 65536 from by omega] at D2
  rw [show ((n / 256 : Nat) : Int) = (n : Int) / 256 from by omega] at D3
  generalize strL (Lib.decDigits m) = N at *
  generalize strL (Lib.decDigits (n / 65536)) = X at *
  generalize strL (Lib.decDigits (n / 256 % 256)) = Y at *
  generalize strL (Lib.decDigits (n % 256)) = Z at *
  obtain ⟨W, hW⟩ : ∃ W, W = w.alloc (.cells #[.int .u8 2, .int .u32 (n : Int)] 25) := ⟨_, rfl⟩
  have hB : Below w.heap.size w W := by rw [hW]; exact (Below.refl _ _).alloc (Nat.le_refl _) _
  have hsz : w.heap.size < W.heap.size := by rw [hW]; simp
  have q0 : ∀ V, Below W.heap.size W V → V.cell? ⟨w.heap.size, 0, none⟩ = some (.int .u8 2) := fun V hV => (hV.cell (p := ⟨w.heap.size, 0, none⟩) hsz).trans (by rw [hW]; exact box_cell _ _ _ _ _ rfl)
  have q1 : ∀ V, Below W.heap.size W V → V.cell? ⟨w.heap.size, 1, none⟩ = some (.int .u32 (n : Int)) := fun V hV => (hV.cell (p := ⟨w.heap.size, 1, none⟩) hsz).trans (by rw [hW]; exact box_cell _ _ _ _ _ rfl)
  have HW := Lib.hid hW
  have HB := Lib.hid hB
  clear e hW hB hsz D
  go_enter Tryd.func10, Tryd.ntmps10
  go_wp2_with fail
  rw [← HW.out]
  refine (HI.out _ HB.out).mono ?_
  rintro e w1 ⟨rfl, b1⟩
  have q2 := q0 w1 b1
  have q3 : ∀ V, Below w1.heap.size w1 V → V.cell? ⟨w.heap.size, 1, none⟩ = some (.int .u32 (n : Int)) := fun V hV => q1 V (b1.trans (hV.mono b1.size))
  have B1 := Lib.hid (HB.out.trans (b1.mono HB.out.size))
  have E2 : Hid (∀ V, Below w1.heap.size w1 V → Calls Tryd.prog 21 #[.int .u32 ((n : Int) / 65536)] V fun e w' => e = .returned (.string X) ∧ Below w1.heap.size w1 w') := Lib.hid fun V hV => (D2 V (B1.out.trans (hV.mono B1.out.size))).mono fun _ _ hh => ⟨hh.1, hV.trans (hh.2.mono hV.size)⟩
  have E3 : Hid (∀ V, Below w1.heap.size w1 V → Calls Tryd.prog 21 #[.int .u32 ((n : Int) / 256)] V fun e w' => e = .returned (.string Y) ∧ Below w1.heap.size w1 w') := Lib.hid fun V hV => (D3 V (B1.out.trans (hV.mono B1.out.size))).mono fun _ _ hh => ⟨hh.1, hV.trans (hh.2.mono hV.size)⟩
  have E4 : Hid (∀ V, Below w1.heap.size w1 V → Calls Tryd.prog 21 #[.int .u32 (n : Int)] V fun e w' => e = .returned (.string Z) ∧ Below w1.heap.size w1 w') := Lib.hid fun V hV => (D4 V (B1.out.trans (hV.mono B1.out.size))).mono fun _ _ hh => ⟨hh.1, hV.trans (hh.2.mono hV.size)⟩
  have k0 : Below w1.heap.size w1 w1.drew := below_drew (Below.refl _ _) 1
  have z1 : ¬ 9223372036854775807 < 1 + N.size := by omega
  have z2 : ¬ 9223372036854775807 < 1 + N.size + 4 := by omega
  have z3 : ¬ 9223372036854775807 < 1 + N.size + 4 + X.size := by omega
  have z4 : ¬ 9223372036854775807 < 1 + N.size + 4 + X.size + 1 := by omega
  have z5 : ¬ 9223372036854775807 < 1 + N.size + 4 + X.size + 1 + Y.size := by omega
  have z6 : ¬ 9223372036854775807 < 1 + N.size + 4 + X.size + 1 + Y.size + 1 := by omega
  have z7 : ¬ 9223372036854775807 < 1 + N.size + 4 + X.size + 1 + Y.size + 1 + Z.size := by omega
  clear b1 q0 q1 HI D2 D3 D4
  go_wp2_with fail
  go_region_held3 (fun V => Below w1.heap.size w1 V)
    (assumption)
    (first | (go_at_call 21; (with_reducible refine (E2.out _ (by assumption)).mono ?_); rintro e w2 ⟨rfl, j2⟩) | (go_at_call 21; (with_reducible refine (E3.out _ (by assumption)).mono ?_); rintro e w3 ⟨rfl, j3⟩) | (go_at_call 21; (with_reducible refine (E4.out _ (by assumption)).mono ?_); rintro e w4 ⟨rfl, j4⟩))
  go_wp2
  go_ret
  exact ⟨rfl, B1.out.trans (j4.mono B1.out.size)⟩
theorem spelt_any (m : Nat) (hm : m < 100) (c : Co) (hc : CoOk c) (hb : colB c = true) (w : World) (hV : Vars w) : Calls Tryd.prog 10 #[.int .i64 m, coA c] w fun e w' => e = .returned (.string (strL (colT m c))) ∧ Below w.heap.size w w' := by
  by_cases h1 : c.kind = 1
  · obtain ⟨k, n⟩ := c
    dsimp only at h1
    subst h1
    exact spelt_one m hm n hc.2 w hV
  by_cases h2 : c.kind = 2
  · obtain ⟨k, n⟩ := c
    dsimp only at h2
    subst h2
    refine spelt_two m hm n ?_ w hV
    unfold colB at hb
    dsimp only at hb
    rw [if_neg (by decide), if_neg (by decide), if_pos rfl] at hb
    exact of_decide_eq_true hb
  · exact spelt_none m hm c h1 h2 w hV
end Go.Proofs.YtkenaccnmmmooaaDoor.A10
