/- Layer 4: IdsKnown's walk. -/
import Derived.Test.YtbknfbobidgkkaaDoorIdE
namespace Go.Proofs.YtbknfbobidgkkaaDoor
open Go.RowKit Ids Lat

def t1 : List UInt8 := [112, 50, 46, 48, 46, 48, 55]
def t2 : List UInt8 := [112, 50, 46, 48]
def t3 : List UInt8 := [112, 50, 46, 48, 46, 55, 46, 49]
def t4 : List UInt8 := [112, 50, 49, 52, 55, 52, 56, 51, 54, 52, 55, 46, 48, 46, 48]
def t5 : List UInt8 := [112, 50, 49, 52, 55, 52, 56, 51, 54, 52, 56, 46, 48, 46, 48]
def t6 : List UInt8 := [112, 43, 49, 46, 48, 46, 48]
def t7 : List UInt8 := [113, 49, 46, 48, 46, 48]

theorem p1 : parseV t1 = none := by decide +kernel
theorem p2 : parseV t2 = none := by decide +kernel
theorem p3 : parseV t3 = none := by decide +kernel
theorem p4 : parseV t4 = some (2147483647, 0, 0) := by decide +kernel
theorem p5 : parseV t5 = none := by decide +kernel
theorem p6 : parseV t6 = none := by decide +kernel
theorem p7 : parseV t7 = none := by decide +kernel

theorem chain {w w1 w2 : World} {o : Obj} (h : Below w.heap.size w w1) (hb : Below (w1.alloc o).heap.size (w1.alloc o) w2) : Below w.heap.size w w2 :=
  (h.alloc h.size o).trans (hb.mono (by have := h.size; simp; omega))

set_option maxRecDepth 100000 in
set_option maxHeartbeats 3200000 in
theorem known_walk (w : World) (hV : Vars w) : Calls Tryd.prog 3 #[] w fun e w' => e = .returned (.bool true) ∧ Below w.heap.size w w' := by
  have HV := Lib.hid hV
  clear hV
  have hnot : ∀ (x : Bool) (w : World), (Op.unary .not (.bool x)).run Tryd.prog w = .ok (.bool (!x)) w := fun _ _ => rfl
  go_enter Tryd.func3, Tryd.ntmps3
  go_wp2_with fail
  refine (parse_no (l := t1) (by decide) p1 HV.out).mono ?_
  rintro e w1 ⟨rfl, hb⟩
  have B1 := Lib.hid hb
  clear hb
  go_wp2_with fail
  refine (parse_no (l := t2) (by decide) p2 (HV.out.below (B1.out.alloc B1.out.size _) (Nat.le_refl _))).mono ?_
  rintro e w2 ⟨rfl, hb⟩
  have B2 := Lib.hid (chain B1.out hb)
  clear hb B1
  go_wp2_with fail
  refine (parse_no (l := t3) (by decide) p3 (HV.out.below (B2.out.alloc B2.out.size _) (Nat.le_refl _))).mono ?_
  rintro e w3 ⟨rfl, hb⟩
  have B3 := Lib.hid (chain B2.out hb)
  clear hb B2
  go_wp2_with fail
  refine (parse_some (l := t4) (by decide) p4 (HV.out.below (B3.out.alloc B3.out.size _) (Nat.le_refl _))).mono ?_
  rintro e w4 ⟨rfl, hb⟩
  have B4 := Lib.hid (chain B3.out hb)
  clear hb B3
  have KC : Hid (∀ w', Below (w4.alloc (.cells #[.int .i64 2147483647, .int .i64 0, .int .i64 0] 23)).heap.size (w4.alloc (.cells #[.int .i64 2147483647, .int .i64 0, .int .i64 0] 23)) w' → w'.cell? ⟨w4.heap.size, 0, none⟩ = some (.int .i64 2147483647)) :=
    Lib.hid fun w' hb => by rw [hb.cell (by simp)]; simp
  have W4 : Hid (w.heap.size ≤ w4.heap.size) := Lib.hid B4.out.size
  have B5 : Hid (Below w.heap.size w (w4.alloc (.cells #[.int .i64 2147483647, .int .i64 0, .int .i64 0] 23))) := Lib.hid (B4.out.alloc B4.out.size _)
  have hal : ∃ wa, wa = w4.alloc (.cells #[.int .i64 2147483647, .int .i64 0, .int .i64 0] 23) := ⟨_, rfl⟩
  obtain ⟨wa, hwa⟩ := hal
  go_wp2_with fail
  rw [← hwa] at KC B5 ⊢
  have HWA := Lib.hid hwa
  clear hwa
  refine (parse_no (l := t5) (by decide) p5 (HV.out.below B5.out (Nat.le_refl _))).mono ?_
  rintro e w5 ⟨rfl, hb⟩
  have C5 := Lib.hid hb
  clear hb
  go_wp2_with fail
  refine (words_no 0 0 2147483648 _ (by decide)).mono ?_
  rintro e w6 ⟨rfl, hb⟩
  have C6 := Lib.hid (chain C5.out hb)
  clear hb C5
  go_wp2_with fail
  refine (words_no 0 (-1) 0 _ (by decide)).mono ?_
  rintro e w7 ⟨rfl, hb⟩
  have C7 := Lib.hid (C6.out.trans (hb.mono C6.out.size))
  clear hb C6
  go_wp2_with fail
  refine (parse_no (l := t6) (by decide) p6 (HV.out.below (B5.out.trans (C7.out.mono B5.out.size)) (Nat.le_refl _))).mono ?_
  rintro e w8 ⟨rfl, hb⟩
  have C8 := Lib.hid (C7.out.trans (hb.mono C7.out.size))
  clear hb C7
  go_wp2_with fail
  refine (parse_no (l := t7) (by decide) p7 (HV.out.below (B5.out.trans ((C8.out.alloc C8.out.size _).mono B5.out.size)) (Nat.le_refl _))).mono ?_
  rintro e w9 ⟨rfl, hb⟩
  have C9 := Lib.hid (chain C8.out hb)
  clear hb C8
  go_wp2_with fail
  refine (awake_any _ (HV.out.below (B5.out.trans ((C9.out.alloc C9.out.size _).mono B5.out.size)) (Nat.le_refl _))).mono ?_
  rintro e w10 ⟨rfl, hb⟩
  have C10 := Lib.hid (chain C9.out hb)
  clear hb C9
  have c0 := KC.out _ C10.out
  go_wp2
  go_ret
  exact ⟨rfl, B5.out.trans (C10.out.mono B5.out.size)⟩

end Go.Proofs.YtbknfbobidgkkaaDoor
