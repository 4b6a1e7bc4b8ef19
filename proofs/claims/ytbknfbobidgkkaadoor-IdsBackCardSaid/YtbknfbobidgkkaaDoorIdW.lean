/- Layer 4: IdsBack's walk, case by case. Written by wip/gen_back.py. -/
import Derived.Test.YtbknfbobidgkkaaDoorIdE
import Derived.WalkLawsBesides
namespace Go.Proofs.YtbknfbobidgkkaaDoor
open Go.RowKit Ids Lat

/-- Words of a name, in letters. -/
def WordsIs (a b c : Int) (t : ByteArray) (ok : Bool) : Prop := ∀ w : World, Vars w → Calls Tryd.prog 10 #[.agg #[.int .i64 a, .int .i64 b, .int .i64 c]] w fun e w' => e = .returned (.tuple #[.string t, .bool ok]) ∧ Below w.heap.size w w'
/-- Parse of a text, in letters. -/
def ParseIs (t : ByteArray) (x y z : Int) (ok : Bool) : Prop := ∀ w : World, Vars w → Calls Tryd.prog 9 #[.string t] w fun e w' => e = .returned (.tuple #[.agg #[.int .i64 x, .int .i64 y, .int .i64 z], .bool ok]) ∧ Below w.heap.size w w'
/-- A text that is no name's, or a name and its words. -/
def TextIs (s : ByteArray) : Prop := ParseIs s 0 0 0 false ∨ ∃ x y z, ParseIs s x y z true ∧ WordsIs x y z s true

theorem beq_same (t : ByteArray) : (t.toList == t.toList) = true := by simp

/-- Two names boxed, one behind the other. -/
structure Boxed (w wb : World) (g1 g2 : Nat) (a b c a' b' c' : Int) : Prop where
  old : Below w.heap.size w wb
  c0 : wb.cell? ⟨g1, 0, none⟩ = some (.int .i64 a)
  c1 : wb.cell? ⟨g1, 1, none⟩ = some (.int .i64 b)
  c2 : wb.cell? ⟨g1, 2, none⟩ = some (.int .i64 c)
  d0 : wb.cell? ⟨g2, 0, none⟩ = some (.int .i64 a')
  d1 : wb.cell? ⟨g2, 1, none⟩ = some (.int .i64 b')
  d2 : wb.cell? ⟨g2, 2, none⟩ = some (.int .i64 c')
  l1 : g1 < wb.heap.size
  l2 : g2 < wb.heap.size

theorem Boxed.keep {w wb w' : World} {g1 g2 : Nat} {a b c a' b' c' : Int} (h : Boxed w wb g1 g2 a b c a' b' c') (hb : Below wb.heap.size wb w') : Boxed w w' g1 g2 a b c a' b' c' :=
  ⟨h.old.trans (hb.mono h.old.size), (hb.cell (p := ⟨g1, 0, none⟩) h.l1).trans h.c0, (hb.cell (p := ⟨g1, 1, none⟩) h.l1).trans h.c1, (hb.cell (p := ⟨g1, 2, none⟩) h.l1).trans h.c2, (hb.cell (p := ⟨g2, 0, none⟩) h.l2).trans h.d0, (hb.cell (p := ⟨g2, 1, none⟩) h.l2).trans h.d1, (hb.cell (p := ⟨g2, 2, none⟩) h.l2).trans h.d2, Nat.lt_of_lt_of_le h.l1 hb.size, Nat.lt_of_lt_of_le h.l2 hb.size⟩
theorem Boxed.alloc {w wb : World} {g1 g2 : Nat} {a b c a' b' c' : Int} (h : Boxed w wb g1 g2 a b c a' b' c') (o : Obj) : Boxed w (wb.alloc o) g1 g2 a b c a' b' c' := h.keep ((Below.refl _ _).alloc (Nat.le_refl _) _)

theorem boxed_start (w : World) (a b c a' b' c' : Int) : Boxed w ((w.alloc (.cells #[.int .i64 a, .int .i64 b, .int .i64 c] 23)).alloc (.cells #[.int .i64 a', .int .i64 b', .int .i64 c'] 23)) w.heap.size (w.heap.size + 1) a b c a' b' c' := by
  refine ⟨((Below.refl _ w).alloc (Nat.le_refl _) _).alloc (by simp) _, ?_, ?_, ?_, ?_, ?_, ?_, by simp; omega, by simp⟩
  · rw [World.cell?_alloc_lt _ _ _ (by simp)]; simp
  · rw [World.cell?_alloc_lt _ _ _ (by simp)]; simp
  · rw [World.cell?_alloc_lt _ _ _ (by simp)]; simp
  · simp
  · simp
  · simp

set_option maxRecDepth 100000 in
set_option maxHeartbeats 4000000 in
theorem back_A (a b c a' b' c' : Int) (t2 : ByteArray) (ok2 : Bool) (s : ByteArray) (w : World) (hs : s.size ≤ 2000) (hV : Vars w) (P1 : WordsIs a b c ⟨#[]⟩ false) (P2 : WordsIs a' b' c' t2 ok2) (P3 : ParseIs ⟨#[]⟩ 0 0 0 false) (PT : TextIs s) :
    Calls Tryd.prog 7 #[.agg #[.int .i64 a, .int .i64 b, .int .i64 c], .agg #[.int .i64 a', .int .i64 b', .int .i64 c'], .string s] w fun e w' => e = .returned (.bool true) ∧ Below w.heap.size w w' := by
  have hb0 := boxed_start w a b c a' b' c'
  obtain ⟨wb, hwb⟩ : ∃ wb, wb = (w.alloc (.cells #[.int .i64 a, .int .i64 b, .int .i64 c] 23)).alloc (.cells #[.int .i64 a', .int .i64 b', .int .i64 c'] 23) := ⟨_, rfl⟩
  rw [← hwb] at hb0
  obtain ⟨g1, hg1⟩ : ∃ g1, g1 = w.heap.size := ⟨_, rfl⟩
  obtain ⟨g2, hg2⟩ : ∃ g2, g2 = w.heap.size + 1 := ⟨_, rfl⟩
  rw [← hg2, ← hg1] at hb0
  have HX := Lib.hid hb0
  have HV := Lib.hid hV
  have K1 := Lib.hid P1
  have K2 := Lib.hid P2
  have K3 := Lib.hid P3
  have KT := Lib.hid PT
  have h1 : decide ((2000 : Int) < s.size) = false := by simp; omega
  have HW := Lib.hid hwb
  have HG1 := Lib.hid hg1
  have HG2 := Lib.hid hg2
  have hnot : ∀ (x : Bool) (w : World), (Op.unary .not (.bool x)).run Tryd.prog w = .ok (.bool (!x)) w := fun _ _ => rfl
  clear hb0 hwb hg1 hg2 hV P1 P2 P3 PT
  go_enter Tryd.func7, Tryd.ntmps7
  go_wp2_with fail
  rw [← HG2.out, ← HG1.out, ← HW.out]
  refine (awake_any _ (HV.out.below HX.out.old (Nat.le_refl _))).mono ?_
  rintro e w1 ⟨rfl, hb⟩
  have X1 := Lib.hid (HX.out.keep hb)
  clear hb HX HW HG1 HG2
  have c0 := X1.out.c0; have c1 := X1.out.c1; have c2 := X1.out.c2
  go_wp2_with fail
  refine (K1.out _ (HV.out.below X1.out.old (Nat.le_refl _))).mono ?_
  rintro e w2 ⟨rfl, hb⟩
  have X2 := Lib.hid (X1.out.keep hb)
  clear hb X1 c0 c1 c2
  have d0 := X2.out.d0; have d1 := X2.out.d1; have d2 := X2.out.d2
  go_wp2_with fail
  refine (K2.out _ (HV.out.below X2.out.old (Nat.le_refl _))).mono ?_
  rintro e w3 ⟨rfl, hb⟩
  have X3 := Lib.hid (X2.out.keep hb)
  clear hb X2 d0 d1 d2
  go_wp2_with fail
  refine (K3.out _ (HV.out.below X3.out.old (Nat.le_refl _))).mono ?_
  rintro e w4 ⟨rfl, hb⟩
  have X4 := Lib.hid ((X3.out.keep hb).alloc (.cells #[.int .i64 0, .int .i64 0, .int .i64 0] 23))
  clear hb X3
  have c0 := X4.out.c0; have c1 := X4.out.c1; have c2 := X4.out.c2
  have d0 := X4.out.d0; have d1 := X4.out.d1; have d2 := X4.out.d2
  rcases KT.out with hN | ⟨x, y, z, hS, hT⟩
  · have KN := Lib.hid hN
    clear hN KT
    go_wp2_with fail
    refine (KN.out _ (HV.out.below X4.out.old (Nat.le_refl _))).mono ?_
    rintro e w5 ⟨rfl, hb⟩
    have X5 := Lib.hid (X4.out.keep hb)
    clear hb X4 c0 c1 c2 d0 d1 d2
    go_wp2
    go_ret
    exact ⟨rfl, X5.out.old.alloc X5.out.old.size _⟩
  · have KN := Lib.hid hS
    have KM := Lib.hid hT
    clear hS hT KT
    go_wp2_with fail
    refine (KN.out _ (HV.out.below X4.out.old (Nat.le_refl _))).mono ?_
    rintro e w5 ⟨rfl, hb⟩
    have X5 := Lib.hid ((X4.out.keep hb).alloc (.cells #[.int .i64 x, .int .i64 y, .int .i64 z] 23))
    clear hb X4 c0 c1 c2 d0 d1 d2
    go_wp2_with fail
    refine (KM.out _ (HV.out.below X5.out.old (Nat.le_refl _))).mono ?_
    rintro e w6 ⟨rfl, hb⟩
    have X6 := Lib.hid (X5.out.keep hb)
    clear hb X5
    go_wp2
    go_ret
    exact ⟨rfl, X6.out.old⟩

set_option maxRecDepth 100000 in
set_option maxHeartbeats 4000000 in
theorem back_B (a b c a' b' c' : Int) (t1 t2 : ByteArray) (s : ByteArray) (w : World) (hs : s.size ≤ 2000) (hV : Vars w) (P1 : WordsIs a b c t1 true) (P2 : WordsIs a' b' c' t2 false) (P3 : ParseIs t1 a b c true) (PT : TextIs s) :
    Calls Tryd.prog 7 #[.agg #[.int .i64 a, .int .i64 b, .int .i64 c], .agg #[.int .i64 a', .int .i64 b', .int .i64 c'], .string s] w fun e w' => e = .returned (.bool true) ∧ Below w.heap.size w w' := by
  have hb0 := boxed_start w a b c a' b' c'
  obtain ⟨wb, hwb⟩ : ∃ wb, wb = (w.alloc (.cells #[.int .i64 a, .int .i64 b, .int .i64 c] 23)).alloc (.cells #[.int .i64 a', .int .i64 b', .int .i64 c'] 23) := ⟨_, rfl⟩
  rw [← hwb] at hb0
  obtain ⟨g1, hg1⟩ : ∃ g1, g1 = w.heap.size := ⟨_, rfl⟩
  obtain ⟨g2, hg2⟩ : ∃ g2, g2 = w.heap.size + 1 := ⟨_, rfl⟩
  rw [← hg2, ← hg1] at hb0
  have HX := Lib.hid hb0
  have HV := Lib.hid hV
  have K1 := Lib.hid P1
  have K2 := Lib.hid P2
  have K3 := Lib.hid P3
  have KT := Lib.hid PT
  have h1 : decide ((2000 : Int) < s.size) = false := by simp; omega
  have HW := Lib.hid hwb
  have HG1 := Lib.hid hg1
  have HG2 := Lib.hid hg2
  have hnot : ∀ (x : Bool) (w : World), (Op.unary .not (.bool x)).run Tryd.prog w = .ok (.bool (!x)) w := fun _ _ => rfl
  clear hb0 hwb hg1 hg2 hV P1 P2 P3 PT
  go_enter Tryd.func7, Tryd.ntmps7
  go_wp2_with fail
  rw [← HG2.out, ← HG1.out, ← HW.out]
  refine (awake_any _ (HV.out.below HX.out.old (Nat.le_refl _))).mono ?_
  rintro e w1 ⟨rfl, hb⟩
  have X1 := Lib.hid (HX.out.keep hb)
  clear hb HX HW HG1 HG2
  have c0 := X1.out.c0; have c1 := X1.out.c1; have c2 := X1.out.c2
  go_wp2_with fail
  refine (K1.out _ (HV.out.below X1.out.old (Nat.le_refl _))).mono ?_
  rintro e w2 ⟨rfl, hb⟩
  have X2 := Lib.hid (X1.out.keep hb)
  clear hb X1 c0 c1 c2
  have d0 := X2.out.d0; have d1 := X2.out.d1; have d2 := X2.out.d2
  go_wp2_with fail
  refine (K2.out _ (HV.out.below X2.out.old (Nat.le_refl _))).mono ?_
  rintro e w3 ⟨rfl, hb⟩
  have X3 := Lib.hid (X2.out.keep hb)
  clear hb X2 d0 d1 d2
  go_wp2_with fail
  refine (K3.out _ (HV.out.below X3.out.old (Nat.le_refl _))).mono ?_
  rintro e w4 ⟨rfl, hb⟩
  have X4 := Lib.hid ((X3.out.keep hb).alloc (.cells #[.int .i64 a, .int .i64 b, .int .i64 c] 23))
  clear hb X3
  have c0 := X4.out.c0; have c1 := X4.out.c1; have c2 := X4.out.c2
  have d0 := X4.out.d0; have d1 := X4.out.d1; have d2 := X4.out.d2
  rcases KT.out with hN | ⟨x, y, z, hS, hT⟩
  · have KN := Lib.hid hN
    clear hN KT
    go_wp2_with fail
    refine (KN.out _ (HV.out.below X4.out.old (Nat.le_refl _))).mono ?_
    rintro e w5 ⟨rfl, hb⟩
    have X5 := Lib.hid (X4.out.keep hb)
    clear hb X4 c0 c1 c2 d0 d1 d2
    go_wp2
    go_ret
    exact ⟨rfl, X5.out.old.alloc X5.out.old.size _⟩
  · have KN := Lib.hid hS
    have KM := Lib.hid hT
    clear hS hT KT
    go_wp2_with fail
    refine (KN.out _ (HV.out.below X4.out.old (Nat.le_refl _))).mono ?_
    rintro e w5 ⟨rfl, hb⟩
    have X5 := Lib.hid ((X4.out.keep hb).alloc (.cells #[.int .i64 x, .int .i64 y, .int .i64 z] 23))
    clear hb X4 c0 c1 c2 d0 d1 d2
    go_wp2_with fail
    refine (KM.out _ (HV.out.below X5.out.old (Nat.le_refl _))).mono ?_
    rintro e w6 ⟨rfl, hb⟩
    have X6 := Lib.hid (X5.out.keep hb)
    clear hb X5
    go_wp2
    go_ret
    exact ⟨rfl, X6.out.old⟩

set_option maxRecDepth 100000 in
set_option maxHeartbeats 4000000 in
theorem back_C (a b c : Int) (t1 : ByteArray) (s : ByteArray) (w : World) (hs : s.size ≤ 2000) (hV : Vars w) (P1 : WordsIs a b c t1 true) (P2 : WordsIs a b c t1 true) (P3 : ParseIs t1 a b c true) (PT : TextIs s) :
    Calls Tryd.prog 7 #[.agg #[.int .i64 a, .int .i64 b, .int .i64 c], .agg #[.int .i64 a, .int .i64 b, .int .i64 c], .string s] w fun e w' => e = .returned (.bool true) ∧ Below w.heap.size w w' := by
  have hb0 := boxed_start w a b c a b c
  obtain ⟨wb, hwb⟩ : ∃ wb, wb = (w.alloc (.cells #[.int .i64 a, .int .i64 b, .int .i64 c] 23)).alloc (.cells #[.int .i64 a, .int .i64 b, .int .i64 c] 23) := ⟨_, rfl⟩
  rw [← hwb] at hb0
  obtain ⟨g1, hg1⟩ : ∃ g1, g1 = w.heap.size := ⟨_, rfl⟩
  obtain ⟨g2, hg2⟩ : ∃ g2, g2 = w.heap.size + 1 := ⟨_, rfl⟩
  rw [← hg2, ← hg1] at hb0
  have HX := Lib.hid hb0
  have HV := Lib.hid hV
  have K1 := Lib.hid P1
  have K2 := Lib.hid P2
  have K3 := Lib.hid P3
  have KT := Lib.hid PT
  have h1 : decide ((2000 : Int) < s.size) = false := by simp; omega
  have HW := Lib.hid hwb
  have HG1 := Lib.hid hg1
  have HG2 := Lib.hid hg2
  have hnot : ∀ (x : Bool) (w : World), (Op.unary .not (.bool x)).run Tryd.prog w = .ok (.bool (!x)) w := fun _ _ => rfl
  clear hb0 hwb hg1 hg2 hV P1 P2 P3 PT
  go_enter Tryd.func7, Tryd.ntmps7
  go_wp2_with fail
  rw [← HG2.out, ← HG1.out, ← HW.out]
  refine (awake_any _ (HV.out.below HX.out.old (Nat.le_refl _))).mono ?_
  rintro e w1 ⟨rfl, hb⟩
  have X1 := Lib.hid (HX.out.keep hb)
  clear hb HX HW HG1 HG2
  have c0 := X1.out.c0; have c1 := X1.out.c1; have c2 := X1.out.c2
  go_wp2_with fail
  refine (K1.out _ (HV.out.below X1.out.old (Nat.le_refl _))).mono ?_
  rintro e w2 ⟨rfl, hb⟩
  have X2 := Lib.hid (X1.out.keep hb)
  clear hb X1 c0 c1 c2
  have d0 := X2.out.d0; have d1 := X2.out.d1; have d2 := X2.out.d2
  go_wp2_with fail
  refine (K2.out _ (HV.out.below X2.out.old (Nat.le_refl _))).mono ?_
  rintro e w3 ⟨rfl, hb⟩
  have X3 := Lib.hid (X2.out.keep hb)
  clear hb X2 d0 d1 d2
  go_wp2_with fail
  refine (K3.out _ (HV.out.below X3.out.old (Nat.le_refl _))).mono ?_
  rintro e w4 ⟨rfl, hb⟩
  have X4 := Lib.hid ((X3.out.keep hb).alloc (.cells #[.int .i64 a, .int .i64 b, .int .i64 c] 23))
  clear hb X3
  have c0 := X4.out.c0; have c1 := X4.out.c1; have c2 := X4.out.c2
  have d0 := X4.out.d0; have d1 := X4.out.d1; have d2 := X4.out.d2
  rcases KT.out with hN | ⟨x, y, z, hS, hT⟩
  · have KN := Lib.hid hN
    clear hN KT
    go_wp2_with fail
    refine (KN.out _ (HV.out.below X4.out.old (Nat.le_refl _))).mono ?_
    rintro e w5 ⟨rfl, hb⟩
    have X5 := Lib.hid (X4.out.keep hb)
    clear hb X4 c0 c1 c2 d0 d1 d2
    go_wp2
    go_ret
    exact ⟨rfl, X5.out.old.alloc X5.out.old.size _⟩
  · have KN := Lib.hid hS
    have KM := Lib.hid hT
    clear hS hT KT
    go_wp2_with fail
    refine (KN.out _ (HV.out.below X4.out.old (Nat.le_refl _))).mono ?_
    rintro e w5 ⟨rfl, hb⟩
    have X5 := Lib.hid ((X4.out.keep hb).alloc (.cells #[.int .i64 x, .int .i64 y, .int .i64 z] 23))
    clear hb X4 c0 c1 c2 d0 d1 d2
    go_wp2_with fail
    refine (KM.out _ (HV.out.below X5.out.old (Nat.le_refl _))).mono ?_
    rintro e w6 ⟨rfl, hb⟩
    have X6 := Lib.hid (X5.out.keep hb)
    clear hb X5
    go_wp2
    go_ret
    exact ⟨rfl, X6.out.old⟩

set_option maxRecDepth 100000 in
set_option maxHeartbeats 4000000 in
theorem back_D1 (a b c a' b' c' : Int) (t1 t2 : ByteArray) (s : ByteArray) (w : World) (hs : s.size ≤ 2000) (hV : Vars w) (P1 : WordsIs a b c t1 true) (P2 : WordsIs a' b' c' t2 true) (P3 : ParseIs t1 a b c true) (PT : TextIs s) (hne : (t1.toList == t2.toList) = false) (h0 : (a == a') = false) :
    Calls Tryd.prog 7 #[.agg #[.int .i64 a, .int .i64 b, .int .i64 c], .agg #[.int .i64 a', .int .i64 b', .int .i64 c'], .string s] w fun e w' => e = .returned (.bool true) ∧ Below w.heap.size w w' := by
  have hb0 := boxed_start w a b c a' b' c'
  obtain ⟨wb, hwb⟩ : ∃ wb, wb = (w.alloc (.cells #[.int .i64 a, .int .i64 b, .int .i64 c] 23)).alloc (.cells #[.int .i64 a', .int .i64 b', .int .i64 c'] 23) := ⟨_, rfl⟩
  rw [← hwb] at hb0
  obtain ⟨g1, hg1⟩ : ∃ g1, g1 = w.heap.size := ⟨_, rfl⟩
  obtain ⟨g2, hg2⟩ : ∃ g2, g2 = w.heap.size + 1 := ⟨_, rfl⟩
  rw [← hg2, ← hg1] at hb0
  have HX := Lib.hid hb0
  have HV := Lib.hid hV
  have K1 := Lib.hid P1
  have K2 := Lib.hid P2
  have K3 := Lib.hid P3
  have KT := Lib.hid PT
  have h1 : decide ((2000 : Int) < s.size) = false := by simp; omega
  have HW := Lib.hid hwb
  have HG1 := Lib.hid hg1
  have HG2 := Lib.hid hg2
  have hnot : ∀ (x : Bool) (w : World), (Op.unary .not (.bool x)).run Tryd.prog w = .ok (.bool (!x)) w := fun _ _ => rfl
  clear hb0 hwb hg1 hg2 hV P1 P2 P3 PT
  go_enter Tryd.func7, Tryd.ntmps7
  go_wp2_with fail
  rw [← HG2.out, ← HG1.out, ← HW.out]
  refine (awake_any _ (HV.out.below HX.out.old (Nat.le_refl _))).mono ?_
  rintro e w1 ⟨rfl, hb⟩
  have X1 := Lib.hid (HX.out.keep hb)
  clear hb HX HW HG1 HG2
  have c0 := X1.out.c0; have c1 := X1.out.c1; have c2 := X1.out.c2
  go_wp2_with fail
  refine (K1.out _ (HV.out.below X1.out.old (Nat.le_refl _))).mono ?_
  rintro e w2 ⟨rfl, hb⟩
  have X2 := Lib.hid (X1.out.keep hb)
  clear hb X1 c0 c1 c2
  have d0 := X2.out.d0; have d1 := X2.out.d1; have d2 := X2.out.d2
  go_wp2_with fail
  refine (K2.out _ (HV.out.below X2.out.old (Nat.le_refl _))).mono ?_
  rintro e w3 ⟨rfl, hb⟩
  have X3 := Lib.hid (X2.out.keep hb)
  clear hb X2 d0 d1 d2
  go_wp2_with fail
  refine (K3.out _ (HV.out.below X3.out.old (Nat.le_refl _))).mono ?_
  rintro e w4 ⟨rfl, hb⟩
  have X4 := Lib.hid ((X3.out.keep hb).alloc (.cells #[.int .i64 a, .int .i64 b, .int .i64 c] 23))
  clear hb X3
  have c0 := X4.out.c0; have c1 := X4.out.c1; have c2 := X4.out.c2
  have d0 := X4.out.d0; have d1 := X4.out.d1; have d2 := X4.out.d2
  rcases KT.out with hN | ⟨x, y, z, hS, hT⟩
  · have KN := Lib.hid hN
    clear hN KT
    go_wp2_with fail
    refine (KN.out _ (HV.out.below X4.out.old (Nat.le_refl _))).mono ?_
    rintro e w5 ⟨rfl, hb⟩
    have X5 := Lib.hid (X4.out.keep hb)
    clear hb X4 c0 c1 c2 d0 d1 d2
    go_wp2
    go_ret
    exact ⟨rfl, X5.out.old.alloc X5.out.old.size _⟩
  · have KN := Lib.hid hS
    have KM := Lib.hid hT
    clear hS hT KT
    go_wp2_with fail
    refine (KN.out _ (HV.out.below X4.out.old (Nat.le_refl _))).mono ?_
    rintro e w5 ⟨rfl, hb⟩
    have X5 := Lib.hid ((X4.out.keep hb).alloc (.cells #[.int .i64 x, .int .i64 y, .int .i64 z] 23))
    clear hb X4 c0 c1 c2 d0 d1 d2
    go_wp2_with fail
    refine (KM.out _ (HV.out.below X5.out.old (Nat.le_refl _))).mono ?_
    rintro e w6 ⟨rfl, hb⟩
    have X6 := Lib.hid (X5.out.keep hb)
    clear hb X5
    go_wp2
    go_ret
    exact ⟨rfl, X6.out.old⟩

set_option maxRecDepth 100000 in
set_option maxHeartbeats 4000000 in
theorem back_D2 (a b c b' c' : Int) (t1 t2 : ByteArray) (s : ByteArray) (w : World) (hs : s.size ≤ 2000) (hV : Vars w) (P1 : WordsIs a b c t1 true) (P2 : WordsIs a b' c' t2 true) (P3 : ParseIs t1 a b c true) (PT : TextIs s) (hne : (t1.toList == t2.toList) = false) (h0 : (b == b') = false) :
    Calls Tryd.prog 7 #[.agg #[.int .i64 a, .int .i64 b, .int .i64 c], .agg #[.int .i64 a, .int .i64 b', .int .i64 c'], .string s] w fun e w' => e = .returned (.bool true) ∧ Below w.heap.size w w' := by
  have hb0 := boxed_start w a b c a b' c'
  obtain ⟨wb, hwb⟩ : ∃ wb, wb = (w.alloc (.cells #[.int .i64 a, .int .i64 b, .int .i64 c] 23)).alloc (.cells #[.int .i64 a, .int .i64 b', .int .i64 c'] 23) := ⟨_, rfl⟩
  rw [← hwb] at hb0
  obtain ⟨g1, hg1⟩ : ∃ g1, g1 = w.heap.size := ⟨_, rfl⟩
  obtain ⟨g2, hg2⟩ : ∃ g2, g2 = w.heap.size + 1 := ⟨_, rfl⟩
  rw [← hg2, ← hg1] at hb0
  have HX := Lib.hid hb0
  have HV := Lib.hid hV
  have K1 := Lib.hid P1
  have K2 := Lib.hid P2
  have K3 := Lib.hid P3
  have KT := Lib.hid PT
  have h1 : decide ((2000 : Int) < s.size) = false := by simp; omega
  have HW := Lib.hid hwb
  have HG1 := Lib.hid hg1
  have HG2 := Lib.hid hg2
  have hnot : ∀ (x : Bool) (w : World), (Op.unary .not (.bool x)).run Tryd.prog w = .ok (.bool (!x)) w := fun _ _ => rfl
  clear hb0 hwb hg1 hg2 hV P1 P2 P3 PT
  go_enter Tryd.func7, Tryd.ntmps7
  go_wp2_with fail
  rw [← HG2.out, ← HG1.out, ← HW.out]
  refine (awake_any _ (HV.out.below HX.out.old (Nat.le_refl _))).mono ?_
  rintro e w1 ⟨rfl, hb⟩
  have X1 := Lib.hid (HX.out.keep hb)
  clear hb HX HW HG1 HG2
  have c0 := X1.out.c0; have c1 := X1.out.c1; have c2 := X1.out.c2
  go_wp2_with fail
  refine (K1.out _ (HV.out.below X1.out.old (Nat.le_refl _))).mono ?_
  rintro e w2 ⟨rfl, hb⟩
  have X2 := Lib.hid (X1.out.keep hb)
  clear hb X1 c0 c1 c2
  have d0 := X2.out.d0; have d1 := X2.out.d1; have d2 := X2.out.d2
  go_wp2_with fail
  refine (K2.out _ (HV.out.below X2.out.old (Nat.le_refl _))).mono ?_
  rintro e w3 ⟨rfl, hb⟩
  have X3 := Lib.hid (X2.out.keep hb)
  clear hb X2 d0 d1 d2
  go_wp2_with fail
  refine (K3.out _ (HV.out.below X3.out.old (Nat.le_refl _))).mono ?_
  rintro e w4 ⟨rfl, hb⟩
  have X4 := Lib.hid ((X3.out.keep hb).alloc (.cells #[.int .i64 a, .int .i64 b, .int .i64 c] 23))
  clear hb X3
  have c0 := X4.out.c0; have c1 := X4.out.c1; have c2 := X4.out.c2
  have d0 := X4.out.d0; have d1 := X4.out.d1; have d2 := X4.out.d2
  rcases KT.out with hN | ⟨x, y, z, hS, hT⟩
  · have KN := Lib.hid hN
    clear hN KT
    go_wp2_with fail
    refine (KN.out _ (HV.out.below X4.out.old (Nat.le_refl _))).mono ?_
    rintro e w5 ⟨rfl, hb⟩
    have X5 := Lib.hid (X4.out.keep hb)
    clear hb X4 c0 c1 c2 d0 d1 d2
    go_wp2
    go_ret
    exact ⟨rfl, X5.out.old.alloc X5.out.old.size _⟩
  · have KN := Lib.hid hS
    have KM := Lib.hid hT
    clear hS hT KT
    go_wp2_with fail
    refine (KN.out _ (HV.out.below X4.out.old (Nat.le_refl _))).mono ?_
    rintro e w5 ⟨rfl, hb⟩
    have X5 := Lib.hid ((X4.out.keep hb).alloc (.cells #[.int .i64 x, .int .i64 y, .int .i64 z] 23))
    clear hb X4 c0 c1 c2 d0 d1 d2
    go_wp2_with fail
    refine (KM.out _ (HV.out.below X5.out.old (Nat.le_refl _))).mono ?_
    rintro e w6 ⟨rfl, hb⟩
    have X6 := Lib.hid (X5.out.keep hb)
    clear hb X5
    go_wp2
    go_ret
    exact ⟨rfl, X6.out.old⟩

set_option maxRecDepth 100000 in
set_option maxHeartbeats 4000000 in
theorem back_D3 (a b c c' : Int) (t1 t2 : ByteArray) (s : ByteArray) (w : World) (hs : s.size ≤ 2000) (hV : Vars w) (P1 : WordsIs a b c t1 true) (P2 : WordsIs a b c' t2 true) (P3 : ParseIs t1 a b c true) (PT : TextIs s) (hne : (t1.toList == t2.toList) = false) (h0 : (c == c') = false) :
    Calls Tryd.prog 7 #[.agg #[.int .i64 a, .int .i64 b, .int .i64 c], .agg #[.int .i64 a, .int .i64 b, .int .i64 c'], .string s] w fun e w' => e = .returned (.bool true) ∧ Below w.heap.size w w' := by
  have hb0 := boxed_start w a b c a b c'
  obtain ⟨wb, hwb⟩ : ∃ wb, wb = (w.alloc (.cells #[.int .i64 a, .int .i64 b, .int .i64 c] 23)).alloc (.cells #[.int .i64 a, .int .i64 b, .int .i64 c'] 23) := ⟨_, rfl⟩
  rw [← hwb] at hb0
  obtain ⟨g1, hg1⟩ : ∃ g1, g1 = w.heap.size := ⟨_, rfl⟩
  obtain ⟨g2, hg2⟩ : ∃ g2, g2 = w.heap.size + 1 := ⟨_, rfl⟩
  rw [← hg2, ← hg1] at hb0
  have HX := Lib.hid hb0
  have HV := Lib.hid hV
  have K1 := Lib.hid P1
  have K2 := Lib.hid P2
  have K3 := Lib.hid P3
  have KT := Lib.hid PT
  have h1 : decide ((2000 : Int) < s.size) = false := by simp; omega
  have HW := Lib.hid hwb
  have HG1 := Lib.hid hg1
  have HG2 := Lib.hid hg2
  have hnot : ∀ (x : Bool) (w : World), (Op.unary .not (.bool x)).run Tryd.prog w = .ok (.bool (!x)) w := fun _ _ => rfl
  clear hb0 hwb hg1 hg2 hV P1 P2 P3 PT
  go_enter Tryd.func7, Tryd.ntmps7
  go_wp2_with fail
  rw [← HG2.out, ← HG1.out, ← HW.out]
  refine (awake_any _ (HV.out.below HX.out.old (Nat.le_refl _))).mono ?_
  rintro e w1 ⟨rfl, hb⟩
  have X1 := Lib.hid (HX.out.keep hb)
  clear hb HX HW HG1 HG2
  have c0 := X1.out.c0; have c1 := X1.out.c1; have c2 := X1.out.c2
  go_wp2_with fail
  refine (K1.out _ (HV.out.below X1.out.old (Nat.le_refl _))).mono ?_
  rintro e w2 ⟨rfl, hb⟩
  have X2 := Lib.hid (X1.out.keep hb)
  clear hb X1 c0 c1 c2
  have d0 := X2.out.d0; have d1 := X2.out.d1; have d2 := X2.out.d2
  go_wp2_with fail
  refine (K2.out _ (HV.out.below X2.out.old (Nat.le_refl _))).mono ?_
  rintro e w3 ⟨rfl, hb⟩
  have X3 := Lib.hid (X2.out.keep hb)
  clear hb X2 d0 d1 d2
  go_wp2_with fail
  refine (K3.out _ (HV.out.below X3.out.old (Nat.le_refl _))).mono ?_
  rintro e w4 ⟨rfl, hb⟩
  have X4 := Lib.hid ((X3.out.keep hb).alloc (.cells #[.int .i64 a, .int .i64 b, .int .i64 c] 23))
  clear hb X3
  have c0 := X4.out.c0; have c1 := X4.out.c1; have c2 := X4.out.c2
  have d0 := X4.out.d0; have d1 := X4.out.d1; have d2 := X4.out.d2
  rcases KT.out with hN | ⟨x, y, z, hS, hT⟩
  · have KN := Lib.hid hN
    clear hN KT
    go_wp2_with fail
    refine (KN.out _ (HV.out.below X4.out.old (Nat.le_refl _))).mono ?_
    rintro e w5 ⟨rfl, hb⟩
    have X5 := Lib.hid (X4.out.keep hb)
    clear hb X4 c0 c1 c2 d0 d1 d2
    go_wp2
    go_ret
    exact ⟨rfl, X5.out.old.alloc X5.out.old.size _⟩
  · have KN := Lib.hid hS
    have KM := Lib.hid hT
    clear hS hT KT
    go_wp2_with fail
    refine (KN.out _ (HV.out.below X4.out.old (Nat.le_refl _))).mono ?_
    rintro e w5 ⟨rfl, hb⟩
    have X5 := Lib.hid ((X4.out.keep hb).alloc (.cells #[.int .i64 x, .int .i64 y, .int .i64 z] 23))
    clear hb X4 c0 c1 c2 d0 d1 d2
    go_wp2_with fail
    refine (KM.out _ (HV.out.below X5.out.old (Nat.le_refl _))).mono ?_
    rintro e w6 ⟨rfl, hb⟩
    have X6 := Lib.hid (X5.out.keep hb)
    clear hb X5
    go_wp2
    go_ret
    exact ⟨rfl, X6.out.old⟩

end Go.Proofs.YtbknfbobidgkkaaDoor
