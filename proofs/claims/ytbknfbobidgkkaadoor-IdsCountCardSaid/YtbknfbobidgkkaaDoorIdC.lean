/- Layer 4: Parse. Written by wip/gen_parse.py. -/
import Derived.Test.YtbknfbobidgkkaaDoorIdB
namespace Go.Proofs.YtbknfbobidgkkaaDoor
open Go.RowKit Ids

theorem str_eq (x y : List UInt8) : ((⟨x.toArray⟩ : ByteArray).toList == (⟨y.toArray⟩ : ByteArray).toList) = (x == y) := by
  rw [ByteArray.toList_eq, ByteArray.toList_eq]

/-- What Cut at a dot answers, in letters. -/
def Cuts (s x y : ByteArray) : Prop := ∀ w : World, Calls Tryd.prog 18 #[.string s, .string ⟨#[46]⟩] w fun e w' => (∃ b, e = .returned (.tuple #[.string x, .string y, .bool b])) ∧ ∃ n, w' = w.drewN n
def Parts (s : ByteArray) (a : Int) : Prop := ∀ w : World, Vars w → Calls Tryd.prog 20 #[.string s] w fun e w' => e = .returned (.int .i64 a) ∧ Below w.heap.size w w'
def Trims (s t : ByteArray) : Prop := ∀ w : World, Calls Tryd.prog 19 #[.string s, .string ⟨#[112]⟩] w fun e w' => e = .returned (.string t) ∧ w' = w
def Wordy (a b c : Int) (s : ByteArray) (ok : Bool) : Prop := ∀ w : World, Vars w → Calls Tryd.prog 10 #[.agg #[.int .i64 a, .int .i64 b, .int .i64 c]] w fun e w' => e = .returned (.tuple #[.string s, .bool ok]) ∧ Below w.heap.size w w'

theorem Vars.drewN {w : World} (h : Vars w) (n : Nat) : Vars (w.drewN n) := h

set_option maxHeartbeats 1000000 in
theorem parse_miss (l t x1 r1 x2 x3 ws : ByteArray) (a b c : Int) (w : World) (hV : Vars w) (CT : Trims l t) (CA : Cuts t x1 r1) (CB : Cuts r1 x2 x3) (PA : Parts x1 a) (PB : Parts x2 b) (PC : Parts x3 c) (CW : Wordy a b c ws false) :
    Calls Tryd.prog 9 #[.string l] w fun e w' => e = .returned (.tuple #[.agg #[.int .i64 0, .int .i64 0, .int .i64 0], .bool false]) ∧ Below w.heap.size w w' := by
  have CT := Lib.hid CT; have CA := Lib.hid CA; have CB := Lib.hid CB; have PA := Lib.hid PA; have PB := Lib.hid PB; have PC := Lib.hid PC; have CW := Lib.hid CW
  have B0 : Hid (Below w.heap.size w (w.alloc (.cells #[.int .i64 0, .int .i64 0, .int .i64 0] 23))) := Lib.hid ((Below.refl _ _).alloc (Nat.le_refl _) _)
  have HV := Lib.hid hV
  clear hV
  go_enter Tryd.func9, Tryd.ntmps9
  go_wp2_with fail
  refine (CT.out _).mono ?_
  rintro e w' ⟨rfl, rfl⟩
  go_wp2_with fail
  refine (CA.out _).mono ?_
  rintro e w' ⟨⟨q1, rfl⟩, n1, rfl⟩
  go_wp2_with fail
  refine (CB.out _).mono ?_
  rintro e w' ⟨⟨q2, rfl⟩, n2, rfl⟩
  have B1 : Hid (Below (w.heap.size + 1) (w.alloc (.cells #[.int .i64 0, .int .i64 0, .int .i64 0] 23)) ((w.alloc (.cells #[.int .i64 0, .int .i64 0, .int .i64 0] 23)).drewN (n1 + n2))) := Lib.hid (below_drew (Below.refl _ _) _)
  have V1 : Hid (Vars (w.alloc (.cells #[.int .i64 0, .int .i64 0, .int .i64 0] 23))) := Lib.hid (HV.out.below B0.out (Nat.le_refl _))
  go_wp2_with fail
  refine (PA.out _ (V1.out.below B1.out (by simp))).mono ?_
  rintro e w1 ⟨rfl, hb1⟩
  have B2 := Lib.hid (B1.out.trans (hb1.mono (by simp)))
  clear hb1 B1
  go_wp2_with fail
  refine (PB.out _ (V1.out.below B2.out (by simp))).mono ?_
  rintro e w2 ⟨rfl, hb2⟩
  have B3 := Lib.hid (B2.out.trans (hb2.mono (by have := B2.out.size; simpa using this)))
  clear hb2 B2
  go_wp2_with fail
  refine (PC.out _ (V1.out.below B3.out (by simp))).mono ?_
  rintro e w3 ⟨rfl, hb3⟩
  have B4 := Lib.hid (B3.out.trans (hb3.mono (by have := B3.out.size; simpa using this)))
  clear hb3 B3
  have hz : w.heap.size < w3.heap.size := by have := B4.out.size; simp at this; omega
  have V3 := Lib.hid (V1.out.below B4.out (by simp))
  have V4 : Hid (Vars (w3.alloc (.cells #[.int .i64 a, .int .i64 b, .int .i64 c] 23))) := Lib.hid (V3.out.below ((Below.refl w3.heap.size w3).alloc (Nat.le_refl _) _) (Nat.le_refl _))
  go_wp2_with fail
  refine (CW.out _ V4.out).mono ?_
  rintro e w5 ⟨rfl, hb5⟩
  have hb6 := (((Below.refl w3.heap.size w3).alloc (Nat.le_refl _) (.cells #[.int .i64 a, .int .i64 b, .int .i64 c] 23)).trans (hb5.mono (by simp)))
  have hc : ∀ j, j < 3 → w5.cell? ⟨w.heap.size, j, none⟩ = some (.int .i64 0) := fun j hj => by
    rw [hb6.cell (p := ⟨w.heap.size, j, none⟩) hz, B4.out.cell (by simp)]
    match j, hj with
    | 0, _ => simp
    | 1, _ => simp
    | 2, _ => simp
  have hf : ∀ j, w5.frozen? ⟨w.heap.size, j, none⟩ = false := fun j => by
    rw [hb6.frozen (p := ⟨w.heap.size, j, none⟩) hz, B4.out.frozen (by simp)]
    simp
  have hd : ∀ j, j < 3 → w5.cell? ⟨w3.heap.size, j, none⟩ = (#[Value.int .i64 a, .int .i64 b, .int .i64 c])[j]? := fun j hj => by
    rw [hb5.cell (by simp)]; simp
  have c0 := hc 0 (by omega)
  have c1 := hc 1 (by omega)
  have c2 := hc 2 (by omega)
  have f0 := hf 0
  have f1 := hf 1
  have f2 := hf 2
  have d0 : w5.cell? ⟨w3.heap.size, 0, none⟩ = some (.int .i64 a) := hd 0 (by omega)
  have d1 : w5.cell? ⟨w3.heap.size, 1, none⟩ = some (.int .i64 b) := hd 1 (by omega)
  have d2 : w5.cell? ⟨w3.heap.size, 2, none⟩ = some (.int .i64 c) := hd 2 (by omega)
  have B5 : Hid (Below w.heap.size w w5) := Lib.hid (B0.out.trans ((B4.out.mono (by simp)).trans (hb6.mono (by omega))))
  clear hc hf hd hb5 hb6 B4 V3 V4 V1 hz
  go_wp2_with fail
  refine bodyPost_ret (v := .tuple #[.agg #[.int .i64 0, .int .i64 0, .int .i64 0], .bool false]) (by simp [results, Tryd.results9, go_sem, c0, c1, c2]) rfl ⟨rfl, ?_⟩
  exact ((B5.out.setCell (Nat.le_refl _) _).setCell (Nat.le_refl _) _).setCell (Nat.le_refl _) _

set_option maxHeartbeats 1000000 in
theorem parse_other (l t x1 r1 x2 x3 ws : ByteArray) (a b c : Int) (w : World) (hV : Vars w) (CT : Trims l t) (CA : Cuts t x1 r1) (CB : Cuts r1 x2 x3) (PA : Parts x1 a) (PB : Parts x2 b) (PC : Parts x3 c) (CW : Wordy a b c ws true) (hne : (ws.toList == l.toList) = false) :
    Calls Tryd.prog 9 #[.string l] w fun e w' => e = .returned (.tuple #[.agg #[.int .i64 0, .int .i64 0, .int .i64 0], .bool false]) ∧ Below w.heap.size w w' := by
  have CT := Lib.hid CT; have CA := Lib.hid CA; have CB := Lib.hid CB; have PA := Lib.hid PA; have PB := Lib.hid PB; have PC := Lib.hid PC; have CW := Lib.hid CW
  have B0 : Hid (Below w.heap.size w (w.alloc (.cells #[.int .i64 0, .int .i64 0, .int .i64 0] 23))) := Lib.hid ((Below.refl _ _).alloc (Nat.le_refl _) _)
  have HV := Lib.hid hV
  clear hV
  go_enter Tryd.func9, Tryd.ntmps9
  go_wp2_with fail
  refine (CT.out _).mono ?_
  rintro e w' ⟨rfl, rfl⟩
  go_wp2_with fail
  refine (CA.out _).mono ?_
  rintro e w' ⟨⟨q1, rfl⟩, n1, rfl⟩
  go_wp2_with fail
  refine (CB.out _).mono ?_
  rintro e w' ⟨⟨q2, rfl⟩, n2, rfl⟩
  have B1 : Hid (Below (w.heap.size + 1) (w.alloc (.cells #[.int .i64 0, .int .i64 0, .int .i64 0] 23)) ((w.alloc (.cells #[.int .i64 0, .int .i64 0, .int .i64 0] 23)).drewN (n1 + n2))) := Lib.hid (below_drew (Below.refl _ _) _)
  have V1 : Hid (Vars (w.alloc (.cells #[.int .i64 0, .int .i64 0, .int .i64 0] 23))) := Lib.hid (HV.out.below B0.out (Nat.le_refl _))
  go_wp2_with fail
  refine (PA.out _ (V1.out.below B1.out (by simp))).mono ?_
  rintro e w1 ⟨rfl, hb1⟩
  have B2 := Lib.hid (B1.out.trans (hb1.mono (by simp)))
  clear hb1 B1
  go_wp2_with fail
  refine (PB.out _ (V1.out.below B2.out (by simp))).mono ?_
  rintro e w2 ⟨rfl, hb2⟩
  have B3 := Lib.hid (B2.out.trans (hb2.mono (by have := B2.out.size; simpa using this)))
  clear hb2 B2
  go_wp2_with fail
  refine (PC.out _ (V1.out.below B3.out (by simp))).mono ?_
  rintro e w3 ⟨rfl, hb3⟩
  have B4 := Lib.hid (B3.out.trans (hb3.mono (by have := B3.out.size; simpa using this)))
  clear hb3 B3
  have hz : w.heap.size < w3.heap.size := by have := B4.out.size; simp at this; omega
  have V3 := Lib.hid (V1.out.below B4.out (by simp))
  have V4 : Hid (Vars (w3.alloc (.cells #[.int .i64 a, .int .i64 b, .int .i64 c] 23))) := Lib.hid (V3.out.below ((Below.refl w3.heap.size w3).alloc (Nat.le_refl _) _) (Nat.le_refl _))
  go_wp2_with fail
  refine (CW.out _ V4.out).mono ?_
  rintro e w5 ⟨rfl, hb5⟩
  have hb6 := (((Below.refl w3.heap.size w3).alloc (Nat.le_refl _) (.cells #[.int .i64 a, .int .i64 b, .int .i64 c] 23)).trans (hb5.mono (by simp)))
  have hc : ∀ j, j < 3 → w5.cell? ⟨w.heap.size, j, none⟩ = some (.int .i64 0) := fun j hj => by
    rw [hb6.cell (p := ⟨w.heap.size, j, none⟩) hz, B4.out.cell (by simp)]
    match j, hj with
    | 0, _ => simp
    | 1, _ => simp
    | 2, _ => simp
  have hf : ∀ j, w5.frozen? ⟨w.heap.size, j, none⟩ = false := fun j => by
    rw [hb6.frozen (p := ⟨w.heap.size, j, none⟩) hz, B4.out.frozen (by simp)]
    simp
  have hd : ∀ j, j < 3 → w5.cell? ⟨w3.heap.size, j, none⟩ = (#[Value.int .i64 a, .int .i64 b, .int .i64 c])[j]? := fun j hj => by
    rw [hb5.cell (by simp)]; simp
  have c0 := hc 0 (by omega)
  have c1 := hc 1 (by omega)
  have c2 := hc 2 (by omega)
  have f0 := hf 0
  have f1 := hf 1
  have f2 := hf 2
  have d0 : w5.cell? ⟨w3.heap.size, 0, none⟩ = some (.int .i64 a) := hd 0 (by omega)
  have d1 : w5.cell? ⟨w3.heap.size, 1, none⟩ = some (.int .i64 b) := hd 1 (by omega)
  have d2 : w5.cell? ⟨w3.heap.size, 2, none⟩ = some (.int .i64 c) := hd 2 (by omega)
  have B5 : Hid (Below w.heap.size w w5) := Lib.hid (B0.out.trans ((B4.out.mono (by simp)).trans (hb6.mono (by omega))))
  clear hc hf hd hb5 hb6 B4 V3 V4 V1 hz
  go_wp2_with fail
  refine bodyPost_ret (v := .tuple #[.agg #[.int .i64 0, .int .i64 0, .int .i64 0], .bool false]) (by simp [results, Tryd.results9, go_sem, c0, c1, c2]) rfl ⟨rfl, ?_⟩
  exact ((B5.out.setCell (Nat.le_refl _) _).setCell (Nat.le_refl _) _).setCell (Nat.le_refl _) _

set_option maxHeartbeats 1000000 in
theorem parse_hit (l t x1 r1 x2 x3 ws : ByteArray) (a b c : Int) (w : World) (hV : Vars w) (CT : Trims l t) (CA : Cuts t x1 r1) (CB : Cuts r1 x2 x3) (PA : Parts x1 a) (PB : Parts x2 b) (PC : Parts x3 c) (CW : Wordy a b c ws true) (heq : (ws.toList == l.toList) = true) :
    Calls Tryd.prog 9 #[.string l] w fun e w' => e = .returned (.tuple #[.agg #[.int .i64 a, .int .i64 b, .int .i64 c], .bool true]) ∧ Below w.heap.size w w' := by
  have CT := Lib.hid CT; have CA := Lib.hid CA; have CB := Lib.hid CB; have PA := Lib.hid PA; have PB := Lib.hid PB; have PC := Lib.hid PC; have CW := Lib.hid CW
  have B0 : Hid (Below w.heap.size w (w.alloc (.cells #[.int .i64 0, .int .i64 0, .int .i64 0] 23))) := Lib.hid ((Below.refl _ _).alloc (Nat.le_refl _) _)
  have HV := Lib.hid hV
  clear hV
  go_enter Tryd.func9, Tryd.ntmps9
  go_wp2_with fail
  refine (CT.out _).mono ?_
  rintro e w' ⟨rfl, rfl⟩
  go_wp2_with fail
  refine (CA.out _).mono ?_
  rintro e w' ⟨⟨q1, rfl⟩, n1, rfl⟩
  go_wp2_with fail
  refine (CB.out _).mono ?_
  rintro e w' ⟨⟨q2, rfl⟩, n2, rfl⟩
  have B1 : Hid (Below (w.heap.size + 1) (w.alloc (.cells #[.int .i64 0, .int .i64 0, .int .i64 0] 23)) ((w.alloc (.cells #[.int .i64 0, .int .i64 0, .int .i64 0] 23)).drewN (n1 + n2))) := Lib.hid (below_drew (Below.refl _ _) _)
  have V1 : Hid (Vars (w.alloc (.cells #[.int .i64 0, .int .i64 0, .int .i64 0] 23))) := Lib.hid (HV.out.below B0.out (Nat.le_refl _))
  go_wp2_with fail
  refine (PA.out _ (V1.out.below B1.out (by simp))).mono ?_
  rintro e w1 ⟨rfl, hb1⟩
  have B2 := Lib.hid (B1.out.trans (hb1.mono (by simp)))
  clear hb1 B1
  go_wp2_with fail
  refine (PB.out _ (V1.out.below B2.out (by simp))).mono ?_
  rintro e w2 ⟨rfl, hb2⟩
  have B3 := Lib.hid (B2.out.trans (hb2.mono (by have := B2.out.size; simpa using this)))
  clear hb2 B2
  go_wp2_with fail
  refine (PC.out _ (V1.out.below B3.out (by simp))).mono ?_
  rintro e w3 ⟨rfl, hb3⟩
  have B4 := Lib.hid (B3.out.trans (hb3.mono (by have := B3.out.size; simpa using this)))
  clear hb3 B3
  have hz : w.heap.size < w3.heap.size := by have := B4.out.size; simp at this; omega
  have V3 := Lib.hid (V1.out.below B4.out (by simp))
  have V4 : Hid (Vars (w3.alloc (.cells #[.int .i64 a, .int .i64 b, .int .i64 c] 23))) := Lib.hid (V3.out.below ((Below.refl w3.heap.size w3).alloc (Nat.le_refl _) _) (Nat.le_refl _))
  go_wp2_with fail
  refine (CW.out _ V4.out).mono ?_
  rintro e w5 ⟨rfl, hb5⟩
  have hb6 := (((Below.refl w3.heap.size w3).alloc (Nat.le_refl _) (.cells #[.int .i64 a, .int .i64 b, .int .i64 c] 23)).trans (hb5.mono (by simp)))
  have hc : ∀ j, j < 3 → w5.cell? ⟨w.heap.size, j, none⟩ = some (.int .i64 0) := fun j hj => by
    rw [hb6.cell (p := ⟨w.heap.size, j, none⟩) hz, B4.out.cell (by simp)]
    match j, hj with
    | 0, _ => simp
    | 1, _ => simp
    | 2, _ => simp
  have hf : ∀ j, w5.frozen? ⟨w.heap.size, j, none⟩ = false := fun j => by
    rw [hb6.frozen (p := ⟨w.heap.size, j, none⟩) hz, B4.out.frozen (by simp)]
    simp
  have hd : ∀ j, j < 3 → w5.cell? ⟨w3.heap.size, j, none⟩ = (#[Value.int .i64 a, .int .i64 b, .int .i64 c])[j]? := fun j hj => by
    rw [hb5.cell (by simp)]; simp
  have c0 := hc 0 (by omega)
  have c1 := hc 1 (by omega)
  have c2 := hc 2 (by omega)
  have f0 := hf 0
  have f1 := hf 1
  have f2 := hf 2
  have d0 : w5.cell? ⟨w3.heap.size, 0, none⟩ = some (.int .i64 a) := hd 0 (by omega)
  have d1 : w5.cell? ⟨w3.heap.size, 1, none⟩ = some (.int .i64 b) := hd 1 (by omega)
  have d2 : w5.cell? ⟨w3.heap.size, 2, none⟩ = some (.int .i64 c) := hd 2 (by omega)
  have B5 : Hid (Below w.heap.size w w5) := Lib.hid (B0.out.trans ((B4.out.mono (by simp)).trans (hb6.mono (by omega))))
  clear hc hf hd hb5 hb6 B4 V3 V4 V1 hz
  go_wp2_with fail
  refine bodyPost_ret (v := .tuple #[.agg #[.int .i64 a, .int .i64 b, .int .i64 c], .bool true]) (by simp [results, Tryd.results9, go_sem, c0, c1, c2]) rfl ⟨rfl, ?_⟩
  exact ((B5.out.setCell (Nat.le_refl _) _).setCell (Nat.le_refl _) _).setCell (Nat.le_refl _) _

/-- What Parse answers. -/
def ParsePost (l : List UInt8) (w : World) (e : Ending) (w' : World) : Prop :=
  Below w.heap.size w w' ∧ ((parseV l = none ∧ e = .returned (.tuple #[.agg #[.int .i64 0, .int .i64 0, .int .i64 0], .bool false])) ∨ ∃ a b c, parseV l = some (a, b, c) ∧ e = .returned (.tuple #[.agg #[.int .i64 a, .int .i64 b, .int .i64 c], .bool true]))

theorem cuts_of (l : List UInt8) (hl : l.length ≤ 1000000) : Cuts ⟨l.toArray⟩ ⟨(cutL l).1.toArray⟩ ⟨(cutL l).2.toArray⟩ := fun w => cut_any l hl w
theorem parts_of (l : List UInt8) (hl : l.length ≤ 1000000) : Parts ⟨l.toArray⟩ (partV l) := fun w h => part_any l hl w h
theorem wordy_yes {a b c : Int} (h : mayAll a b c = true) : Wordy a b c ⟨(wordsL a b c).toArray⟩ true := fun w hV => words_yes a b c w h hV
theorem wordy_no {a b c : Int} (h : mayAll a b c = false) : Wordy a b c ⟨#[]⟩ false := fun w _ => words_no a b c w h

theorem parse_any (l : List UInt8) (hl : l.length ≤ 100000) (w : World) (hV : Vars w) : Calls Tryd.prog 9 #[.string ⟨l.toArray⟩] w (ParsePost l w) := by
  have ht := Lib.trimPrefix_le l [112]
  have h1 := cut_len (Lib.trimPrefix l [112])
  have h2 := cut_len (cutL (Lib.trimPrefix l [112])).2
  have CT : Trims ⟨l.toArray⟩ ⟨(Lib.trimPrefix l [112]).toArray⟩ := fun w => Tryd.strings_TrimPrefix ⟨l.toArray⟩ ⟨#[112]⟩ w
  have CA := cuts_of (Lib.trimPrefix l [112]) (by omega)
  have CB := cuts_of (cutL (Lib.trimPrefix l [112])).2 (by omega)
  have PA := parts_of (cutL (Lib.trimPrefix l [112])).1 (by omega)
  have PB := parts_of (cutL (cutL (Lib.trimPrefix l [112])).2).1 (by omega)
  have PC := parts_of (cutL (cutL (Lib.trimPrefix l [112])).2).2 (by omega)
  cases hm : mayAll (loose l).1 (loose l).2.1 (loose l).2.2
  · have hp : parseV l = none := by unfold parseV; rw [if_neg (by simp [spells, hm])]
    exact (parse_miss _ _ _ _ _ _ _ _ _ _ w hV CT CA CB PA PB PC (wordy_no hm)).mono fun e w' ⟨he, hb⟩ => ⟨hb, Or.inl ⟨hp, he⟩⟩
  · cases hw : wordsL (loose l).1 (loose l).2.1 (loose l).2.2 == l
    · have hp : parseV l = none := by unfold parseV; rw [if_neg (by simp [spells, hm, hw])]
      exact (parse_other _ _ _ _ _ _ _ _ _ _ w hV CT CA CB PA PB PC (wordy_yes hm) (by rw [str_eq]; exact hw)).mono fun e w' ⟨he, hb⟩ => ⟨hb, Or.inl ⟨hp, he⟩⟩
    · have hp : parseV l = some (loose l) := by unfold parseV; rw [if_pos (by simp only [spells, hm, hw, Bool.and_self])]
      exact (parse_hit _ _ _ _ _ _ _ _ _ _ w hV CT CA CB PA PB PC (wordy_yes hm) (by rw [str_eq]; exact hw)).mono fun e w' ⟨he, hb⟩ => ⟨hb, Or.inr ⟨_, _, _, hp, he⟩⟩

theorem parse_some {l : List UInt8} {a b c : Int} (hl : l.length ≤ 100000) (h : parseV l = some (a, b, c)) {w : World} (hV : Vars w) :
    Calls Tryd.prog 9 #[.string ⟨l.toArray⟩] w fun e w' => e = .returned (.tuple #[.agg #[.int .i64 a, .int .i64 b, .int .i64 c], .bool true]) ∧ Below w.heap.size w w' :=
  (parse_any l hl w hV).mono fun e w' ⟨hb, hh⟩ => by
    rcases hh with ⟨h1, _⟩ | ⟨x, y, z, h1, he⟩
    · rw [h] at h1; cases h1
    · rw [h] at h1; injection h1 with h1; injection h1 with e1 h1; injection h1 with e2 e3; subst e1 e2 e3; exact ⟨he, hb⟩

theorem parse_no {l : List UInt8} (hl : l.length ≤ 100000) (h : parseV l = none) {w : World} (hV : Vars w) :
    Calls Tryd.prog 9 #[.string ⟨l.toArray⟩] w fun e w' => e = .returned (.tuple #[.agg #[.int .i64 0, .int .i64 0, .int .i64 0], .bool false]) ∧ Below w.heap.size w w' :=
  (parse_any l hl w hV).mono fun e w' ⟨hb, hh⟩ => by
    rcases hh with ⟨_, he⟩ | ⟨x, y, z, h1, he⟩
    · exact ⟨he, hb⟩
    · rw [h] at h1; cases h1

end Go.Proofs.YtbknfbobidgkkaaDoor
