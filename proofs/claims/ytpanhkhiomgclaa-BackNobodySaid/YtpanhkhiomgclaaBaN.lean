/- Layer 14: BackNobody's walk. -/
import Derived.Test.YtpanhkhiomgclaaBaK
set_option linter.unusedVariables false
namespace Go.Proofs.Ytpanhkhiomgclaa.Ba
open Go.RowKit

namespace TurnN
variable {s : Value} {w w' w2 : World}
theorem of (h : Below w.heap.size w w') : TurnN s w w' := ⟨h.os, h.tape, h.output, h.size, fun k hk _ => h.block k hk⟩
theorem trans (h : TurnN s w w') (k : TurnN s w' w2) : TurnN s w w2 := ⟨k.os.trans h.os, k.tape.trans h.tape, k.output.trans h.output, Nat.le_trans h.size k.size, fun i hi hn => (k.block i (Nat.lt_of_lt_of_le hi h.size) hn).trans (h.block i hi hn)⟩
theorem below {B : Nat} {w0 : World} (h : TurnN s w w') (hb : Below B w0 w) (hB : B ≤ w.heap.size) (hs : ∀ p, s = .pointer (some ⟨p, 0, none⟩) → B ≤ p) : Below B w0 w' :=
  hb.trans ⟨h.os, h.tape, h.output, h.size, fun k hk => h.block k (by omega) (fun e => absurd (hs k e) (by omega))⟩
end TurnN
/-- A back that is none, from call to call, since world w. -/
def NoneB (w V : World) (s : Value) : Prop := NoBk V s ∧ TurnN s w V
theorem NoneB.old {w V U : World} {s : Value} (h : NoneB w V s) (hb : Below V.heap.size V U) : NoneB w U s := ⟨h.1.keep fun p e => hb.block p (h.1.lt p e), h.2.trans (TurnN.of hb)⟩
section
variable {w V : World} {s : Value} (h : NoneB w V s)
include h
theorem none_clear : Calls Try.prog 21 #[s] V fun e w' => e = .returned (.tuple #[]) ∧ NoneB w w' s := (no_clear h.1).mono fun e w' ⟨he, hn, ht⟩ => ⟨he, hn, h.2.trans ht⟩
theorem none_put (x : Int) : Calls Try.prog 10 #[s, .int .i64 x] V fun e w' => e = .returned (.bool false) ∧ NoneB w w' s := (no_put h.1 x).mono fun e w' ⟨he, hn, ht⟩ => ⟨he, hn, h.2.trans ht⟩
theorem none_pop : Calls Try.prog 12 #[s] V fun e w' => e = .returned (.tuple #[.int .i64 0, .bool false]) ∧ NoneB w w' s := (no_pop h.1).mono fun e w' ⟨he, hb⟩ => ⟨he, h.old hb⟩
theorem none_at (i : Int) : Calls Try.prog 14 #[s, .int .i64 i] V fun e w' => e = .returned (.tuple #[.int .i64 0, .bool false]) ∧ NoneB w w' s := (no_at h.1 i).mono fun e w' ⟨he, hb⟩ => ⟨he, h.old hb⟩
theorem none_last (n : Int) : Calls Try.prog 18 #[s, .int .i64 n] V fun e w' => ∃ A c, e = .returned (.slice A 0 c) ∧ NoneB w w' s := (no_last h.1 n).mono fun e w' ⟨⟨A, c, he⟩, hb⟩ => ⟨A, c, he, h.old hb⟩
theorem none_len : Calls Try.prog 15 #[s] V fun e w' => e = .returned (.int .i64 0) ∧ NoneB w w' s := (no_len h.1).mono fun e w' ⟨he, hb⟩ => ⟨he, h.old hb⟩
theorem none_gone : Calls Try.prog 16 #[s] V fun e w' => e = .returned (.int .i64 0) ∧ NoneB w w' s := (no_gone h.1).mono fun e w' ⟨he, hb⟩ => ⟨he, h.old hb⟩
theorem none_all : Calls Try.prog 20 #[s, .int .i64 9] V fun e w' => ∃ A c, e = .returned (.slice A 0 c) ∧ NoneB w w' s :=
  (all_any s [] 9 V (by decide) (by decide) (by decide) (fun U hU => no_all (h.old hU).1)).mono fun e w' ⟨v, he, ho, hb⟩ => by
    obtain ⟨A, c, rfl⟩ := ownI_slice ho
    exact ⟨A, c, he, h.old hb⟩
end
theorem idx_ptrs (g k : Nat) (hk : k < 2) (W : World) : (Instr.indexAt 42 (.slice (some ⟨g, 0, none⟩) 2 2) (.int .i64 (k : Int))).run Try.prog W = .ok (.pointer (some ⟨g, k, none⟩)) W := by
  have hs : ∀ W : World, (sizeOf (Try.prog.elem 42)).run Try.prog W = .ok 1 W := fun W => by kernel_rfl
  rw [run_indexAt_slice (P := Try.prog) W 42 ⟨g, 0, none⟩ 2 2 .i64 k (by kernel_rfl), if_pos (by omega), hs]
  simp only [Result.andThen, Int.toNat_natCast, add_oo, Nat.mul_one, Nat.zero_add]

set_option maxRecDepth 100000 in
set_option maxHeartbeats 4000000 in
theorem nobody_law (x n : Int) (w : World) : Calls Try.prog 4 #[.int .i64 x, .int .i64 n] w fun e w' => e = .returned (.bool true) ∧ Below w.heap.size w w' := by
  have HWk : Hid (∀ V, Calls Try.prog 8 #[] V fun e w' => e = .returned (.bool true) ∧ Below V.heap.size V w') := Lib.hid fun V => wakes_any V
  obtain ⟨W2, hW2⟩ : ∃ W2, (w.alloc (.cells zeroB 41 (0, 0))).alloc (.cells #[.pointer none, .pointer (some ⟨w.heap.size, 0, none⟩)] 24 (0, 0)) = W2 := ⟨_, rfl⟩
  have hb : Below w.heap.size w W2 := by rw [← hW2]; exact ((Below.refl _ _).alloc (Nat.le_refl _) _).alloc (by simp) _
  have hp : W2.heap[w.heap.size]? = some (.cells zeroB 41 (0, 0)) := by rw [← hW2, Below.heap_alloc _ _ _ (by simp)]; exact heap_new w _
  have hg : W2.heap[w.heap.size + 1]? = some (.cells #[.pointer none, .pointer (some ⟨w.heap.size, 0, none⟩)] 24 (0, 0)) := by
    have := heap_new (w.alloc (.cells zeroB 41 (0, 0))) (.cells #[.pointer none, .pointer (some ⟨w.heap.size, 0, none⟩)] 24 (0, 0))
    rw [hW2, World.size_alloc] at this
    exact this
  have hsz : W2.heap.size = w.heap.size + 2 := by rw [← hW2]; simp
  obtain ⟨P, hP⟩ : ∃ P, P = w.heap.size := ⟨_, rfl⟩
  have HE := Lib.hid hW2
  have H0 : Hid (NoBk W2 (.pointer (some ⟨P, 0, none⟩)) ∧ W2.heap[P + 1]? = some (.cells #[.pointer none, .pointer (some ⟨P, 0, none⟩)] 24 (0, 0)) ∧ Below w.heap.size w W2) := Lib.hid (by rw [hP]; exact ⟨Or.inr ⟨_, rfl, hp⟩, hg, hb⟩)
  have HP := Lib.hid hP
  clear hW2 hb hp hg hsz
  go_enter Try.func4, Try.ntmps4
  go_wp2
  change Code.wp _ _ _ _ ((w.alloc (.cells zeroB 41 (0, 0))).alloc (.cells #[.pointer none, .pointer (some ⟨w.heap.size, 0, none⟩)] 24 (0, 0)))
  rw [HE.out]
  have hP1 : w.heap.size + 1 = P + 1 := by rw [hP]
  simp only [hP1]
  rw [← hP]
  clear HE hP1 hP
  go_loopw [19] (fun i wr => ∃ k : Nat, k ≤ 2 ∧ i = .int .i64 k ∧ Hid (NoBk wr (.pointer (some ⟨P, 0, none⟩)) ∧ wr.heap[P + 1]? = some (.cells #[.pointer none, .pointer (some ⟨P, 0, none⟩)] 24 (0, 0)) ∧ Below w.heap.size w wr)) (fun i _ => 2 - (RowKit.intOf i).toNat)
  case atStart => exact ⟨0, Nat.zero_le _, rfl, H0⟩
  case round =>
    obtain ⟨k, hk, rfl, HK⟩ := hrel
    by_cases hlt : k < 2
    · have glt : decide ((k : Int) < 2) = true := by simp; omega
      obtain ⟨s, hs, hpq, hkp⟩ : ∃ s, wr.cell? ⟨P + 1, k, none⟩ = some s ∧ NoBk wr s ∧ ∀ U, NoneB wr U s → NoBk U (.pointer (some ⟨P, 0, none⟩)) ∧ U.heap[P + 1]? = some (.cells #[.pointer none, .pointer (some ⟨P, 0, none⟩)] 24 (0, 0)) ∧ Below w.heap.size w U := by
        have h1 := cell_of HK.out.2.1 k
        have hPw : w.heap.size ≤ P := by rw [HP.out]; exact Nat.le_refl _
        have hlt1 := blk_lt HK.out.2.1
        have : k = 0 ∨ k = 1 := by omega
        rcases this with rfl | rfl
        · refine ⟨.pointer none, h1, Or.inl rfl, fun U hU => ?_⟩
          have hn : ∀ q, (Value.pointer none : Value) ≠ .pointer (some ⟨q, 0, none⟩) := fun q e => by cases e
          exact ⟨HK.out.1.keep fun p e => hU.2.block p (HK.out.1.lt p e) (hn p), (hU.2.block _ hlt1 (hn _)).trans HK.out.2.1, hU.2.below HK.out.2.2 HK.out.2.2.size fun p e => by cases e⟩
        · refine ⟨.pointer (some ⟨P, 0, none⟩), h1, HK.out.1, fun U hU => ⟨hU.1, (hU.2.block _ hlt1 (fun e => by simp at e)).trans HK.out.2.1, hU.2.below HK.out.2.2 HK.out.2.2.size fun p e => by cases e; exact hPw⟩⟩
      have i1 := idx_ptrs (P + 1) k hlt
      have H : Hid (NoneB wr wr s) := Lib.hid ⟨hpq, TurnN.of (Below.refl _ _)⟩
      have HKp := Lib.hid hkp
      obtain ⟨ad, rfl⟩ : ∃ ad, s = .pointer ad := by rcases hpq with e | ⟨p, e, _⟩ <;> exact ⟨_, e⟩
      clear hpq hkp HK
      have K1 := Lib.hid (none_clear H.out)
      clear H
      go_wp2_with fail
      refine (show Calls _ _ _ _ _ from K1.out).mono ?_
      rintro e y1 ⟨rfl, h⟩
      have H := Lib.hid h
      clear h K1
      have K1 := Lib.hid (none_pop H.out)
      clear H
      go_wp2_with fail
      refine (show Calls _ _ _ _ _ from K1.out).mono ?_
      rintro e y2 ⟨rfl, h⟩
      have H := Lib.hid h
      clear h K1
      have K1 := Lib.hid (none_at H.out n)
      clear H
      go_wp2_with fail
      refine (show Calls _ _ _ _ _ from K1.out).mono ?_
      rintro e y3 ⟨rfl, h⟩
      have H := Lib.hid h
      clear h K1
      have K1 := Lib.hid (none_put H.out x)
      clear H
      go_wp2_with fail
      refine (show Calls _ _ _ _ _ from K1.out).mono ?_
      rintro e y4 ⟨rfl, h⟩
      have H := Lib.hid h
      clear h K1
      have K1 := Lib.hid (none_last H.out n)
      clear H
      go_wp2_with fail
      refine (show Calls _ _ _ _ _ from K1.out).mono ?_
      rintro e y5 ⟨A1, c1, rfl, h⟩
      have H := Lib.hid h
      clear h K1
      have K1 := Lib.hid (none_all H.out)
      clear H
      go_wp2_with fail
      refine (show Calls _ _ _ _ _ from K1.out).mono ?_
      rintro e y6 ⟨A2, c2, rfl, h⟩
      have H := Lib.hid h
      clear h K1
      have K1 := Lib.hid (none_len H.out)
      clear H
      go_wp2_with fail
      refine (show Calls _ _ _ _ _ from K1.out).mono ?_
      rintro e y7 ⟨rfl, h⟩
      have H := Lib.hid h
      clear h K1
      have K1 := Lib.hid (none_gone H.out)
      clear H
      go_wp2_with fail
      refine (show Calls _ _ _ _ _ from K1.out).mono ?_
      rintro e y8 ⟨rfl, h⟩
      have H := Lib.hid h
      clear h K1
      have HK := Lib.hid (HKp.out _ H.out)
      clear H HKp
      go_wp2
      go_roundw
      case rel => exact ⟨k + 1, by omega, by go_num, HK⟩
      case measure => simp [RowKit.intOf]; omega
    · have hk2 : k = 2 := by omega
      subst hk2
      have K1 := Lib.hid (HWk.out wr)
      go_wp2_with fail
      refine (show Calls _ _ _ _ _ from K1.out).mono ?_
      rintro e w1 ⟨rfl, hb⟩
      go_wp2
      go_ret
      exact ⟨rfl, HK.out.2.2.trans (hb.mono HK.out.2.2.size)⟩
end Go.Proofs.Ytpanhkhiomgclaa.Ba
