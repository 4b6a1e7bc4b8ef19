/- Layer 14: a back that is none: nil, or one that New did not make. -/
import Derived.Test.YtpanhkhiomgclaaBaF
set_option linter.unusedVariables false
namespace Go.Proofs.Ytpanhkhiomgclaa.Ba
open Go.RowKit

section
variable {w : World} {s : Value} (h : NoBk w s)
include h
theorem NoBk.below {w' : World} (hb : Below w.heap.size w w') : NoBk w' s := h.keep fun p e => hb.block p (h.lt p e)
theorem NoBk.ptr : ∃ a, s = .pointer a := by
  rcases h with rfl | ⟨p, rfl, -⟩
  · exact ⟨_, rfl⟩
  · exact ⟨_, rfl⟩
set_option maxRecDepth 100000 in
theorem no_len : Calls Try.prog 15 #[s] w fun e w' => e = .returned (.int .i64 0) ∧ Below w.heap.size w w' := by
  rcases h with rfl | ⟨p, rfl, hp⟩
  · go_enter Try.func15, Try.ntmps15
    go_wp2
    go_ret
    exact ⟨rfl, Below.refl _ _⟩
  · have c3 := cell_of hp 2
    simp only [zeroB] at c3
    clear hp
    go_enter Try.func15, Try.ntmps15
    go_wp2
    go_ret
    exact ⟨rfl, Below.refl _ _⟩
set_option maxRecDepth 100000 in
theorem no_gone : Calls Try.prog 16 #[s] w fun e w' => e = .returned (.int .i64 0) ∧ Below w.heap.size w w' := by
  rcases h with rfl | ⟨p, rfl, hp⟩
  · go_enter Try.func16, Try.ntmps16
    go_wp2
    go_ret
    exact ⟨rfl, Below.refl _ _⟩
  · have c2 := cell_of hp 3
    simp only [zeroB] at c2
    clear hp
    go_enter Try.func16, Try.ntmps16
    go_wp2
    go_ret
    exact ⟨rfl, Below.refl _ _⟩
set_option maxRecDepth 100000 in
theorem no_put (x : Int) : Calls Try.prog 10 #[s, .int .i64 x] w fun e w' => e = .returned (.bool false) ∧ NoBk w' s ∧ TurnN s w w' := by
  have HE : Hid (NoBk w s ∧ TurnN s w w) := Lib.hid ⟨h, ⟨rfl, rfl, rfl, Nat.le_refl _, fun _ _ _ => rfl⟩⟩
  rcases h with rfl | ⟨p, rfl, hp⟩
  · go_enter Try.func10, Try.ntmps10
    go_wp2
    go_ret
    exact ⟨rfl, HE.out⟩
  · have c0 := cell_of hp 0
    simp only [zeroB] at c0
    clear hp
    go_enter Try.func10, Try.ntmps10
    go_wp2
    go_ret
    exact ⟨rfl, HE.out⟩
set_option maxRecDepth 100000 in
theorem no_clear : Calls Try.prog 21 #[s] w fun e w' => e = .returned (.tuple #[]) ∧ NoBk w' s ∧ TurnN s w w' := by
  rcases h with rfl | ⟨p, rfl, hp⟩
  · have HE : Hid (NoBk w (.pointer none) ∧ TurnN (.pointer none) w w) := Lib.hid ⟨Or.inl rfl, ⟨rfl, rfl, rfl, Nat.le_refl _, fun _ _ _ => rfl⟩⟩
    go_enter Try.func21, Try.ntmps21
    go_wp2
    go_end0
    exact ⟨rfl, HE.out⟩
  · have c3 := cell_of hp 2
    have f3 := free_of hp 2
    simp only [zeroB] at c3 f3
    have hh := heap_setCell_same w p 2 _ _ (.slice none 0 0) hp
    have hst : (w.setCell ⟨p, 2, none⟩ (.slice none 0 0)).heap[p]? = some (.cells zeroB 41 (0, 0)) := by simpa [zeroB] using hh
    have HE : Hid (NoBk (w.setCell ⟨p, 2, none⟩ (.slice none 0 0)) (.pointer (some ⟨p, 0, none⟩)) ∧ TurnN (.pointer (some ⟨p, 0, none⟩)) w (w.setCell ⟨p, 2, none⟩ (.slice none 0 0))) := Lib.hid ⟨Or.inr ⟨p, rfl, hst⟩, ⟨rfl, rfl, rfl, by simp, fun k hk hn => Below.heap_setCell _ _ _ _ (fun e => hn (by rw [e]))⟩⟩
    clear hp hh hst
    go_enter Try.func21, Try.ntmps21
    go_wp2
    go_end0
    exact ⟨rfl, HE.out⟩
set_option maxRecDepth 100000 in
theorem no_at (i : Int) : Calls Try.prog 14 #[s, .int .i64 i] w fun e w' => e = .returned (.tuple #[.int .i64 0, .bool false]) ∧ Below w.heap.size w w' := by
  have K := Lib.hid (no_len h)
  clear h
  by_cases hi : i < 0
  · have g1 : decide (i < 0) = true := by simpa using hi
    go_enter Try.func14, Try.ntmps14
    go_wp2
    go_ret2
    exact ⟨rfl, Below.refl _ _⟩
  · have g1 : decide (i < 0) = false := by simpa using hi
    have g2 : decide (i ≥ 0) = true := by simp; omega
    have g2' : decide (0 ≤ i) = true := by simp; omega
    go_enter Try.func14, Try.ntmps14
    go_wp2_with fail
    refine (show Calls _ _ _ _ _ from K.out).mono ?_
    rintro e w1 ⟨rfl, hb1⟩
    go_wp2
    go_ret2
    exact ⟨rfl, hb1⟩
set_option maxRecDepth 100000 in
theorem no_pop : Calls Try.prog 12 #[s] w fun e w' => e = .returned (.tuple #[.int .i64 0, .bool false]) ∧ Below w.heap.size w w' := by
  have K := Lib.hid (no_len h)
  have K2 : Hid (∀ V, Below w.heap.size w V → Calls Try.prog 14 #[s, .int .i64 (-1)] V fun e w' => e = .returned (.tuple #[.int .i64 0, .bool false]) ∧ Below w.heap.size w w') := Lib.hid fun V hV => (no_at (h.below hV) (-1)).mono fun e w' ⟨he, hb⟩ => ⟨he, hV.trans (hb.mono hV.size)⟩
  have z1 : IntKind.i64.wrap ((0 : Int) - 1) = -1 := by rfl
  clear h
  go_enter Try.func12, Try.ntmps12
  go_wp2_with fail
  refine (show Calls _ _ _ _ _ from K.out).mono ?_
  rintro e w1 ⟨rfl, hb1⟩
  go_wp2_with fail
  refine (show Calls _ _ _ _ _ from K2.out w1 hb1).mono ?_
  rintro e w2 ⟨rfl, hb2⟩
  go_wp2
  go_ret2
  exact ⟨rfl, hb2⟩
theorem no_all : Calls Try.prog 22 #[s] w (AllTells [] w) := by
  obtain ⟨a, rfl⟩ := h.ptr
  refine (All_run a w).mono ?_
  rintro e w' ⟨rfl, rfl⟩
  have hb : Below w.heap.size w (w.alloc (.cells #[.pointer a] 24)) := (Below.refl _ _).alloc (Nat.le_refl _) _
  have hx := Boxed.new w 24 (.pointer a)
  refine ⟨_, rfl, hb, fun Mine hMO hMV => ?_⟩
  intro l J Jx W hW hJ hJx hY h0
  have hbW : Below w.heap.size w W := hb.trans (hW.mono hb.size)
  have hxW := (hW.block _ hx.lt).trans hx
  rcases h.below hbW with e | ⟨p, e, hp⟩
  · cases e
    exact iter_nil l w.heap.size J Jx W hxW h0
  · cases e
    exact iter_in (L := []) l w.heap.size Mine J Jx _ w W hMO hMV hb.size hW hxW (Nat.zero_le _) (cell_of hp 2) (liesI_nil W) hJ hY h0
theorem no_last (n : Int) : Calls Try.prog 18 #[s, .int .i64 n] w fun e w' => (∃ A c, e = .returned (.slice A 0 c)) ∧ Below w.heap.size w w' := by
  obtain ⟨a, rfl⟩ := h.ptr
  refine (last_run a [] n (Or.inr rfl) (by simp) w (fun V hV => (no_len (h.below hV)).mono fun e w' ⟨he, hb⟩ => ⟨he, hb⟩) (fun V hV => no_all (h.below hV))).mono ?_
  rintro e w' ⟨v, rfl, ho, hb⟩
  obtain ⟨A, c, rfl⟩ := ownI_slice ho
  have : (lastV [] n).length = 0 := by unfold lastV; simp
  rw [this]
  exact ⟨⟨_, _, rfl⟩, hb⟩
end
end Go.Proofs.Ytpanhkhiomgclaa.Ba
