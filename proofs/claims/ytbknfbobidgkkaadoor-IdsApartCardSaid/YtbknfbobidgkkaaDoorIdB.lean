/- Layer 4: Words. -/
import Derived.Test.YtbknfbobidgkkaaDoorIdA
import Derived.Deep.RegionHeld3
import Derived.WalkLawsBesides
namespace Go.Proofs.YtbknfbobidgkkaaDoor
open Go.RowKit Ids

/-- A pane's name as a value. -/
def paneV (a b c : Int) : Value := .agg #[.int .i64 a, .int .i64 b, .int .i64 c]

theorem isPart_yes {a : Int} (h : mayB a = true) (w : World) : Calls Tryd.prog 21 #[.int .i64 a] w fun e w' => e = .returned (.bool true) ∧ w = w' := h ▸ isPart_any a w
theorem isPart_no {a : Int} (h : mayB a = false) (w : World) : Calls Tryd.prog 21 #[.int .i64 a] w fun e w' => e = .returned (.bool false) ∧ w = w' := h ▸ isPart_any a w

theorem words_cat (a b c : Int) : (⟨#[112]⟩ ++ ⟨(Lib.itoa a).toArray⟩ ++ ⟨#[46]⟩ ++ ⟨(Lib.itoa b).toArray⟩ ++ ⟨#[46]⟩ ++ ⟨(Lib.itoa c).toArray⟩ : ByteArray) = ⟨(wordsL a b c).toArray⟩ := by
  apply ByteArray.ext
  simp [ByteArray.data_append, wordsL]

theorem of_drew {B : Nat} {W w' : World} (h : Below B W.drew w') : Below B W w' := ⟨h.os, h.tape, h.output, h.size, h.block⟩

theorem words_no (a b c : Int) (w : World) (h : mayAll a b c = false) :
    Calls Tryd.prog 10 #[.agg #[.int .i64 a, .int .i64 b, .int .i64 c]] w fun e w' => e = .returned (.tuple #[.string ⟨#[]⟩, .bool false]) ∧ Below w.heap.size w w' := by
  cases ha : mayB a
  · have H1 := Lib.hid (isPart_no ha)
    clear h ha
    go_enter Tryd.func10, Tryd.ntmps10
    go_wp2_with fail
    refine (H1.out _).mono ?_
    rintro e w' ⟨rfl, rfl⟩
    go_wp2
    go_ret2
    exact ⟨rfl, (Below.refl _ _).alloc (Nat.le_refl _) _⟩
  · have H1 := Lib.hid (isPart_yes ha)
    cases hb : mayB b
    · have H2 := Lib.hid (isPart_no hb)
      clear h ha hb
      go_enter Tryd.func10, Tryd.ntmps10
      go_wp2_with fail
      refine (H1.out _).mono ?_
      rintro e w' ⟨rfl, rfl⟩
      go_wp2_with fail
      refine (H2.out _).mono ?_
      rintro e w' ⟨rfl, rfl⟩
      go_wp2
      go_ret2
      exact ⟨rfl, (Below.refl _ _).alloc (Nat.le_refl _) _⟩
    · have hc : mayB c = false := by simpa [mayAll, ha, hb] using h
      have H2 := Lib.hid (isPart_yes hb)
      have H3 := Lib.hid (isPart_no hc)
      clear h ha hb hc
      go_enter Tryd.func10, Tryd.ntmps10
      go_wp2_with fail
      refine (H1.out _).mono ?_
      rintro e w' ⟨rfl, rfl⟩
      go_wp2_with fail
      refine (H2.out _).mono ?_
      rintro e w' ⟨rfl, rfl⟩
      go_wp2_with fail
      refine (H3.out _).mono ?_
      rintro e w' ⟨rfl, rfl⟩
      go_wp2
      go_ret2
      exact ⟨rfl, (Below.refl _ _).alloc (Nat.le_refl _) _⟩

set_option maxHeartbeats 1000000 in
theorem words_yes (a b c : Int) (w : World) (h : mayAll a b c = true) (hV : Vars w) :
    Calls Tryd.prog 10 #[.agg #[.int .i64 a, .int .i64 b, .int .i64 c]] w fun e w' => e = .returned (.tuple #[.string ⟨(wordsL a b c).toArray⟩, .bool true]) ∧ Below w.heap.size w w' := by
  have h' := h
  simp only [mayAll, Bool.and_eq_true] at h'
  obtain ⟨⟨ha, hb⟩, hc⟩ := h'
  obtain ⟨a0, a1⟩ := may_true ha
  obtain ⟨b0, b1⟩ := may_true hb
  obtain ⟨c0, c1⟩ := may_true hc
  have H1 := Lib.hid (isPart_yes ha)
  have H2 := Lib.hid (isPart_yes hb)
  have H3 := Lib.hid (isPart_yes hc)
  have HL := Lib.hid (words_len h)
  have HV := Lib.hid hV
  have ia := Lib.itoa_length_le a (by omega) (by omega)
  have ib := Lib.itoa_length_le b (by omega) (by omega)
  have ic := Lib.itoa_length_le c (by omega) (by omega)
  have IA := Lib.hid (itoa_any a (by omega) (by omega))
  have IB := Lib.hid (itoa_any b (by omega) (by omega))
  have IC := Lib.hid (itoa_any c (by omega) (by omega))
  clear h ha hb hc hV
  go_enter Tryd.func10, Tryd.ntmps10
  go_wp2_with fail
  refine (H1.out _).mono ?_
  rintro e w' ⟨rfl, rfl⟩
  go_wp2_with fail
  refine (H2.out _).mono ?_
  rintro e w' ⟨rfl, rfl⟩
  go_wp2_with fail
  refine (H3.out _).mono ?_
  rintro e w' ⟨rfl, rfl⟩
  go_wp2_with fail
  obtain ⟨W, hW⟩ : ∃ W, W = w.alloc (.cells #[.int .i64 a, .int .i64 b, .int .i64 c] 23) := ⟨_, rfl⟩
  obtain ⟨g, hg⟩ : ∃ g, g = w.heap.size := ⟨_, rfl⟩
  have x0 : W.cell? ⟨g, 0, none⟩ = some (.int .i64 a) := by rw [hW, hg]; simp
  have x1 : W.cell? ⟨g, 1, none⟩ = some (.int .i64 b) := by rw [hW, hg]; simp
  have x2 : W.cell? ⟨g, 2, none⟩ = some (.int .i64 c) := by rw [hW, hg]; simp
  have hgl : g < W.heap.size := by rw [hW, hg]; simp
  have HB : Hid (Below w.heap.size w W) := Lib.hid (by rw [hW]; exact (Below.refl _ _).alloc (Nat.le_refl _) _)
  have HW : Hid (Vars W.drew) := Lib.hid (HV.out.below (HB.out.drew) (Nat.le_refl _))
  have KS : Hid (∀ w', Below W.heap.size W w' → w'.cell? ⟨g, 0, none⟩ = some (.int .i64 a) ∧ w'.cell? ⟨g, 1, none⟩ = some (.int .i64 b) ∧ w'.cell? ⟨g, 2, none⟩ = some (.int .i64 c)) :=
    Lib.hid (fun w' hb => ⟨(hb.cell (p := ⟨g, 0, none⟩) hgl).trans x0, (hb.cell (p := ⟨g, 1, none⟩) hgl).trans x1, (hb.cell (p := ⟨g, 2, none⟩) hgl).trans x2⟩)
  rw [← hW, ← hg]
  have HG := Lib.hid hgl
  have n1 : ¬ 9223372036854775807 < 1 + (Lib.itoa a).length := by omega
  have n2 : ¬ 9223372036854775807 < 1 + (Lib.itoa a).length + 1 := by omega
  have n3 : ¬ 9223372036854775807 < 1 + (Lib.itoa a).length + 1 + (Lib.itoa b).length := by omega
  have n4 : ¬ 9223372036854775807 < 1 + (Lib.itoa a).length + 1 + (Lib.itoa b).length + 1 := by omega
  have n5 : ¬ 9223372036854775807 < 1 + (Lib.itoa a).length + 1 + (Lib.itoa b).length + 1 + (Lib.itoa c).length := by omega
  clear hW hg hgl H1 H2 H3
  go_region_held3 (fun w' => w'.cell? ⟨g, 0, none⟩ = some (.int .i64 a) ∧ w'.cell? ⟨g, 1, none⟩ = some (.int .i64 b) ∧ w'.cell? ⟨g, 2, none⟩ = some (.int .i64 c))
    (first | go_keep | exact KS.out _ k1 | exact KS.out _ k2 | exact KS.out _ k3)
    (first | (go_at_call 22; (with_reducible refine (IA.out _ HW.out).mono ?_); rintro e w4 ⟨rfl, b1⟩; have k1 := of_drew b1) | (go_at_call 22; (with_reducible refine (IB.out _ (HW.out.below b1 (Nat.le_refl _))).mono ?_); rintro e w5 ⟨rfl, b2⟩; have k2 := k1.trans (b2.mono k1.size)) | (go_at_call 22; (with_reducible refine (IC.out _ ((HW.out.below b1 (Nat.le_refl _)).below b2 (Nat.le_refl _))).mono ?_); rintro e w6 ⟨rfl, b3⟩; have k3 := k2.trans (b3.mono k2.size)))
  go_wp2
  refine bodyPost_ret (v := .tuple #[.string ⟨(wordsL a b c).toArray⟩, .bool true]) (by simp [results, Tryd.results10, go_sem, words_cat]) rfl ⟨rfl, ?_⟩
  exact HB.out.trans (k3.mono HB.out.size)

end Go.Proofs.YtbknfbobidgkkaaDoor
