/- Layer 14: BackKnown's walk. -/
import Derived.Test.YtpanhkhiomgclaaBaCs
set_option linter.unusedVariables false
namespace Go.Proofs.Ytpanhkhiomgclaa.Ba
open Go.RowKit

theorem idx_strs (b o c : Nat) (W : World) : (Instr.indexAt 55 (.slice (some ⟨b, o, none⟩) 1 c) (.int .i64 0)).run Try.prog W = .ok (.pointer (some ⟨b, o, none⟩)) W := by
  have hs : ∀ W : World, (sizeOf (Try.prog.elem 55)).run Try.prog W = .ok 1 W := fun W => by kernel_rfl
  have := run_indexAt_slice (P := Try.prog) W 55 ⟨b, o, none⟩ 1 c .i64 0 (by kernel_rfl)
  rw [if_pos (by omega), hs] at this
  simpa [Result.andThen, add_oo] using this

set_option maxRecDepth 100000 in
set_option maxHeartbeats 8000000 in
theorem known_law (w : World) : Calls Try.prog 7 #[] w fun e w' => e = .returned (.bool true) ∧ Below w.heap.size w w' := by
  have K0 : Hid (Calls Try.prog 23 #[.int .i64 2] w fun e w' => ∃ s, e = .returned (.tuple #[s, .int .i64 0]) ∧ MineS w w' s 2 0 []) := Lib.hid (newS_any 2 w (by decide))
  go_enter Try.func7, Try.ntmps7
  go_wp2_with fail
  refine (show Calls _ _ _ _ _ from K0.out).mono ?_
  rintro e w0 ⟨s, rfl, h⟩
  obtain ⟨p, rfl⟩ := h.ptr
  have H := Lib.hid h
  clear h K0
  have K1 : Hid (Calls Try.prog 24 #[.pointer (some ⟨p, 0, none⟩), .string ⟨#[97]⟩] w0 fun e w' => e = .returned (.bool false) ∧ MineS w w' (.pointer (some ⟨p, 0, none⟩)) 2 0 [(⟨#[97]⟩ : ByteArray)]) := Lib.hid (putS_any H.out ⟨#[97]⟩ (by decide))
  clear H
  go_wp2_with fail
  refine (show Calls _ _ _ _ _ from K1.out).mono ?_
  rintro e w1 ⟨rfl, h⟩
  have H := Lib.hid h
  clear h K1
  have K1 : Hid (Calls Try.prog 24 #[.pointer (some ⟨p, 0, none⟩), .string ⟨#[98]⟩] w1 fun e w' => e = .returned (.bool false) ∧ MineS w w' (.pointer (some ⟨p, 0, none⟩)) 2 0 [(⟨#[97]⟩ : ByteArray), (⟨#[98]⟩ : ByteArray)]) := Lib.hid (putS_any H.out ⟨#[98]⟩ (by decide))
  clear H
  go_wp2_with fail
  refine (show Calls _ _ _ _ _ from K1.out).mono ?_
  rintro e w2 ⟨rfl, h⟩
  have H := Lib.hid h
  clear h K1
  have K1 : Hid (Calls Try.prog 24 #[.pointer (some ⟨p, 0, none⟩), .string ⟨#[99]⟩] w2 fun e w' => e = .returned (.bool true) ∧ MineS w w' (.pointer (some ⟨p, 0, none⟩)) 2 1 [(⟨#[98]⟩ : ByteArray), (⟨#[99]⟩ : ByteArray)]) := Lib.hid (putS_any H.out ⟨#[99]⟩ (by decide))
  clear H
  go_wp2_with fail
  refine (show Calls _ _ _ _ _ from K1.out).mono ?_
  rintro e w3 ⟨rfl, h⟩
  have H := Lib.hid h
  clear h K1
  have K1 : Hid (Calls Try.prog 25 #[.pointer (some ⟨p, 0, none⟩)] w3 fun e w' => e = .returned (.int .i64 2) ∧ MineS w w' (.pointer (some ⟨p, 0, none⟩)) 2 1 [(⟨#[98]⟩ : ByteArray), (⟨#[99]⟩ : ByteArray)]) := Lib.hid (lenS_any H.out)
  clear H
  go_wp2_with fail
  refine (show Calls _ _ _ _ _ from K1.out).mono ?_
  rintro e w4 ⟨rfl, h⟩
  have H := Lib.hid h
  clear h K1
  have K1 : Hid (Calls Try.prog 26 #[.pointer (some ⟨p, 0, none⟩)] w4 fun e w' => e = .returned (.int .i64 1) ∧ MineS w w' (.pointer (some ⟨p, 0, none⟩)) 2 1 [(⟨#[98]⟩ : ByteArray), (⟨#[99]⟩ : ByteArray)]) := Lib.hid (goneS_any H.out)
  clear H
  go_wp2_with fail
  refine (show Calls _ _ _ _ _ from K1.out).mono ?_
  rintro e w5 ⟨rfl, h⟩
  have H := Lib.hid h
  clear h K1
  have K1 : Hid (Calls Try.prog 27 #[.pointer (some ⟨p, 0, none⟩), .int .i64 0] w5 fun e w' => e = .returned (.tuple #[.string ⟨#[98]⟩, .bool true]) ∧ MineS w w' (.pointer (some ⟨p, 0, none⟩)) 2 1 [(⟨#[98]⟩ : ByteArray), (⟨#[99]⟩ : ByteArray)]) := Lib.hid (atS_any H.out 0 (in_small (by decide) (by decide)))
  clear H
  go_wp2_with fail
  refine (show Calls _ _ _ _ _ from K1.out).mono ?_
  rintro e w6 ⟨rfl, h⟩
  have H := Lib.hid h
  clear h K1
  have K1 : Hid (Calls Try.prog 27 #[.pointer (some ⟨p, 0, none⟩), .int .i64 2] w6 fun e w' => e = .returned (.tuple #[.string ⟨#[]⟩, .bool false]) ∧ MineS w w' (.pointer (some ⟨p, 0, none⟩)) 2 1 [(⟨#[98]⟩ : ByteArray), (⟨#[99]⟩ : ByteArray)]) := Lib.hid (atS_any H.out 2 (in_small (by decide) (by decide)))
  clear H
  go_wp2_with fail
  refine (show Calls _ _ _ _ _ from K1.out).mono ?_
  rintro e w7 ⟨rfl, h⟩
  have H := Lib.hid h
  clear h K1
  have K1 : Hid (Calls Try.prog 27 #[.pointer (some ⟨p, 0, none⟩), .int .i64 (-1)] w7 fun e w' => e = .returned (.tuple #[.string ⟨#[]⟩, .bool false]) ∧ MineS w w' (.pointer (some ⟨p, 0, none⟩)) 2 1 [(⟨#[98]⟩ : ByteArray), (⟨#[99]⟩ : ByteArray)]) := Lib.hid (atS_any H.out (-1) (in_small (by decide) (by decide)))
  clear H
  go_wp2_with fail
  refine (show Calls _ _ _ _ _ from K1.out).mono ?_
  rintro e w8 ⟨rfl, h⟩
  have H := Lib.hid h
  clear h K1
  have K1 : Hid (Calls Try.prog 28 #[.pointer (some ⟨p, 0, none⟩), .int .i64 1] w8 fun e w' => ∃ b o c, e = .returned (.slice (some ⟨b, o, none⟩) 1 c) ∧ w'.cell? ⟨b, o, none⟩ = some (.string ⟨#[99]⟩) ∧ MineS w w' (.pointer (some ⟨p, 0, none⟩)) 2 1 [(⟨#[98]⟩ : ByteArray), (⟨#[99]⟩ : ByteArray)]) := Lib.hid ((lastS_any H.out 1 (in_small (by decide) (by decide))).mono fun e w' ⟨A, c, he, hl, hm⟩ => by
    obtain ⟨A', c', e', -, -, hc⟩ := hl
    obtain ⟨b, o, rfl, -, hq⟩ := hc (by decide)
    injection e' with e1 e2 e3
    subst e1 e3
    exact ⟨b, o, c, he, hq 0 (by decide), hm⟩)
  clear H
  go_wp2_with fail
  refine (show Calls _ _ _ _ _ from K1.out).mono ?_
  rintro e w9 ⟨b, o, c, rfl, qc, h⟩
  have ic := idx_strs b o c
  have H := Lib.hid h
  clear h K1
  have K1 : Hid (Calls Try.prog 28 #[.pointer (some ⟨p, 0, none⟩), .int .i64 0] w9 fun e w' => ∃ A c, e = .returned (.slice A 0 c) ∧ MineS w w' (.pointer (some ⟨p, 0, none⟩)) 2 1 [(⟨#[98]⟩ : ByteArray), (⟨#[99]⟩ : ByteArray)]) := Lib.hid ((lastS_any H.out 0 (in_small (by decide) (by decide))).mono fun e w' ⟨A, c, he, hl, hm⟩ => ⟨A, c, he, hm⟩)
  clear H
  go_wp2_with fail
  refine (show Calls _ _ _ _ _ from K1.out).mono ?_
  rintro e w10 ⟨A10, c10, rfl, h⟩
  have H := Lib.hid h
  clear h K1
  have K1 : Hid (Calls Try.prog 28 #[.pointer (some ⟨p, 0, none⟩), .int .i64 (-1)] w10 fun e w' => ∃ A c, e = .returned (.slice A 0 c) ∧ MineS w w' (.pointer (some ⟨p, 0, none⟩)) 2 1 [(⟨#[98]⟩ : ByteArray), (⟨#[99]⟩ : ByteArray)]) := Lib.hid ((lastS_any H.out (-1) (in_small (by decide) (by decide))).mono fun e w' ⟨A, c, he, hl, hm⟩ => ⟨A, c, he, hm⟩)
  clear H
  go_wp2_with fail
  refine (show Calls _ _ _ _ _ from K1.out).mono ?_
  rintro e w11 ⟨A11, c11, rfl, h⟩
  have H := Lib.hid h
  clear h K1
  have K1 : Hid (Calls Try.prog 29 #[.pointer (some ⟨p, 0, none⟩)] w11 fun e w' => e = .returned (.tuple #[.string ⟨#[99]⟩, .bool true]) ∧ MineS w w' (.pointer (some ⟨p, 0, none⟩)) 2 1 [(⟨#[98]⟩ : ByteArray)]) := Lib.hid (popS_any H.out)
  clear H
  go_wp2_with fail
  refine (show Calls _ _ _ _ _ from K1.out).mono ?_
  rintro e w12 ⟨rfl, h⟩
  have H := Lib.hid h
  clear h K1
  have K1 : Hid (Calls Try.prog 29 #[.pointer (some ⟨p, 0, none⟩)] w12 fun e w' => e = .returned (.tuple #[.string ⟨#[98]⟩, .bool true]) ∧ MineS w w' (.pointer (some ⟨p, 0, none⟩)) 2 1 []) := Lib.hid (popS_any H.out)
  clear H
  go_wp2_with fail
  refine (show Calls _ _ _ _ _ from K1.out).mono ?_
  rintro e w13 ⟨rfl, h⟩
  have H := Lib.hid h
  clear h K1
  have K1 : Hid (Calls Try.prog 29 #[.pointer (some ⟨p, 0, none⟩)] w13 fun e w' => e = .returned (.tuple #[.string ⟨#[]⟩, .bool false]) ∧ MineS w w' (.pointer (some ⟨p, 0, none⟩)) 2 1 []) := Lib.hid (popS_any H.out)
  clear H
  go_wp2_with fail
  refine (show Calls _ _ _ _ _ from K1.out).mono ?_
  rintro e w14 ⟨rfl, h⟩
  have H := Lib.hid h
  clear h K1
  have K1 : Hid (Calls Try.prog 24 #[.pointer (some ⟨p, 0, none⟩), .string ⟨#[100]⟩] w14 fun e w' => e = .returned (.bool false) ∧ MineS w w' (.pointer (some ⟨p, 0, none⟩)) 2 1 [(⟨#[100]⟩ : ByteArray)]) := Lib.hid (putS_any H.out ⟨#[100]⟩ (by decide))
  clear H
  go_wp2_with fail
  refine (show Calls _ _ _ _ _ from K1.out).mono ?_
  rintro e w15 ⟨rfl, h⟩
  have H := Lib.hid h
  clear h K1
  have K1 : Hid (Calls Try.prog 25 #[.pointer (some ⟨p, 0, none⟩)] w15 fun e w' => e = .returned (.int .i64 1) ∧ MineS w w' (.pointer (some ⟨p, 0, none⟩)) 2 1 [(⟨#[100]⟩ : ByteArray)]) := Lib.hid (lenS_any H.out)
  clear H
  go_wp2_with fail
  refine (show Calls _ _ _ _ _ from K1.out).mono ?_
  rintro e w16 ⟨rfl, h⟩
  have H := Lib.hid h
  clear h K1
  have HB := Lib.hid H.out.below
  clear H
  have K1 : Hid (Calls Try.prog 9 #[.int .i64 0] w16 fun e w' => ∃ s, e = .returned (.tuple #[s, .int .i64 0]) ∧ MineB w w' s 0 0 []) := Lib.hid ((new_any 0 w16 (in_small (by decide) (by decide))).mono fun e w' hp => mine_new (by decide) HB.out hp)
  go_wp2_with fail
  refine (show Calls _ _ _ _ _ from K1.out).mono ?_
  rintro e w17 ⟨z, rfl, h⟩
  obtain ⟨pz, rfl⟩ := h.ptr
  have H := Lib.hid h
  have HB := Lib.hid h.below
  clear h K1
  have K1 : Hid (Calls Try.prog 9 #[.int .i64 (-1)] w17 fun e w' => e = .returned (.tuple #[.pointer none, .int .i64 1]) ∧ MineB w w' (.pointer (some ⟨pz, 0, none⟩)) 0 0 []) := Lib.hid ((new_any (-1) w17 (in_small (by decide) (by decide))).mono fun e w' ⟨hb, hh⟩ => ⟨hh, H.out.old hb⟩)
  clear H
  go_wp2_with fail
  refine (show Calls _ _ _ _ _ from K1.out).mono ?_
  rintro e w18 ⟨rfl, h⟩
  have H := Lib.hid h
  clear h K1
  have K1 : Hid (Calls Try.prog 9 #[.int .i64 501] w18 fun e w' => e = .returned (.tuple #[.pointer none, .int .i64 1]) ∧ MineB w w' (.pointer (some ⟨pz, 0, none⟩)) 0 0 []) := Lib.hid ((new_any 501 w18 (in_small (by decide) (by decide))).mono fun e w' ⟨hb, hh⟩ => ⟨hh, H.out.old hb⟩)
  clear H
  go_wp2_with fail
  refine (show Calls _ _ _ _ _ from K1.out).mono ?_
  rintro e w19 ⟨rfl, h⟩
  have H := Lib.hid h
  clear h K1
  have K1 : Hid (Calls Try.prog 9 #[.int .i64 500] w19 fun e w' => (∃ q, e = .returned (.tuple #[.pointer (some ⟨q, 0, none⟩), .int .i64 0])) ∧ MineB w w' (.pointer (some ⟨pz, 0, none⟩)) 0 0 []) := Lib.hid ((new_any 500 w19 (in_small (by decide) (by decide))).mono fun e w' hp => by
    have hb := hp.1
    obtain ⟨s, he, hm⟩ := mine_new (w := w) (by decide) H.out.below hp
    obtain ⟨q, rfl⟩ := hm.ptr
    exact ⟨⟨q, he⟩, H.out.old hb⟩)
  clear H
  go_wp2_with fail
  refine (show Calls _ _ _ _ _ from K1.out).mono ?_
  rintro e w20 ⟨⟨q, rfl⟩, h⟩
  have H := Lib.hid h
  clear h K1
  have K1 : Hid (Calls Try.prog 10 #[.pointer (some ⟨pz, 0, none⟩), .int .i64 1] w20 fun e w' => e = .returned (.bool true) ∧ MineB w w' (.pointer (some ⟨pz, 0, none⟩)) 0 1 []) := Lib.hid ((mine_put H.out 1 (by decide)).mono fun e w' ⟨he, hm, _⟩ => ⟨he, hm⟩)
  clear H
  go_wp2_with fail
  refine (show Calls _ _ _ _ _ from K1.out).mono ?_
  rintro e w21 ⟨rfl, h⟩
  have H := Lib.hid h
  clear h K1
  have K1 : Hid (Calls Try.prog 15 #[.pointer (some ⟨pz, 0, none⟩)] w21 fun e w' => e = .returned (.int .i64 0) ∧ MineB w w' (.pointer (some ⟨pz, 0, none⟩)) 0 1 []) := Lib.hid ((mine_len H.out).mono fun e w' ⟨he, hm, _⟩ => ⟨he, hm⟩)
  clear H
  go_wp2_with fail
  refine (show Calls _ _ _ _ _ from K1.out).mono ?_
  rintro e w22 ⟨rfl, h⟩
  have H := Lib.hid h
  clear h K1
  have K1 : Hid (Calls Try.prog 16 #[.pointer (some ⟨pz, 0, none⟩)] w22 fun e w' => e = .returned (.int .i64 1) ∧ MineB w w' (.pointer (some ⟨pz, 0, none⟩)) 0 1 []) := Lib.hid ((mine_gone H.out).mono fun e w' ⟨he, hm, _⟩ => ⟨he, hm⟩)
  clear H
  go_wp2_with fail
  refine (show Calls _ _ _ _ _ from K1.out).mono ?_
  rintro e w23 ⟨rfl, h⟩
  have H := Lib.hid h
  clear h K1
  have K1 := Lib.hid (wakes_any w23)
  have HB := Lib.hid H.out.below
  go_wp2_with fail
  refine (show Calls _ _ _ _ _ from K1.out).mono ?_
  rintro e wz ⟨rfl, hb⟩
  go_wp2
  go_ret
  exact ⟨rfl, HB.out.trans (hb.mono HB.out.size)⟩
end Go.Proofs.Ytpanhkhiomgclaa.Ba
