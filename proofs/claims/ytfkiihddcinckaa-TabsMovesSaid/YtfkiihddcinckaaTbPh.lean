/- Layer 12: the program's Set, Clear, ClearAll, Resize of stops; of nil ones. -/
import Derived.Test.YtfkiihddcinckaaTbPg
set_option linter.unusedVariables false
namespace Go.Proofs.Ytfkiihddcinckaa.Tb
open Go.RowKit

section
variable {F : Nat → Prop} {w : World} {s : Value} {bs : List Bool} (h : IsSt F w s bs)
include h
theorem change_set (x : Int) : Calls Try.prog 38 #[s, .int .i64 x, .bool true] w (MPost F w s (setB bs x) (.bool (setOk bs x))) := by
  obtain ⟨g, rfl, hg, hF, hs, h1, h4⟩ := h
  by_cases ho : setOk bs x = true
  · obtain ⟨h0, hx, ha⟩ := setOk_iff.1 ho
    obtain ⟨k, rfl⟩ := Int.eq_ofNat_of_zero_le h0
    rw [Int.toNat_natCast] at ha
    refine (change_yes g bs.length (onL bs) k true w hs (by omega) h4 (by rw [onL_get, ha]; rfl)).mono ?_
    rintro e w' ⟨rfl, hs', ht⟩
    rw [ho]
    refine mpost hg hF (by rw [set_len]; exact hs') ht (by rw [set_len]; exact h1) (by rw [set_len]; exact h4) fun j hj => ?_
    rw [set_get _ _ _ _ (by rw [onL_len h4]; omega), onL_get, at_set]
    by_cases e : j = k
    · rw [if_pos e, if_pos ⟨ho, by rw [e]⟩]
    · rw [if_neg e, if_neg (fun hh => e (by have := hh.2; omega))]
  · have hf : setOk bs x = false := by simpa using ho
    have hb : setB bs x = bs := by unfold setB; rw [if_neg ho]
    rw [hf, hb]
    have fin : ∀ (e : Ending) (w' : World), e = .returned (.bool false) ∧ w = w' → MPost F w (.pointer (some ⟨g, 0, none⟩)) bs (.bool false) e w' := by
      rintro e w' ⟨rfl, rfl⟩
      exact mpost hg hF hs (turn_refl _ _) h1 h4 fun j _ => onL_get bs j
    by_cases h0 : x < 0
    · exact (change_neg g bs.length (onL bs) x true w hs h0).mono fin
    · by_cases hx : x ≥ (bs.length : Int)
      · exact (change_out g bs.length (onL bs) x true w hs (by omega) hx).mono fin
      · obtain ⟨k, rfl⟩ := Int.eq_ofNat_of_zero_le (by omega : 0 ≤ x)
        have ha : atB bs k = true := by
          by_cases ha : atB bs k = true
          · exact ha
          · exact absurd (setOk_iff.2 ⟨by omega, by omega, by rw [Int.toNat_natCast]; simpa using ha⟩) ho
        exact (change_same g bs.length (onL bs) k true w hs (by omega) h4 (by rw [onL_get, ha])).mono fin
theorem change_clr (x : Int) : Calls Try.prog 38 #[s, .int .i64 x, .bool false] w (MPost F w s (clrB bs x) (.bool (clrOk bs x))) := by
  obtain ⟨g, rfl, hg, hF, hs, h1, h4⟩ := h
  by_cases ho : clrOk bs x = true
  · obtain ⟨h0, ha⟩ := clrOk_iff.1 ho
    obtain ⟨k, rfl⟩ := Int.eq_ofNat_of_zero_le h0
    rw [Int.toNat_natCast] at ha
    have hk := at_lt ha
    refine (change_yes g bs.length (onL bs) k false w hs (by omega) h4 (by rw [onL_get, ha]; rfl)).mono ?_
    rintro e w' ⟨rfl, hs', ht⟩
    rw [ho]
    refine mpost hg hF (by rw [clr_len]; exact hs') ht (by rw [clr_len]; exact h1) (by rw [clr_len]; exact h4) fun j hj => ?_
    rw [set_get _ _ _ _ (by rw [onL_len h4]; omega), onL_get, at_clr]
    by_cases e : j = k
    · rw [if_pos e, if_pos ⟨ho, by rw [e]⟩]
    · rw [if_neg e, if_neg (fun hh => e (by have := hh.2; omega))]
  · have hf : clrOk bs x = false := by simpa using ho
    have hb : clrB bs x = bs := by unfold clrB; rw [if_neg ho]
    rw [hf, hb]
    have fin : ∀ (e : Ending) (w' : World), e = .returned (.bool false) ∧ w = w' → MPost F w (.pointer (some ⟨g, 0, none⟩)) bs (.bool false) e w' := by
      rintro e w' ⟨rfl, rfl⟩
      exact mpost hg hF hs (turn_refl _ _) h1 h4 fun j _ => onL_get bs j
    by_cases h0 : x < 0
    · exact (change_neg g bs.length (onL bs) x false w hs h0).mono fin
    · by_cases hx : x ≥ (bs.length : Int)
      · exact (change_out g bs.length (onL bs) x false w hs (by omega) hx).mono fin
      · obtain ⟨k, rfl⟩ := Int.eq_ofNat_of_zero_le (by omega : 0 ≤ x)
        have ha : atB bs k = false := by
          by_cases ha : atB bs k = true
          · exact absurd (clrOk_iff.2 ⟨by omega, by rw [Int.toNat_natCast]; exact ha⟩) ho
          · simpa using ha
        exact (change_same g bs.length (onL bs) k false w hs (by omega) h4 (by rw [onL_get, ha])).mono fin
theorem set_any (x : Int) : Calls Try.prog 12 #[s, .int .i64 x] w (MPost F w s (setB bs x) (.bool (setOk bs x))) := by
  have HC := Lib.hid (change_set h x)
  clear h
  generalize setOk bs x = ok at *
  generalize setB bs x = bs' at *
  go_enter Try.func12, Try.ntmps12
  go_wp2_with fail
  refine (show Calls _ _ _ _ _ from HC.out).mono ?_
  rintro e w1 ⟨rfl, q⟩
  have Q := Lib.hid q
  clear q HC
  go_wp2
  go_ret
  exact ⟨rfl, Q.out⟩
theorem clr_any (x : Int) : Calls Try.prog 14 #[s, .int .i64 x] w (MPost F w s (clrB bs x) (.bool (clrOk bs x))) := by
  have HC := Lib.hid (change_clr h x)
  clear h
  generalize clrOk bs x = ok at *
  generalize clrB bs x = bs' at *
  go_enter Try.func14, Try.ntmps14
  go_wp2_with fail
  refine (show Calls _ _ _ _ _ from HC.out).mono ?_
  rintro e w1 ⟨rfl, q⟩
  have Q := Lib.hid q
  clear q HC
  go_wp2
  go_ret
  exact ⟨rfl, Q.out⟩
theorem wipe_any : Calls Try.prog 16 #[s] w (MPost F w s (wipeB bs) (.tuple #[])) := by
  obtain ⟨g, rfl, hg, hF, hs, h1, h4⟩ := h
  refine (wipe_run g _ _ w hs).mono ?_
  rintro e w' ⟨rfl, hs', ht⟩
  refine mpost hg hF (by rw [wipe_len]; exact hs') ht (by rw [wipe_len]; exact h1) (by rw [wipe_len]; exact h4) fun j hj => ?_
  rw [clrN_get _ _ _ _ (by rw [onL_len h4]; omega), if_pos (by omega), at_wipe]
theorem size_any (x : Int) : Calls Try.prog 17 #[s, .int .i64 x] w (MPost F w s (sizeB bs x) (.tuple #[])) := by
  obtain ⟨g, rfl, hg, hF, hs, h1, h4⟩ := h
  obtain ⟨hm1, hm4⟩ := width_in x
  refine (resize_run g bs.length (bs.length : Nat) (onL bs) x w hs ⟨h1, h4⟩ (fun j hj => by rw [onL_get]; exact at_ge hj) (fun W on' hW => width_some g bs.length on' W hW h1)).mono ?_
  rintro e w' ⟨rfl, hs', ht⟩
  refine mpost hg hF (by rw [size_len]; exact hs') ht (by rw [size_len]; exact hm1) (by rw [size_len]; exact hm4) fun j hj => ?_
  rw [layB_get _ _ _ _ _ hj, at_size, onL_get]
  by_cases hjl : j < bs.length
  · rw [if_pos hjl, if_pos hjl]
  · rw [if_neg hjl, if_neg hjl]
    congr 1
    rw [Bool.eq_iff_iff, decide_eq_true_iff, decide_eq_true_iff]
    omega
end
/-! ### of nil stops -/
theorem set_nil (x : Int) (w : World) : Calls Try.prog 12 #[.pointer none, .int .i64 x] w fun e w' => e = .returned (.bool false) ∧ Below w.heap.size w w' := by
  have HC := Lib.hid (change_nil x true w)
  go_enter Try.func12, Try.ntmps12
  go_wp2_with fail
  refine (show Calls _ _ _ _ _ from HC.out).mono ?_
  rintro e w1 ⟨rfl, rfl⟩
  clear HC
  go_wp2
  go_ret
  exact ⟨rfl, Below.refl _ _⟩
theorem clr_nil (x : Int) (w : World) : Calls Try.prog 14 #[.pointer none, .int .i64 x] w fun e w' => e = .returned (.bool false) ∧ Below w.heap.size w w' := by
  have HC := Lib.hid (change_nil x false w)
  go_enter Try.func14, Try.ntmps14
  go_wp2_with fail
  refine (show Calls _ _ _ _ _ from HC.out).mono ?_
  rintro e w1 ⟨rfl, rfl⟩
  clear HC
  go_wp2
  go_ret
  exact ⟨rfl, Below.refl _ _⟩
theorem size_nil (x : Int) (w : World) : Calls Try.prog 17 #[.pointer none, .int .i64 x] w fun e w' => e = .returned (.tuple #[]) ∧ Below w.heap.size w w' := resize_nil x w
end Go.Proofs.Ytfkiihddcinckaa.Tb
