/- Layer 1: a nil lattice, and one that nobody made: no labels. -/
import Derived.Test.YtnccnaadhknfbaaLatN
namespace Go.Proofs.Ytnccnaadhknfbaa
open Go.RowKit Lat

/-- A nil pointer, or one to a struct whose sets are nil. -/
def NoLat (w : World) (v : Value) : Prop := v = .pointer none ∨ ∃ lb, v = .pointer (some ⟨lb, 0, none⟩) ∧ w.cell? ⟨lb, 0, none⟩ = some (.slice none 0 0)

theorem len_0 (v : Value) (w : World) (h : NoLat w v) : Calls Try.prog 12 #[v] w fun e w' => e = .returned (.int .i64 0) ∧ w = w' := by
  rcases h with rfl | ⟨lb, rfl, hc⟩
  · exact len_nil w
  · go_enter Try.func12, Try.ntmps12
    go_wp2
    go_ret
    exact ⟨rfl, rfl⟩

theorem isLabel_0 (v : Value) (a : Int) (w : World) (h : NoLat w v) : Calls Try.prog 30 #[v, .int .i64 a] w fun e w' => e = .returned (.bool false) ∧ w = w' := by
  have H := Lib.hid h; clear h
  by_cases h0 : 0 ≤ a
  · have hd : decide (a < 0) = false := by simpa using h0
    go_enter Try.func30, Try.ntmps30
    go_wp2_with (go_at_call 12; refine (len_0 _ _ H.out).mono ?_; rintro e w' ⟨rfl, rfl⟩)
    go_ret
    exact ⟨rfl, rfl⟩
  · have hd : decide (0 ≤ a) = false := by simpa using h0
    go_enter Try.func30, Try.ntmps30
    go_wp2_with (go_at_call 12; refine (len_0 _ _ H.out).mono ?_; rintro e w' ⟨rfl, rfl⟩)
    go_ret
    exact ⟨rfl, rfl⟩

theorem below_0 (v : Value) (a b : Int) (w : World) (h : NoLat w v) : Calls Try.prog 21 #[v, .int .i64 a, .int .i64 b] w fun e w' => e = .returned (.bool false) ∧ w = w' := by
  have H := Lib.hid h; clear h
  go_enter Try.func21, Try.ntmps21
  go_wp2_with (go_at_call 30; refine (isLabel_0 _ _ _ H.out).mono ?_; rintro e w' ⟨rfl, rfl⟩)
  go_ret
  exact ⟨rfl, rfl⟩

theorem join_0 (v : Value) (a b : Int) (w : World) (h : NoLat w v) : Calls Try.prog 15 #[v, .int .i64 a, .int .i64 b] w fun e w' => e = .returned (.int .i64 (-1)) ∧ w = w' := by
  have H := Lib.hid h; clear h
  go_enter Try.func15, Try.ntmps15
  go_wp2_with (go_at_call 30; refine (isLabel_0 _ _ _ H.out).mono ?_; rintro e w' ⟨rfl, rfl⟩)
  go_ret
  exact ⟨rfl, rfl⟩

theorem meet_0 (v : Value) (a b : Int) (w : World) (h : NoLat w v) : Calls Try.prog 16 #[v, .int .i64 a, .int .i64 b] w fun e w' => e = .returned (.int .i64 (-1)) ∧ w = w' := by
  have H := Lib.hid h; clear h
  go_enter Try.func16, Try.ntmps16
  go_wp2_with (go_at_call 30; refine (isLabel_0 _ _ _ H.out).mono ?_; rintro e w' ⟨rfl, rfl⟩)
  go_ret
  exact ⟨rfl, rfl⟩

theorem top_0 (v : Value) (w : World) (h : NoLat w v) : Calls Try.prog 13 #[v] w fun e w' => e = .returned (.int .i64 (-1)) ∧ w = w' := by
  have H := Lib.hid h; clear h
  go_enter Try.func13, Try.ntmps13
  go_wp2_with (go_at_call 12; refine (len_0 _ _ H.out).mono ?_; rintro e w' ⟨rfl, rfl⟩)
  go_ret
  exact ⟨rfl, rfl⟩

theorem bottom_0 (v : Value) (w : World) (h : NoLat w v) : Calls Try.prog 14 #[v] w fun e w' => e = .returned (.int .i64 (-1)) ∧ w = w' := by
  have H := Lib.hid h; clear h
  go_enter Try.func14, Try.ntmps14
  go_wp2_with (go_at_call 12; refine (len_0 _ _ H.out).mono ?_; rintro e w' ⟨rfl, rfl⟩)
  go_ret
  exact ⟨rfl, rfl⟩

theorem downset_0 (v : Value) (a : Int) (w : World) (h : NoLat w v) : Calls Try.prog 22 #[v, .int .i64 a] w fun e w' => e = .returned (.slice none 0 0) ∧ w = w' := by
  have H := Lib.hid h; clear h
  go_enter Try.func22, Try.ntmps22
  go_wp2_with (go_at_call 30; refine (isLabel_0 _ _ _ H.out).mono ?_; rintro e w' ⟨rfl, rfl⟩)
  go_ret
  exact ⟨rfl, rfl⟩

set_option maxHeartbeats 1600000 in
theorem nobody_any (a b : Int) (w : World) : Calls Try.prog 6 #[.int .i64 a, .int .i64 b] w fun e w' => e = .returned (.bool true) ∧ Below w.heap.size w w' := by
  go_enter Try.func6, Try.ntmps6
  go_wp2_with fail
  refine (awake_any w).mono ?_
  rintro e w1 ⟨rfl, hB⟩
  have HB := Lib.hid hB; clear hB
  have HN := Lib.hid (fun W : World => show NoLat W (.pointer none) from Or.inl rfl)
  have HE := Lib.hid (show NoLat (w1.alloc (.cells #[.slice none 0 0, .slice none 0 0, .int .u32 0, .int .i32 0, .int .u32 0, .slice none 0 0, .slice none 0 0] 53)) (.pointer (some ⟨w1.heap.size, 0, none⟩)) from Or.inr ⟨_, rfl, by simp⟩)
  go_wp2_with (first | (go_at_call_of 12 (Value.pointer none); refine (len_0 _ _ (HN.out _)).mono ?_; rintro e w' ⟨rfl, rfl⟩) | (go_at_call_of 21 (Value.pointer none); refine (below_0 _ _ _ _ (HN.out _)).mono ?_; rintro e w' ⟨rfl, rfl⟩) | (go_at_call_of 15 (Value.pointer none); refine (join_0 _ _ _ _ (HN.out _)).mono ?_; rintro e w' ⟨rfl, rfl⟩) | (go_at_call_of 16 (Value.pointer none); refine (meet_0 _ _ _ _ (HN.out _)).mono ?_; rintro e w' ⟨rfl, rfl⟩) | (go_at_call_of 13 (Value.pointer none); refine (top_0 _ _ (HN.out _)).mono ?_; rintro e w' ⟨rfl, rfl⟩) | (go_at_call_of 14 (Value.pointer none); refine (bottom_0 _ _ (HN.out _)).mono ?_; rintro e w' ⟨rfl, rfl⟩) | (go_at_call_of 22 (Value.pointer none); refine (downset_0 _ _ _ (HN.out _)).mono ?_; rintro e w' ⟨rfl, rfl⟩) | (go_at_call 12; refine (len_0 _ _ HE.out).mono ?_; rintro e w' ⟨rfl, rfl⟩) | (go_at_call 21; refine (below_0 _ _ _ _ HE.out).mono ?_; rintro e w' ⟨rfl, rfl⟩) | (go_at_call 15; refine (join_0 _ _ _ _ HE.out).mono ?_; rintro e w' ⟨rfl, rfl⟩) | (go_at_call 13; refine (top_0 _ _ HE.out).mono ?_; rintro e w' ⟨rfl, rfl⟩) | (go_at_call 14; refine (bottom_0 _ _ HE.out).mono ?_; rintro e w' ⟨rfl, rfl⟩) | (go_at_call 22; refine (downset_0 _ _ _ HE.out).mono ?_; rintro e w' ⟨rfl, rfl⟩))
  go_ret
  exact ⟨rfl, HB.out.alloc HB.out.size _⟩
end Go.Proofs.Ytnccnaadhknfbaa
