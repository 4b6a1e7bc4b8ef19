/- Layer 15: windows of lines; the program's behind. -/
import Derived.Test.YtifolcfnknlmdaaRePe
set_option linter.unusedVariables false
namespace Go.Proofs.Ytifolcfnknlmdaa.Re
open Go.RowKit Go.Proofs.Ytifolcfnknlmdaa.Rw

theorem line_under : Try.prog.underlying 22 = some (.slice (Try.prog.elem 22)) := by kernel_rfl
theorem line_size (W : World) : (sizeOf (Try.prog.elem 22)).run Try.prog W = .ok 3 W := by kernel_rfl
theorem lget_drop (l : List LnC) (x k : Nat) : (l.drop x).getD k noLn = l.getD (x + k) noLn := by
  rw [List.getD_eq_getElem?_getD, List.getD_eq_getElem?_getD, List.getElem?_drop]
theorem lget_take (l : List LnC) (x k : Nat) (h : k < x) : (l.take x).getD k noLn = l.getD k noLn := by
  rw [List.getD_eq_getElem?_getD, List.getD_eq_getElem?_getD, List.getElem?_take, if_pos h]
/-- From x to y. -/
theorem win_lines {F : Nat → Prop} {w : World} {A : Option Addr} {n c : Nat} {ls : List LnC} (h : LinesAt F w (.slice A n c) ls) (x y : Nat) (hxy : x ≤ y) (hy : y ≤ n) (h0 : 0 < n) : ∃ p d, (∀ W, (Instr.slice 22 (.slice A n c) (some (.int .i64 (x : Int))) (some (.int .i64 (y : Int))) none).run Try.prog W = .ok (.slice p (y - x) d) W) ∧ LinesAt F w (.slice p (y - x) d) ((ls.take y).drop x) := by
  have hl := h.len
  obtain ⟨b, o, u, rfl, hf, hb, -⟩ := h.at_ (k := 0) h0
  have hll : ((ls.take y).drop x).length = y - x := by rw [List.length_drop, List.length_take, ← hl.1]; omega
  refine ⟨if c = x then some ⟨b, o, none⟩ else some ⟨b, o + x * 3, none⟩, c - x, fun W => ?_, ?_⟩
  · rw [run_slice_lh W 22 (some ⟨b, o, none⟩) n c line_under .i64 .i64 (x : Int) (y : Int) (by omega) (by omega) (by omega), line_size]
    simp only [Result.andThen, sliced, Int.toNat_natCast, Option.map_some, add_oo]
  · refine ⟨_, c - x, by rw [hll], fun e => ?_, by omega, fun hp => ?_⟩
    · split at e <;> cases e
    · rw [hll] at hp
      rw [if_neg (by omega : ¬ c = x)]
      refine ⟨b, o + x * 3, rfl, hf, hb, fun k hk => ?_⟩
      rw [hll] at hk
      obtain ⟨b', o', u', e, -, -, q⟩ := h.at_ (k := x + k) (by omega)
      cases e
      rw [lget_drop, lget_take _ _ _ (by omega), show o + x * 3 + k * 3 = o + (x + k) * 3 by omega]
      exact ⟨u', q⟩
/-- Up to y. -/
theorem to_lines {F : Nat → Prop} {w : World} {A : Option Addr} {n c : Nat} {ls : List LnC} (h : LinesAt F w (.slice A n c) ls) (y : Nat) (hy : y ≤ n) (h0 : 0 < n) : (∀ W, (Instr.slice 22 (.slice A n c) none (some (.int .i64 (y : Int))) none).run Try.prog W = .ok (.slice A y c) W) ∧ LinesAt F w (.slice A y c) (ls.take y) := by
  have hl := h.len
  obtain ⟨b, o, u, rfl, hf, hb, -⟩ := h.at_ (k := 0) h0
  have hll : (ls.take y).length = y := by rw [List.length_take, ← hl.1]; omega
  refine ⟨fun W => ?_, ⟨_, c, by rw [hll], fun e => (by cases e), by omega, fun hp => ⟨b, o, rfl, hf, hb, fun k hk => ?_⟩⟩⟩
  · rw [run_slice_h W 22 (some ⟨b, o, none⟩) n c line_under .i64 (y : Int) (by omega) (by omega), line_size]
    simp [Result.andThen, sliced]
    try (intro _; exact (add_oo _ _ _).trans rfl)
  · rw [hll] at hk
    obtain ⟨b', o', u', e, -, -, q⟩ := h.at_ (k := k) (by omega)
    cases e
    rw [lget_take _ _ _ hk]
    exact ⟨u', q⟩
/-- How many columns stand ahead of column x of line y. -/
def behindV (p : List LnC) (x y : Nat) : Nat := aheadV p y + (if y + 1 < p.length then min x (cntN (p.getD y noLn)) else x)
theorem ahead_take (p : List LnC) (y : Nat) : ∀ j, j ≤ y → aheadV (p.take y) j = aheadV p j
  | 0, _ => rfl
  | j + 1, h => by rw [aheadV, aheadV, ahead_take p y j (by omega), lget_take _ _ _ (by omega)]
set_option maxRecDepth 100000 in
set_option maxHeartbeats 8000000 in
/-- The lines ahead, counted. -/
theorem behind_any {F : Nat → Prop} {v : Value} {p : List LnC} {w : World} (h : LinesAt F w v p) (hl : p.length ≤ 100000) (hs : sumV p ≤ 100000) (x y : Nat) (hx : x ≤ 100000000) (hy : y < p.length) : Calls Try.prog 26 #[v, .int .i64 (x : Int), .int .i64 (y : Int)] w fun e w' => e = .returned (.int .i64 (behindV p x y : Int)) ∧ Below w.heap.size w w' := by
  obtain ⟨A, c, rfl, -⟩ := id h
  obtain ⟨n, hn⟩ : ∃ n, n = p.length := ⟨_, rfl⟩
  rw [← hn] at h hl ⊢
  obtain ⟨b, o, u, rfl, -, hb, q0, q1, q2, r0⟩ := h.at_ (k := y) (by omega)
  obtain ⟨A', c', rfl, -⟩ := id r0.1
  obtain ⟨N, hN⟩ : ∃ N, N = (p.getD y noLn).cells.length := ⟨_, rfl⟩
  obtain ⟨M, hM⟩ : ∃ M, M = cntN (p.getD y noLn) := ⟨_, rfl⟩
  have hNs : N ≤ 100000 := by rw [hN]; exact Nat.le_trans (cells_le p y) hs
  have hMN : M ≤ N := by rw [hM, hN]; exact cntN_le _
  rw [← hN] at q0
  obtain ⟨J, hJ⟩ : ∃ J, J = (p.getD y noLn).joined := ⟨_, rfl⟩
  obtain ⟨Sh, hSh⟩ : ∃ J, J = (p.getD y noLn).short := ⟨_, rfl⟩
  rw [← hJ] at q1
  rw [← hSh] at q2
  have i1 := idx_line b o n c y (by omega)
  have hto := to_lines h y (by omega) (by omega)
  have i2 := hto.1
  have HT := Lib.hid hto.2
  have KC : Hid (∀ V, Calls Try.prog 34 #[.agg #[.slice A' N c', .bool J, .bool Sh]] V fun e w' => e = .returned (.int .i64 (M : Int)) ∧ Below V.heap.size V w') := Lib.hid (fun V => by
    refine (counts_any (A := A') (c := c') J Sh V (n := N) (by omega)).mono fun e w' ⟨he, hb⟩ => ⟨?_, hb⟩
    rw [he, hM, cntN, ← hN, hJ, hSh])
  have z1 : IntKind.i64.wrap ((n : Int) - 1) = ((n - 1 : Nat) : Int) := by rw [IntWalk.i64_in _ (by omega)]; omega
  obtain ⟨n1, hn1⟩ : ∃ n1, n1 = n - 1 := ⟨_, rfl⟩
  rw [← hn1] at z1
  have HS := Lib.hid hs
  have HN := Lib.hid hn
  have HA : Hid (∀ j, j ≤ y → aheadV (p.take y) j = aheadV p j ∧ aheadV p j ≤ 100000) := Lib.hid fun j hj => ⟨ahead_take p y j hj, Nat.le_trans (ahead_le p j) hs⟩
  have HH := Lib.hid h
  have HM := Lib.hid hM
  have HYn := Lib.hid hy
  obtain ⟨X2, hX2⟩ : ∃ X2, X2 = (if y + 1 < n then min x M else x) := ⟨_, rfl⟩
  have HR : Hid (aheadV p y + X2 = behindV p x y) := Lib.hid (by unfold behindV; rw [← hn, ← hM, hX2])
  have hways : (y < n1 ∧ ((M < x ∧ X2 = M) ∨ (¬ M < x ∧ X2 = x))) ∨ (¬ y < n1 ∧ X2 = x) := by
    by_cases h1 : y < n1
    · refine Or.inl ⟨h1, ?_⟩
      rw [if_pos (by omega)] at hX2
      omega
    · refine Or.inr ⟨h1, ?_⟩
      rw [if_neg (by omega)] at hX2
      exact hX2
  have hy5 : y ≤ 100000 := by omega
  clear h hl hs hn hy hN hM hJ hSh hto hn1 hMN hb r0 hX2
  rcases hways with ⟨h1, ⟨hv, he⟩ | ⟨hv, he⟩⟩ | ⟨h1, he⟩
  · have g3 : decide ((M : Int) < (x : Int)) = true := by simp; omega
    have g3' : decide (M < x) = true := by simp; omega
    have hv' : (M : Int) < (x : Int) := by omega
    have g1 : decide ((y : Int) < (n1 : Int)) = true := by simp; omega
    have g1' : decide (y < n1) = true := by simp; omega
    have HX9 : Hid (X2 ≤ 100000000) := Lib.hid (by omega)
    have HE := Lib.hid he
    clear he h1
    go_enter Try.func26, Try.ntmps26
    go_wp2_with fail
    refine (show Calls _ _ _ _ _ from (KC.out _)).mono ?_
    rintro e w1 ⟨rfl, b1⟩
    have HB1 := Lib.hid b1
    clear b1 KC q0 q1 q2
    go_wp2
    rw [show (M : Int) = (X2 : Int) by rw [HE.out]]
    go_loopw [7, 27] (fun xv jv wr => ∃ (j : Nat) (wz : World), wz = wr ∧ j ≤ y ∧ jv = .int .i64 (j : Int) ∧ xv = .int .i64 ((X2 + aheadV p j : Nat) : Int) ∧ Hid (Below w.heap.size w wz)) (fun _ jv _ => y - (RowKit.intOf jv).toNat)
    case atStart => exact ⟨0, _, rfl, Nat.zero_le _, rfl, by rw [aheadV, Nat.add_zero], HB1⟩
    case round =>
      obtain ⟨j, wr, rfl, hj, rfl, rfl, HB⟩ := hrel
      have hT := HA.out j hj
      obtain ⟨T, hTq⟩ : ∃ T, T = X2 + aheadV p j := ⟨_, rfl⟩
      have hT9 : T ≤ 100100000 := by have := hT.2; have := HX9.out; omega
      rw [← hTq]
      by_cases hlt : j < y
      · have glt : decide ((j : Int) < (y : Int)) = true := by simp; omega
        have glt' : decide (j < y) = true := by simp; omega
        obtain ⟨b3, o3, u3, e3, -, hb3, p0, p1, p2, r3⟩ := HT.out.at_ hlt
        cases e3
        obtain ⟨A3, c3, rfl, -⟩ := id r3.1
        rw [lget_take _ _ _ hlt] at p0 p1 p2
        obtain ⟨N3, hN3⟩ : ∃ N, N = (p.getD j noLn).cells.length := ⟨_, rfl⟩
        obtain ⟨M3, hM3⟩ : ∃ M, M = cntN (p.getD j noLn) := ⟨_, rfl⟩
        have hNs3 : N3 ≤ 100000 := by rw [hN3]; exact Nat.le_trans (cells_le p j) HS.out
        have hMN3 : M3 ≤ N3 := by rw [hM3, hN3]; exact cntN_le _
        rw [← hN3] at p0
        obtain ⟨J3, hJ3⟩ : ∃ J, J = (p.getD j noLn).joined := ⟨_, rfl⟩
        obtain ⟨S3, hS3⟩ : ∃ J, J = (p.getD j noLn).short := ⟨_, rfl⟩
        rw [← hJ3] at p1
        rw [← hS3] at p2
        have i3 := idx_line b o y c j hlt
        have d0 := (HB.out.cell (p := ⟨b, o + j * 3, none⟩) hb3).trans p0
        have d1 := (HB.out.cell (p := ⟨b, o + j * 3 + 1, none⟩) hb3).trans p1
        have d2 := (HB.out.cell (p := ⟨b, o + j * 3 + 2, none⟩) hb3).trans p2
        have K3 : Hid (Calls Try.prog 34 #[.agg #[.slice A3 N3 c3, .bool J3, .bool S3]] (wr.alloc (.cells #[.slice A3 N3 c3, .bool J3, .bool S3] pLine)) fun e w' => e = .returned (.int .i64 (M3 : Int)) ∧ Below w.heap.size w w') := Lib.hid (by
          have hal := HB.out.alloc HB.out.size (.cells #[.slice A3 N3 c3, .bool J3, .bool S3] pLine)
          refine (counts_any (A := A3) (c := c3) J3 S3 _ (n := N3) (by omega)).mono fun e w' ⟨he, hb⟩ => ⟨?_, hal.trans (hb.mono hal.size)⟩
          rw [he, hM3, cntN, ← hN3, hJ3, hS3])
        have zT : IntKind.i64.wrap ((T : Int) + (M3 : Int)) = ((X2 + aheadV p (j + 1) : Nat) : Int) := by
          rw [IntWalk.i64_in _ (by omega), hTq, aheadV, cntN_len, ← hM3]; omega
        have hnew := heap_alloc_new wr (.cells #[.slice A3 N3 c3, .bool J3, .bool S3] pLine)
        clear r3 hN3 hM3 hJ3 hS3 hMN3 p0 p1 p2 hb3 hT hTq hnew
        go_wp2_with fail
        refine (show Calls _ _ _ _ _ from K3.out).mono ?_
        rintro e w3 ⟨rfl, b3⟩
        have HB3 := Lib.hid b3
        clear b3 K3
        go_wp2
        go_roundw
        case rel => exact ⟨j + 1, _, rfl, hlt, by go_num, rfl, HB3⟩
        case measure => simp [RowKit.intOf]; omega
      · have hjy : j = y := by omega
        have glt : decide ((j : Int) < (y : Int)) = false := by simp; omega
        have glt' : decide (j < y) = false := by simp; omega
        have HTR : Hid (T = behindV p x y) := Lib.hid (by rw [hTq, hjy, ← HR.out, Nat.add_comm])
        clear hT hTq hjy
        go_wp2
        go_ret
        exact ⟨by rw [← HTR.out]; rfl, HB.out⟩
  · have g3 : decide ((M : Int) < (x : Int)) = false := by simp; omega
    have g3' : decide (M < x) = false := by simp; omega
    have hv' : ¬ (M : Int) < (x : Int) := by omega
    have g1 : decide ((y : Int) < (n1 : Int)) = true := by simp; omega
    have g1' : decide (y < n1) = true := by simp; omega
    have HX9 : Hid (X2 ≤ 100000000) := Lib.hid (by omega)
    have HE := Lib.hid he
    clear he h1
    go_enter Try.func26, Try.ntmps26
    go_wp2_with fail
    refine (show Calls _ _ _ _ _ from (KC.out _)).mono ?_
    rintro e w1 ⟨rfl, b1⟩
    have HB1 := Lib.hid b1
    clear b1 KC q0 q1 q2
    go_wp2
    rw [show (x : Int) = (X2 : Int) by rw [HE.out]]
    go_loopw [7, 27] (fun xv jv wr => ∃ (j : Nat) (wz : World), wz = wr ∧ j ≤ y ∧ jv = .int .i64 (j : Int) ∧ xv = .int .i64 ((X2 + aheadV p j : Nat) : Int) ∧ Hid (Below w.heap.size w wz)) (fun _ jv _ => y - (RowKit.intOf jv).toNat)
    case atStart => exact ⟨0, _, rfl, Nat.zero_le _, rfl, by rw [aheadV, Nat.add_zero], HB1⟩
    case round =>
      obtain ⟨j, wr, rfl, hj, rfl, rfl, HB⟩ := hrel
      have hT := HA.out j hj
      obtain ⟨T, hTq⟩ : ∃ T, T = X2 + aheadV p j := ⟨_, rfl⟩
      have hT9 : T ≤ 100100000 := by have := hT.2; have := HX9.out; omega
      rw [← hTq]
      by_cases hlt : j < y
      · have glt : decide ((j : Int) < (y : Int)) = true := by simp; omega
        have glt' : decide (j < y) = true := by simp; omega
        obtain ⟨b3, o3, u3, e3, -, hb3, p0, p1, p2, r3⟩ := HT.out.at_ hlt
        cases e3
        obtain ⟨A3, c3, rfl, -⟩ := id r3.1
        rw [lget_take _ _ _ hlt] at p0 p1 p2
        obtain ⟨N3, hN3⟩ : ∃ N, N = (p.getD j noLn).cells.length := ⟨_, rfl⟩
        obtain ⟨M3, hM3⟩ : ∃ M, M = cntN (p.getD j noLn) := ⟨_, rfl⟩
        have hNs3 : N3 ≤ 100000 := by rw [hN3]; exact Nat.le_trans (cells_le p j) HS.out
        have hMN3 : M3 ≤ N3 := by rw [hM3, hN3]; exact cntN_le _
        rw [← hN3] at p0
        obtain ⟨J3, hJ3⟩ : ∃ J, J = (p.getD j noLn).joined := ⟨_, rfl⟩
        obtain ⟨S3, hS3⟩ : ∃ J, J = (p.getD j noLn).short := ⟨_, rfl⟩
        rw [← hJ3] at p1
        rw [← hS3] at p2
        have i3 := idx_line b o y c j hlt
        have d0 := (HB.out.cell (p := ⟨b, o + j * 3, none⟩) hb3).trans p0
        have d1 := (HB.out.cell (p := ⟨b, o + j * 3 + 1, none⟩) hb3).trans p1
        have d2 := (HB.out.cell (p := ⟨b, o + j * 3 + 2, none⟩) hb3).trans p2
        have K3 : Hid (Calls Try.prog 34 #[.agg #[.slice A3 N3 c3, .bool J3, .bool S3]] (wr.alloc (.cells #[.slice A3 N3 c3, .bool J3, .bool S3] pLine)) fun e w' => e = .returned (.int .i64 (M3 : Int)) ∧ Below w.heap.size w w') := Lib.hid (by
          have hal := HB.out.alloc HB.out.size (.cells #[.slice A3 N3 c3, .bool J3, .bool S3] pLine)
          refine (counts_any (A := A3) (c := c3) J3 S3 _ (n := N3) (by omega)).mono fun e w' ⟨he, hb⟩ => ⟨?_, hal.trans (hb.mono hal.size)⟩
          rw [he, hM3, cntN, ← hN3, hJ3, hS3])
        have zT : IntKind.i64.wrap ((T : Int) + (M3 : Int)) = ((X2 + aheadV p (j + 1) : Nat) : Int) := by
          rw [IntWalk.i64_in _ (by omega), hTq, aheadV, cntN_len, ← hM3]; omega
        have hnew := heap_alloc_new wr (.cells #[.slice A3 N3 c3, .bool J3, .bool S3] pLine)
        clear r3 hN3 hM3 hJ3 hS3 hMN3 p0 p1 p2 hb3 hT hTq hnew
        go_wp2_with fail
        refine (show Calls _ _ _ _ _ from K3.out).mono ?_
        rintro e w3 ⟨rfl, b3⟩
        have HB3 := Lib.hid b3
        clear b3 K3
        go_wp2
        go_roundw
        case rel => exact ⟨j + 1, _, rfl, hlt, by go_num, rfl, HB3⟩
        case measure => simp [RowKit.intOf]; omega
      · have hjy : j = y := by omega
        have glt : decide ((j : Int) < (y : Int)) = false := by simp; omega
        have glt' : decide (j < y) = false := by simp; omega
        have HTR : Hid (T = behindV p x y) := Lib.hid (by rw [hTq, hjy, ← HR.out, Nat.add_comm])
        clear hT hTq hjy
        go_wp2
        go_ret
        exact ⟨by rw [← HTR.out]; rfl, HB.out⟩
  · have g1 : decide ((y : Int) < (n1 : Int)) = false := by simp; omega
    have g1' : decide (y < n1) = false := by simp; omega
    have HX9 : Hid (X2 ≤ 100000000) := Lib.hid (by omega)
    have HE := Lib.hid he
    have HB1 : Hid (Below w.heap.size w w) := Lib.hid (Below.refl _ _)
    clear he h1 KC q0 q1 q2
    go_enter Try.func26, Try.ntmps26
    go_wp2
    rw [show (x : Int) = (X2 : Int) by rw [HE.out]]
    go_loopw [7, 27] (fun xv jv wr => ∃ (j : Nat) (wz : World), wz = wr ∧ j ≤ y ∧ jv = .int .i64 (j : Int) ∧ xv = .int .i64 ((X2 + aheadV p j : Nat) : Int) ∧ Hid (Below w.heap.size w wz)) (fun _ jv _ => y - (RowKit.intOf jv).toNat)
    case atStart => exact ⟨0, _, rfl, Nat.zero_le _, rfl, by rw [aheadV, Nat.add_zero], HB1⟩
    case round =>
      obtain ⟨j, wr, rfl, hj, rfl, rfl, HB⟩ := hrel
      have hT := HA.out j hj
      obtain ⟨T, hTq⟩ : ∃ T, T = X2 + aheadV p j := ⟨_, rfl⟩
      have hT9 : T ≤ 100100000 := by have := hT.2; have := HX9.out; omega
      rw [← hTq]
      by_cases hlt : j < y
      · have glt : decide ((j : Int) < (y : Int)) = true := by simp; omega
        have glt' : decide (j < y) = true := by simp; omega
        obtain ⟨b3, o3, u3, e3, -, hb3, p0, p1, p2, r3⟩ := HT.out.at_ hlt
        cases e3
        obtain ⟨A3, c3, rfl, -⟩ := id r3.1
        rw [lget_take _ _ _ hlt] at p0 p1 p2
        obtain ⟨N3, hN3⟩ : ∃ N, N = (p.getD j noLn).cells.length := ⟨_, rfl⟩
        obtain ⟨M3, hM3⟩ : ∃ M, M = cntN (p.getD j noLn) := ⟨_, rfl⟩
        have hNs3 : N3 ≤ 100000 := by rw [hN3]; exact Nat.le_trans (cells_le p j) HS.out
        have hMN3 : M3 ≤ N3 := by rw [hM3, hN3]; exact cntN_le _
        rw [← hN3] at p0
        obtain ⟨J3, hJ3⟩ : ∃ J, J = (p.getD j noLn).joined := ⟨_, rfl⟩
        obtain ⟨S3, hS3⟩ : ∃ J, J = (p.getD j noLn).short := ⟨_, rfl⟩
        rw [← hJ3] at p1
        rw [← hS3] at p2
        have i3 := idx_line b o y c j hlt
        have d0 := (HB.out.cell (p := ⟨b, o + j * 3, none⟩) hb3).trans p0
        have d1 := (HB.out.cell (p := ⟨b, o + j * 3 + 1, none⟩) hb3).trans p1
        have d2 := (HB.out.cell (p := ⟨b, o + j * 3 + 2, none⟩) hb3).trans p2
        have K3 : Hid (Calls Try.prog 34 #[.agg #[.slice A3 N3 c3, .bool J3, .bool S3]] (wr.alloc (.cells #[.slice A3 N3 c3, .bool J3, .bool S3] pLine)) fun e w' => e = .returned (.int .i64 (M3 : Int)) ∧ Below w.heap.size w w') := Lib.hid (by
          have hal := HB.out.alloc HB.out.size (.cells #[.slice A3 N3 c3, .bool J3, .bool S3] pLine)
          refine (counts_any (A := A3) (c := c3) J3 S3 _ (n := N3) (by omega)).mono fun e w' ⟨he, hb⟩ => ⟨?_, hal.trans (hb.mono hal.size)⟩
          rw [he, hM3, cntN, ← hN3, hJ3, hS3])
        have zT : IntKind.i64.wrap ((T : Int) + (M3 : Int)) = ((X2 + aheadV p (j + 1) : Nat) : Int) := by
          rw [IntWalk.i64_in _ (by omega), hTq, aheadV, cntN_len, ← hM3]; omega
        have hnew := heap_alloc_new wr (.cells #[.slice A3 N3 c3, .bool J3, .bool S3] pLine)
        clear r3 hN3 hM3 hJ3 hS3 hMN3 p0 p1 p2 hb3 hT hTq hnew
        go_wp2_with fail
        refine (show Calls _ _ _ _ _ from K3.out).mono ?_
        rintro e w3 ⟨rfl, b3⟩
        have HB3 := Lib.hid b3
        clear b3 K3
        go_wp2
        go_roundw
        case rel => exact ⟨j + 1, _, rfl, hlt, by go_num, rfl, HB3⟩
        case measure => simp [RowKit.intOf]; omega
      · have hjy : j = y := by omega
        have glt : decide ((j : Int) < (y : Int)) = false := by simp; omega
        have glt' : decide (j < y) = false := by simp; omega
        have HTR : Hid (T = behindV p x y) := Lib.hid (by rw [hTq, hjy, ← HR.out, Nat.add_comm])
        clear hT hTq hjy
        go_wp2
        go_ret
        exact ⟨by rw [← HTR.out]; rfl, HB.out⟩
end Go.Proofs.Ytifolcfnknlmdaa.Re
