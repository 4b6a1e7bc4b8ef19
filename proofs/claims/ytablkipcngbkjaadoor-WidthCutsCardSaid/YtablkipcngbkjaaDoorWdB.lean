/- Layer 9: characters in memory; Text, Cut. -/
import Derived.Test.YtablkipcngbkjaaDoorWdA
namespace Go.Proofs.YtablkipcngbkjaaDoor
open Go.RowKit Wid

theorem ret_two {a b : Int} {c d : Int} (h : a = c) (k : b = d) : Ending.returned (.tuple #[.int .i64 a, .int .i64 b]) = .returned (.tuple #[.int .i64 c, .int .i64 d]) := by rw [h, k]

/-- Characters that lie below block B. -/
def RunesAt (w : World) (B : Nat) (A : Option Addr) (l : List Int) : Prop := 0 < l.length → ∃ b o, A = some ⟨b, o, none⟩ ∧ b < B ∧ ∀ i (h : i < l.length), w.cell? ⟨b, o + i, none⟩ = some (.int .i32 l[i])
theorem RunesAt.below {w w' : World} {B C : Nat} {A : Option Addr} {l : List Int} (h : RunesAt w B A l) (hb : Below C w w') (hB : B ≤ C) : RunesAt w' B A l := fun hn => by
  obtain ⟨b, o, e, hl, hc⟩ := h hn
  exact ⟨b, o, e, hl, fun i hi => (hb.cell (p := ⟨b, o + i, none⟩) (Nat.lt_of_lt_of_le hl hB)).trans (hc i hi)⟩
theorem RunesAt.more {w : World} {B C : Nat} {A : Option Addr} {l : List Int} (h : RunesAt w B A l) (hB : B ≤ C) : RunesAt w C A l := fun hn => by
  obtain ⟨b, o, e, hl, hc⟩ := h hn
  exact ⟨b, o, e, Nat.lt_of_lt_of_le hl hB, hc⟩
theorem RunesAt.take {w : World} {B : Nat} {A : Option Addr} {l : List Int} (h : RunesAt w B A l) (k : Nat) : RunesAt w B A (l.take k) := fun hn => by
  have hl := List.length_take_le' k l
  obtain ⟨b, o, e, hl, hc⟩ := h (by omega)
  refine ⟨b, o, e, hl, fun i hi => ?_⟩
  rw [List.getElem_take]
  exact hc i (by omega)
theorem RunesAt.at_ {w : World} {B : Nat} {A : Option Addr} {l : List Int} (h : RunesAt w B A l) {k : Nat} (hk : k < l.length) : ∃ b o, A = some ⟨b, o, none⟩ ∧ b < B ∧ w.cell? ⟨b, o + k, none⟩ = some (.int .i32 l[k]) := by
  obtain ⟨b, o, e, hl, hc⟩ := h (by omega)
  exact ⟨b, o, e, hl, hc k hk⟩

set_option maxHeartbeats 1000000 in
theorem text_any (l : List Int) (A : Option Addr) (n c : Nat) (w : World) (hT : WTab w) (hR : RunesAt w w.heap.size A l) (hn : n = l.length) (hl : n ≤ 1000000) :
    Calls Tryd.prog 12 #[.slice A n c] w fun e w' => e = .returned (.int .i64 (sumV l)) ∧ Below w.heap.size w w' := by
  have HT := Lib.hid hT
  have HR := Lib.hid hR
  have HN := Lib.hid hn
  clear hT hR hn
  go_enter Tryd.func12, Tryd.ntmps12
  go_wp2
  go_loopw [3, 8] (fun s i wr => ∃ k : Nat, k ≤ n ∧ i = .int .i64 k ∧ s = .int .i64 (sumV (l.take k)) ∧ Hid (Below w.heap.size w wr)) (fun _ i _ => n - (RowKit.intOf i).toNat)
  case atStart => exact ⟨0, by omega, rfl, by simp [sumV], Lib.hid (Below.refl _ _)⟩
  case round =>
    obtain ⟨k, hk, rfl, rfl, HB⟩ := hrel
    rename_i wr
    by_cases hlt : k < n
    · have hlt' : k < l.length := by rw [← HN.out]; exact hlt
      obtain ⟨b, o, rfl, hb, hc⟩ := HR.out.at_ hlt'
      have hc := (HB.out.cell (p := ⟨b, o + k, none⟩) hb).trans hc
      have E := Lib.hid (sum_succ hlt')
      have g1 := sum_in (l.take k)
      have g2 := of_in l[k]
      have g3 : (l.take k).length ≤ k := List.length_take_le _ _
      have HC := Lib.hid (of_any l[k] wr (HT.out.below HB.out (Nat.le_refl _)))
      generalize l[k] = r at hc E g2 HC
      generalize hs : sumV (l.take k) = s at E g1 ⊢
      clear hs
      generalize ho : ofV r = q at E g2 HC
      clear ho
      go_wp2_with fail
      refine HC.out.mono ?_
      rintro e w1 ⟨rfl, hb1⟩
      have HB1 := Lib.hid (HB.out.trans (hb1.mono HB.out.size))
      clear hb1
      go_wp2
      go_roundw
      case rel => exact ⟨k + 1, by omega, by go_num, by rw [E.out], HB1⟩
      case measure => simp [RowKit.intOf]; omega
    · have hkn : k = n := by omega
      have E : Hid (sumV (l.take k) = sumV l) := Lib.hid (by rw [hkn, HN.out, List.take_length])
      generalize sumV (l.take k) = s at E ⊢
      subst hkn
      go_wp2
      go_ret
      exact ⟨ret_int E.out, HB.out⟩

/-- So many fit, and so many columns are left. -/
def CutPost (w : World) (l : List Int) (c : Int) (e : Ending) (w' : World) : Prop := ∃ k : Nat, Fits l c k ∧ e = .returned (.tuple #[.int .i64 k, .int .i64 (c - sumV (l.take k))]) ∧ Below w.heap.size w w'

set_option maxHeartbeats 1000000 in
theorem cut_any (l : List Int) (A : Option Addr) (n cc : Nat) (c : Int) (w : World) (hT : WTab w) (hR : RunesAt w w.heap.size A l) (hn : n = l.length) (hl : n ≤ 1000000) (hc : 0 ≤ c) (hc2 : c ≤ 9223372036854775807) :
    Calls Tryd.prog 8 #[.slice A n cc, .int .i64 c] w (CutPost w l c) := by
  have HT := Lib.hid hT
  have HR := Lib.hid hR
  have HN := Lib.hid hn
  have g0 : decide (c < 0) = false := by simpa using hc
  clear hT hR hn
  go_enter Tryd.func8, Tryd.ntmps8
  go_wp2
  go_loopw [4, 5, 14] (fun m s i wr => ∃ k : Nat, k ≤ n ∧ i = .int .i64 k ∧ m = .int .i64 k ∧ s = .int .i64 (c - sumV (l.take k)) ∧ sumV (l.take k) ≤ c ∧ Hid (Below w.heap.size w wr)) (fun _ _ i _ => n - (RowKit.intOf i).toNat)
  case atStart => exact ⟨0, by omega, rfl, rfl, by simp [sumV], by simpa [sumV] using hc, Lib.hid (Below.refl _ _)⟩
  case round =>
    obtain ⟨k, hk, rfl, rfl, rfl, hsum, HB⟩ := hrel
    rename_i wr
    by_cases hlt : k < n
    · have hlt' : k < l.length := by rw [← HN.out]; exact hlt
      obtain ⟨b, o, rfl, hb, hcell⟩ := HR.out.at_ hlt'
      have hcell := (HB.out.cell (p := ⟨b, o + k, none⟩) hb).trans hcell
      have E := Lib.hid (sum_succ hlt')
      have g1 := sum_in (l.take k)
      have g2 := of_in l[k]
      have g3 : (l.take k).length ≤ k := List.length_take_le _ _
      have HC := Lib.hid (of_any l[k] wr (HT.out.below HB.out (Nat.le_refl _)))
      generalize l[k] = r at hcell E g2 HC
      obtain ⟨s, HS⟩ : ∃ s, Hid (s = sumV (l.take k)) := ⟨_, Lib.hid rfl⟩
      rw [← HS.out] at E g1 hsum ⊢
      generalize ho : ofV r = q at E g2 HC
      clear ho
      obtain ⟨d, HD⟩ : ∃ d, Hid (d = c - s) := ⟨_, Lib.hid rfl⟩
      have hd0 : 0 ≤ d := by rw [HD.out]; omega
      have hd1 : d ≤ 9223372036854775807 := by rw [HD.out]; omega
      rw [← HD.out]
      by_cases hq : q ≤ d
      · have g5 : decide (d < q) = false := by simpa using hq
        go_wp2_with fail
        refine HC.out.mono ?_
        rintro e w1 ⟨rfl, hb1⟩
        have HB1 := Lib.hid (HB.out.trans (hb1.mono HB.out.size))
        clear hb1
        go_wp2
        go_roundw
        case rel => exact ⟨k + 1, by omega, by go_num, by go_num, by rw [E.out, HD.out]; exact congrArg _ (by omega), by rw [E.out]; have := HD.out; omega, HB1⟩
        case measure => simp [RowKit.intOf]; omega
      · have g5 : decide (d < q) = true := by simpa using hq
        have F : Fits l c k := ⟨by omega, by rw [← HS.out]; exact hsum, fun _ => by rw [E.out]; have := HD.out; omega⟩
        have HF := Lib.hid F
        clear F
        go_wp2_with fail
        refine HC.out.mono ?_
        rintro e w1 ⟨rfl, hb1⟩
        have HB1 := Lib.hid (HB.out.trans (hb1.mono HB.out.size))
        clear hb1
        go_wp2
        go_ret2
        exact ⟨k, HF.out, ret_two rfl (by rw [← HS.out, HD.out]), HB1.out⟩
    · have hkn : k = n := by omega
      have HF : Hid (Fits l c k) := Lib.hid ⟨by rw [← HN.out]; exact hk, hsum, fun h => by rw [← HN.out] at h; omega⟩
      obtain ⟨d, HD⟩ : ∃ d, Hid (d = c - sumV (l.take k)) := ⟨_, Lib.hid rfl⟩
      rw [← HD.out]
      clear hsum
      subst hkn
      go_wp2
      go_ret2
      exact ⟨k, HF.out, ret_two rfl HD.out, HB.out⟩

theorem cut_low (A : Option Addr) (n cc : Nat) (c : Int) (w : World) (hc : c < 0) :
    Calls Tryd.prog 8 #[.slice A n cc, .int .i64 c] w fun e w' => e = .returned (.tuple #[.int .i64 0, .int .i64 0]) ∧ w = w' := by
  have g0 : decide (c < 0) = true := by simpa using hc
  go_enter Tryd.func8, Tryd.ntmps8
  go_wp2
  go_ret2
  exact ⟨rfl, rfl⟩
end Go.Proofs.YtablkipcngbkjaaDoor
