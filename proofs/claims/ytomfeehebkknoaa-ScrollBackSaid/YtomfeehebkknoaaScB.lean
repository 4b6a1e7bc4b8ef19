/- Layer 13: the document's Same; the law's Great, of. -/
import Derived.Test.YtomfeehebkknoaaScA
set_option linter.unusedVariables false
namespace Go.Proofs.Ytomfeehebkknoaa.Rw
open Go.RowKit

def wideL (ls : Ls) : Prop := ∀ k, (lineV ls k).length ≤ 100000
set_option maxRecDepth 100000 in
set_option maxHeartbeats 2000000 in
theorem same_tab {F G : Nat → Prop} {v1 v2 : Value} {l1 l2 : Ls} {w : World} (h1 : TabAt F w v1 l1) (h2 : TabAt G w v2 l2) (hl : l1.length ≤ 100000) (hw : wideL l1) : Calls Try.prog 10 #[v1, v2] w fun e w' => e = .returned (.bool (decide (l1 = l2))) ∧ Below w.heap.size w w' := by
  obtain ⟨A1, c1, rfl, -, hc1, -⟩ := id h1
  obtain ⟨A2, c2, rfl, -, hc2, -⟩ := id h2
  by_cases hne : l1.length = l2.length
  · have HT : Hid (∀ V, Below w.heap.size w V → TabAt F V (.slice A1 l1.length c1) l1 ∧ TabAt G V (.slice A2 l2.length c2) l2) := Lib.hid fun V hV => ⟨h1.below hV, h2.below hV⟩
    have HW := Lib.hid hw
    rw [← hne] at HT ⊢
    obtain ⟨n, hn⟩ : ∃ n, n = l1.length := ⟨_, rfl⟩
    rw [← hn] at HT hl ⊢
    have HN := Lib.hid hn
    have HNe := Lib.hid hne
    have g1 : ((n : Int) != (n : Int)) = false := by simp
    clear h1 h2 hw hn hne hc1 hc2
    go_enter Try.func10, Try.ntmps10
    go_wp2
    clear g1
    go_loopw [5] (fun i wr => ∃ k : Nat, k ≤ n ∧ i = .int .i64 k ∧ Hid (∀ j, j < k → lineV l1 j = lineV l2 j) ∧ Hid (Below w.heap.size w wr)) (fun i _ => n - (RowKit.intOf i).toNat)
    case atStart => exact ⟨0, Nat.zero_le _, rfl, Lib.hid fun j hj => absurd hj (Nat.not_lt_zero _), Lib.hid (Below.refl _ _)⟩
    case round =>
      obtain ⟨k, hk, rfl, HS, HB⟩ := hrel
      by_cases hlt : k < n
      · have glt : decide ((k : Int) < (n : Int)) = true := by simp; omega
        obtain ⟨b1, o1, u1, rfl, _, hb1, q1, r1⟩ := (HT.out wr HB.out).1.at_ hlt
        obtain ⟨b2, o2, u2, rfl, _, hb2, q2, r2⟩ := (HT.out wr HB.out).2.at_ hlt
        have i1 := idx_tab b1 o1 n c1 k hlt
        have i2 := idx_tab b2 o2 n c2 k hlt
        have q1 := fun (V : World) (hV : Below wr.heap.size wr V) => (hV.cell hb1).trans q1
        have q2 := fun (V : World) (hV : Below wr.heap.size wr V) => (hV.cell hb2).trans q2
        have KC : Hid (∀ V, Below wr.heap.size wr V → Calls Try.prog 21 #[u1, u2] V fun e w' => e = .returned (.bool (decide (lineV l1 k = lineV l2 k))) ∧ Below wr.heap.size wr w') := Lib.hid fun V hV => (same_line (r1.keep (fun b _ hb => hV.block b hb) hV.size) (r2.keep (fun b _ hb => hV.block b hb) hV.size) (HW.out k)).mono fun e w' ⟨he, hb⟩ => ⟨he, hV.trans (hb.mono hV.size)⟩
        obtain ⟨B1, d1, rfl, -⟩ := id r1
        obtain ⟨B2, d2, rfl, -⟩ := id r2
        have hd := below_drew (Below.refl wr.heap.size wr) 1
        clear hb1 hb2 r1 r2 glt
        generalize (lineV l1 k).length = n1 at *
        generalize (lineV l2 k).length = n2 at *
        by_cases he : lineV l1 k = lineV l2 k
        · have ge : decide (lineV l1 k = lineV l2 k) = true := by simpa using he
          rw [ge] at KC
          have HS2 : Hid (∀ j, j < k + 1 → lineV l1 j = lineV l2 j) := Lib.hid fun j hj => by
            by_cases e : j = k
            · rw [e]; exact he
            · exact HS.out j (by omega)
          clear he ge
          have glt : decide ((k : Int) < (n : Int)) = true := by simp; omega
          go_wp2_with fail
          go_region_held3 (fun V => Below wr.heap.size wr V) (assumption)
            ((go_at_call 21; (with_reducible refine (KC.out _ (by assumption)).mono ?_); rintro e v1 ⟨rfl, qv1⟩))
          all_goals
            have B3 := Lib.hid (show Below wr.heap.size wr _ by assumption)
          go_wp2
          go_roundw
          case rel => exact ⟨k + 1, by omega, by go_num, HS2, Lib.hid (HB.out.trans (B3.out.mono HB.out.size))⟩
          case measure => simp [RowKit.intOf]; omega
        · have ge : decide (lineV l1 k = lineV l2 k) = false := by simpa using he
          rw [ge] at KC
          have HD : Hid (decide (l1 = l2) = false) := Lib.hid (by simp; exact fun e => he (by rw [e]))
          clear he ge
          have glt : decide ((k : Int) < (n : Int)) = true := by simp; omega
          go_wp2_with fail
          go_region_held3 (fun V => Below wr.heap.size wr V) (assumption)
            ((go_at_call 21; (with_reducible refine (KC.out _ (by assumption)).mono ?_); rintro e v1 ⟨rfl, qv1⟩))
          all_goals
            have B3 := Lib.hid (show Below wr.heap.size wr _ by assumption)
          go_wp2
          go_ret
          exact ⟨ret_bool HD.out.symm, HB.out.trans (B3.out.mono HB.out.size)⟩
      · have glt : decide ((k : Int) < (n : Int)) = false := by simp; omega
        have HD : Hid (decide (l1 = l2) = true) := Lib.hid (by simp; exact line_ext (by have := HN.out; have := HNe.out; omega) fun j hj => HS.out j (by have := HN.out; omega))
        go_wp2
        go_ret
        exact ⟨ret_bool HD.out.symm, HB.out⟩
  · have g1 : ((l1.length : Int) != (l2.length : Int)) = true := by simp; omega
    have HD : Hid (decide (l1 = l2) = false) := Lib.hid (by simp; exact fun e => hne (by rw [e]))
    generalize l1.length = n1 at *
    generalize l2.length = n2 at *
    clear h1 h2 hne hc1 hc2 hw
    go_enter Try.func10, Try.ntmps10
    go_wp2
    go_ret
    exact ⟨ret_bool HD.out.symm, Below.refl _ _⟩

/-! ### Great -/
def greatB (ls : Ls) : Bool := decide (60 < ls.length) || ls.any fun l => decide (60 < l.length)
theorem great_no {ls : Ls} (h : greatB ls = false) : ls.length ≤ 60 ∧ ∀ k, (lineV ls k).length ≤ 60 := by
  unfold greatB at h
  rw [Bool.or_eq_false_iff, decide_eq_false_iff_not, List.any_eq_false] at h
  refine ⟨by omega, fun k => ?_⟩
  by_cases hk : k < ls.length
  · have := h.2 _ (List.getElem_mem hk)
    rw [line_lt hk]
    simpa using this
  · unfold lineV
    rw [List.getD_eq_getElem?_getD, List.getElem?_eq_none (by omega)]
    simp
theorem great_wide {ls : Ls} (h : greatB ls = false) : wideL ls := fun k => by have := (great_no h).2 k; omega
set_option maxRecDepth 100000 in
theorem great_any {F : Nat → Prop} {v : Value} {ls : Ls} {w : World} (h : TabAt F w v ls) : Calls Try.prog 6 #[v] w fun e w' => e = .returned (.bool (greatB ls)) ∧ w = w' := by
  obtain ⟨A, c, rfl, -, hc, -⟩ := id h
  have HT := Lib.hid h
  by_cases h6 : 60 < ls.length
  · have g1 : decide ((ls.length : Int) > 60) = true := by simp; omega
    have e : greatB ls = true := by unfold greatB; rw [decide_eq_true h6]; rfl
    rw [e]
    generalize ls.length = n at *
    clear h hc h6 e HT
    go_enter Try.func6, Try.ntmps6
    go_wp2
    go_ret
    exact ⟨rfl, rfl⟩
  · have g1 : decide ((ls.length : Int) > 60) = false := by simp; omega
    have HE : Hid (greatB ls = ls.any fun l => decide (60 < l.length)) := Lib.hid (by unfold greatB; rw [decide_eq_false h6]; rfl)
    obtain ⟨n, hn⟩ : ∃ n, n = ls.length := ⟨_, rfl⟩
    rw [← hn] at HT g1 ⊢
    have HN := Lib.hid hn
    have h60 : n ≤ 60 := by omega
    clear h hc h6 hn
    go_enter Try.func6, Try.ntmps6
    go_wp2
    go_loop [3] (fun i => ∃ k : Nat, k ≤ n ∧ i = .int .i64 k ∧ Hid (∀ j, j < k → (lineV ls j).length ≤ 60)) (fun i => n - (RowKit.intOf i).toNat)
    case atStart => exact ⟨0, Nat.zero_le _, rfl, Lib.hid fun j hj => absurd hj (Nat.not_lt_zero _)⟩
    case round =>
      obtain ⟨k, hk, rfl, HS⟩ := hrel
      by_cases hlt : k < n
      · have glt : decide ((k : Int) < (n : Int)) = true := by simp; omega
        obtain ⟨b1, o1, u1, rfl, _, hb1, q1, r1⟩ := HT.out.at_ hlt
        have i1 := idx_tab b1 o1 n c k hlt
        obtain ⟨B1, d1, rfl, -⟩ := id r1
        by_cases hg : 60 < (lineV ls k).length
        · have gg : decide (((lineV ls k).length : Int) > 60) = true := by simp; omega
          have HF : Hid (greatB ls = true) := Lib.hid (by rw [HE.out, List.any_eq_true]; exact ⟨lineV ls k, by rw [line_lt (by have := HN.out; omega)]; exact List.getElem_mem _, by simpa using hg⟩)
          clear r1 hg
          generalize (lineV ls k).length = n1 at *
          go_wp2
          go_ret
          exact ⟨ret_bool HF.out.symm, rfl⟩
        · have gg : decide (((lineV ls k).length : Int) > 60) = false := by simp; omega
          have HS2 : Hid (∀ j, j < k + 1 → (lineV ls j).length ≤ 60) := Lib.hid fun j hj => by
            by_cases e : j = k
            · rw [e]; omega
            · exact HS.out j (by omega)
          clear r1 hg
          generalize (lineV ls k).length = n1 at *
          go_wp2
          go_round
          case rel => exact ⟨k + 1, by omega, by go_num, HS2⟩
          case measure => simp [RowKit.intOf]; omega
      · have glt : decide ((k : Int) < (n : Int)) = false := by simp; omega
        have HF : Hid (greatB ls = false) := Lib.hid (by
          rw [HE.out, List.any_eq_false]
          intro l hl
          obtain ⟨j, hj, rfl⟩ := List.getElem_of_mem hl
          have := HS.out j (by have := HN.out; omega)
          rw [line_lt hj] at this
          simpa using this)
        go_wp2
        go_ret
        exact ⟨ret_bool HF.out.symm, rfl⟩
end Go.Proofs.Ytomfeehebkknoaa.Rw
