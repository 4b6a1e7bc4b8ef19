/- Layer 11: RowApart's walk. -/
import Derived.Test.YthpnmhllgjibgaaRwQ
set_option linter.unusedVariables false
namespace Go.Proofs.Ythpnmhllgjibgaa.Rw
open Go.RowKit

theorem act_box (w : World) (c : Ac) : ∃ W, W = w.alloc (actP c.d c.x c.n c.r c.wide c.a) ∧ Below w.heap.size w W ∧ ∀ V, Below W.heap.size W V → V.heap[w.heap.size]? = some (actP c.d c.x c.n c.r c.wide c.a) :=
  ⟨_, rfl, (Below.refl _ _).alloc (Nat.le_refl _) _, fun V hV => (hV.block _ (by simp)).trans (heap_alloc_new w _)⟩
def nineC : Ce := ⟨1, 9, zeroAa⟩

set_option maxRecDepth 100000 in
set_option maxHeartbeats 8000000 in
theorem apart_big (u : Value) (l : List Ce) (c : Ac) (w : World) (hL : Lies w u l) (hl : 500 < l.length) (hM : l.length ≤ 9223372036854775807) : Calls Try.prog 6 #[u, actV c] w fun e w' => e = .returned (.bool true) ∧ Below w.heap.size w w' := by
  obtain ⟨W, hW, hB, _⟩ := act_box w c
  have HG : Hid (Calls Try.prog 20 #[u] W fun e w' => e = .returned (.bool true) ∧ w' = W) := Lib.hid (by
    have := great_any u l W (hL.below hB) hM
    rwa [decide_eq_true hl] at this)
  have HWk := Lib.hid (wakes_any W)
  have HW := Lib.hid hW
  have HB := Lib.hid hB
  clear hL hl hM hW hB
  go_enter Try.func6, Try.ntmps6
  go_wp2_with fail
  rw [← HW.out]
  refine (show Calls _ _ _ _ _ from HG.out).mono ?_
  rintro e w' ⟨rfl, rfl⟩
  go_wp2_with fail
  refine (show Calls _ _ _ _ _ from HWk.out).mono ?_
  rintro e w1 ⟨rfl, b1⟩
  have B1 := Lib.hid b1
  clear b1
  go_wp2
  go_ret
  exact ⟨rfl, HB.out.trans (B1.out.mono HB.out.size)⟩

set_option maxRecDepth 100000 in
set_option maxHeartbeats 8000000 in
theorem apart_small (u : Value) (l : List Ce) (c : Ac) (w : World) (hL : Lies w u l) (hl : l.length ≤ 500) (hn : IntIn c.n) : Calls Try.prog 6 #[u, actV c] w fun e w' => e = .returned (.bool true) ∧ Below w.heap.size w w' := by
  obtain ⟨W, hW, hB, hat⟩ := act_box w c
  obtain ⟨d, ax, an, ar, aw, aa⟩ := c
  dsimp only at hW hat hn
  have hLW := hL.below hB
  have HG : Hid (Calls Try.prog 20 #[u] W fun e w' => e = .returned (.bool false) ∧ w' = W) := Lib.hid (by
    have := great_any u l W hLW (Nat.le_trans hl (by decide))
    rwa [decide_eq_false (by omega)] at this)
  have HWk : Hid (∀ V, Calls Try.prog 9 #[] V fun e w' => e = .returned (.bool true) ∧ Below V.heap.size V w') := Lib.hid fun V => wakes_any V
  have hA0 : Below W.heap.size W (W.alloc (.cells #[] 44)) := (Below.refl _ _).alloc (Nat.le_refl _) _
  have HLi := Lib.hid (hLW.below hA0)
  have HLu : Hid (∀ V, Below W.heap.size W V → Lies V u l) := Lib.hid fun V hV => hLW.below hV
  have HA0 := Lib.hid hA0
  have H0 := Lib.hid (own_zero W)
  have HW := Lib.hid hW
  have HB := Lib.hid hB
  have HAt := Lib.hid hat
  have HD : Hid (∀ V, Lies V u l → Calls Try.prog 21 #[u, .agg #[.int .u8 d, .int .i64 ax, .int .i64 an, .int .i32 ar, .bool aw, .int .u16 (aa.fl : Int), .int .u8 (aa.fk : Int), .int .u32 (aa.fn : Int), .int .u8 (aa.bk : Int), .int .u32 (aa.bn : Int)]] V (DoPost V (doV l ⟨d, ax, an, ar, aw, aa⟩))) := Lib.hid fun V hV => do_any u l ⟨d, ax, an, ar, aw, aa⟩ V hV (by omega) hn
  have HLen : Hid ((doV l ⟨d, ax, an, ar, aw, aa⟩).length ≤ 100000) := Lib.hid (by
    unfold doV
    dsimp only
    split
    · split
      · rename_i hf; rw [wriV_len hf]; omega
      · simp
    split
    · rw [insV_len]; omega
    split
    · rw [delV_len]; omega
    split
    · rw [eraV_len]; omega
    · rw [resV_len]; split <;> omega)
  generalize doV l ⟨d, ax, an, ar, aw, aa⟩ = L at *
  clear hL hW hB hat hLW hA0 hn
  go_enter Try.func6, Try.ntmps6
  go_wp2_with fail
  rw [← HW.out]
  refine (show Calls _ _ _ _ _ from HG.out).mono ?_
  rintro e w' ⟨rfl, rfl⟩
  go_wp2_with (at_builtin; refine append_cells _ rfl (.tmp 16) (.tmp 17) rfl w'.heap.size _ _ [] l rfl H0.out rfl HLi.out (by simp; omega) HA0.out.size ?_)
  intro v0 w1 ho0 hg0
  have B1 := Lib.hid (grown_below HA0.out hg0 H0.out HA0.out.size)
  have O0 : Hid (OwnC w1 w'.heap.size v0 l) := Lib.hid ho0
  have HD1 := Lib.hid (HD.out w1 (HLu.out w1 B1.out))
  have hat := HAt.out w1 B1.out
  have q0 := cell_of hat 0
  have q1 := cell_of hat 1
  have q2 := cell_of hat 2
  have q3 := cell_of hat 3
  have q4 := cell_of hat 4
  have q5 := cell_of hat 5
  have q6 := cell_of hat 6
  have q7 := cell_of hat 7
  have q8 := cell_of hat 8
  have q9 := cell_of hat 9
  clear ho0 hg0 hat HG HLi H0 HA0
  go_wp2_with fail
  refine (show Calls _ _ _ _ _ from HD1.out).mono ?_
  rintro e w2 ⟨v1, v2, rfl, ho1, _, b2⟩
  obtain ⟨A1, c1, rfl, _⟩ := own_lies ho1
  have O1 := Lib.hid ho1
  have B2 := Lib.hid b2
  obtain ⟨n, hn⟩ : ∃ n, n = L.length := ⟨_, rfl⟩
  rw [← hn] at O1 ⊢
  have HN := Lib.hid hn
  clear ho1 b2 hn HD1 q0 q1 q2 q3 q4 q5 q6 q7 q8 q9
  go_wp2
  go_loopw [9] (fun i wr => ∃ (k : Nat) (M : List Ce), k ≤ n ∧ i = .int .i64 k ∧ Hid (OwnC wr w1.heap.size (.slice A1 n c1) M ∧ M.length = n) ∧ Hid (Below w1.heap.size w1 wr)) (fun i _ => n - (RowKit.intOf i).toNat)
  case atStart => exact ⟨0, L, Nat.zero_le _, rfl, Lib.hid ⟨O1.out, HN.out.symm⟩, B2⟩
  case round =>
    obtain ⟨k, M, hk, rfl, HM, HBr⟩ := hrel
    rename_i wr
    by_cases hlt : k < n
    · have glt : decide ((k : Int) < (n : Int)) = true := by simp; omega
      obtain ⟨g, c', e', hg1, hg2, _⟩ := own_somek HM.out.1 (k := n) HM.out.2.symm (by omega)
      cases e'
      have hkM : k < M.length := by rw [HM.out.2]; exact hlt
      obtain ⟨sl, fz⟩ := own_slots HM.out.1 (k := k) hkM
      obtain ⟨a0, e0⟩ := sl 0 (by decide)
      obtain ⟨a1, e1⟩ := sl 1 (by decide)
      obtain ⟨a2, e2⟩ := sl 2 (by decide)
      obtain ⟨a3, e3⟩ := sl 3 (by decide)
      obtain ⟨a4, e4⟩ := sl 4 (by decide)
      obtain ⟨a5, e5⟩ := sl 5 (by decide)
      obtain ⟨a6, e6⟩ := sl 6 (by decide)
      rw [Nat.add_zero] at e0
      have i1 := idx_own g n c1 k hlt
      have S := Lib.hid (own_set HM.out.1 (k := k) hkM nineC)
      have SB := Lib.hid (setCe_below HBr.out hg1 k nineC)
      have SL : Hid ((M.set k nineC).length = n) := Lib.hid (by rw [List.length_set]; exact HM.out.2)
      clear sl HM HBr hkM
      go_upto_region 7 with fail
      change Code.wp _ _ _ _ (setCe wr g k nineC)
      generalize setCe wr g k nineC = w3 at S SB ⊢
      clear e0 e1 e2 e3 e4 e5 e6 fz
      go_wp2
      go_roundw
      case rel => exact ⟨k + 1, _, by omega, by go_num, Lib.hid ⟨S.out, SL.out⟩, SB⟩
      case measure => simp [RowKit.intOf]; omega
    · have hkn : k = n := by omega
      have B3 := Lib.hid (B1.out.trans (HBr.out.mono B1.out.size))
      have D3 := Lib.hid (HBr.out)
      have HS := Lib.hid (same_at (W := w') wr B3.out (HLu.out wr B3.out) (own_lies (own_below O0.out D3.out (Nat.le_refl _))) (by omega) true (decide_eq_true rfl))
      clear HM HBr
      go_wp2_with fail
      refine (show Calls _ _ _ _ _ from HS.out).mono ?_
      rintro e w4 ⟨rfl, b4⟩
      have B4 := Lib.hid b4
      have HD2 := Lib.hid (HD.out w4 (HLu.out w4 b4))
      have hat := HAt.out w4 b4
      have q0 := cell_of hat 0
      have q1 := cell_of hat 1
      have q2 := cell_of hat 2
      have q3 := cell_of hat 3
      have q4 := cell_of hat 4
      have q5 := cell_of hat 5
      have q6 := cell_of hat 6
      have q7 := cell_of hat 7
      have q8 := cell_of hat 8
      have q9 := cell_of hat 9
      clear b4 hat HS
      go_wp2_with fail
      refine (show Calls _ _ _ _ _ from HD2.out).mono ?_
      rintro e w5 ⟨v5, v6, rfl, ho5, hl6, b5⟩
      have B5 := Lib.hid (B4.out.trans (b5.mono B4.out.size))
      have HS2 := Lib.hid (same_at (W := w') w5 B5.out (own_lies ho5) hl6 HLen.out true (decide_eq_true rfl))
      clear ho5 hl6 b5 q0 q1 q2 q3 q4 q5 q6 q7 q8 q9 HD2
      go_wp2_with fail
      refine (show Calls _ _ _ _ _ from HS2.out).mono ?_
      rintro e w6 ⟨rfl, b6⟩
      have B6 := Lib.hid b6
      clear b6 HS2
      go_wp2_with fail
      refine (HWk.out _).mono ?_
      rintro e w7 ⟨rfl, b7⟩
      have B7 := Lib.hid (B6.out.trans (b7.mono B6.out.size))
      clear b7
      go_wp2
      go_ret
      exact ⟨rfl, HB.out.trans (B7.out.mono HB.out.size)⟩
theorem apart_law (u : Value) (l : List Ce) (c : Ac) (w : World) (hL : Lies w u l) (hM : l.length ≤ 9223372036854775807) (hn : IntIn c.n) : Calls Try.prog 6 #[u, actV c] w fun e w' => e = .returned (.bool true) ∧ Below w.heap.size w w' := by
  by_cases hl : 500 < l.length
  · exact apart_big u l c w hL hl hM
  · exact apart_small u l c w hL (by omega) hn
end Go.Proofs.Ythpnmhllgjibgaa.Rw
