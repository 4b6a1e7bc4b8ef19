/- Layer 13: the program's Up. -/
import Derived.Test.YtomfeehebkknoaaScPg
set_option linter.unusedVariables false
namespace Go.Proofs.Ytomfeehebkknoaa.Rw
open Go.RowKit

theorem wide_ahead {ls : Ls} (h : wideL ls) (t b : Int) : wideL (aheadL ls t b) := by unfold aheadL; split; (· exact wide_take h _); exact h
theorem wide_nil : wideL [] := fun k => by simp [lineV]
theorem wide_reg {ls : Ls} (h : wideL ls) (t b : Int) : wideL (regL ls t b) := by unfold regL; split; (· exact wide_drop (wide_take h _) _); exact wide_nil
theorem wide_beh {ls : Ls} (h : wideL ls) (t b : Int) : wideL (behL ls t b) := by unfold behL; split; (· exact wide_drop h _); exact wide_nil
theorem ahead_le (ls : Ls) (t b : Int) : (aheadL ls t b).length ≤ ls.length := by unfold aheadL; split; (· rw [List.length_take]; omega); exact Nat.le_refl _
theorem reg_le (ls : Ls) (t b : Int) : (regL ls t b).length ≤ ls.length := by unfold regL; split; (· rw [List.length_drop, List.length_take]; omega); exact Nat.zero_le _
theorem beh_le (ls : Ls) (t b : Int) : (behL ls t b).length ≤ ls.length := by unfold behL; split; (· rw [List.length_drop]; omega); exact Nat.zero_le _
/-- Two answers of the call's own, one behind the other. -/
theorem two_own {w y1 y2 : World} {v1 v2 : Value} {us vs : List Value} {l1 l2 : Ls} (h1 : OwnT y1 w.heap.size v1 us l1) (hb : Below w.heap.size w y1) (h2 : OwnT y2 y1.heap.size v2 vs l2) (hb2 : Below y1.heap.size y1 y2) : TwoPost w l1 l2 (.returned (.tuple #[v1, v2])) y2 := by
  have a1 := h1.at_ (F := fun b => w.heap.size ≤ b ∧ b < y1.heap.size) fun b h h' => ⟨h, h'⟩
  have a2 := h2.at_ (F := fun b => y1.heap.size ≤ b ∧ b < y2.heap.size) fun b h h' => ⟨h, h'⟩
  have s1 := hb.size
  have s2 := hb2.size
  exact ⟨v1, v2, _, _, rfl, a1.1.keep (fun b _ hl => hb2.block b hl) hb2.size, a1.2.keep (fun b hF hl => hb2.block b hl), a2.1, a2.2, fun b hF => ⟨hF.1, by omega, fun hF2 => by omega⟩, fun b hF => ⟨by omega, hF.2⟩, hb.trans (hb2.mono hb.size)⟩

set_option maxRecDepth 100000 in
set_option maxHeartbeats 4000000 in
theorem up_any {F : Nat → Prop} {w : World} {v : Value} {ls : Ls} (h : TabAt F w v ls) (hl : ls.length ≤ 100000) (hw : wideL ls) (t b n wd : Int) (a : Aa) (ht : IntIn t) (hb : IntIn b) (hn : IntIn n) (hwd : IntIn wd) : Calls Try.prog 9 #[v, .int .i64 t, .int .i64 b, .int .i64 n, .int .i64 wd, attrV a] w (TwoPost w (upO ls t b n (freshC wd a)) (upG ls t b n)) := by
  obtain ⟨A, c, rfl, -⟩ := id h
  obtain ⟨W, hW, hB, hs, hat⟩ := box_at w a
  have HW := Lib.hid hW
  have HB := Lib.hid hB
  have HAt := Lib.hid hat
  have KP := Lib.hid (parts_any (h.below hB) t b ht hb (by omega))
  have HL := Lib.hid hl
  have HWd := Lib.hid hw
  obtain ⟨LU, hLU⟩ : ∃ LU, upO ls t b n (freshC wd a) = LU := ⟨_, rfl⟩
  obtain ⟨LG, hLG⟩ : ∃ LG, upG ls t b n = LG := ⟨_, rfl⟩
  rw [hLU, hLG]
  obtain ⟨n0, hn0⟩ : ∃ n0, n0 = ls.length := ⟨_, rfl⟩
  rw [← hn0] at KP ⊢
  clear h hW hB hs hat hl hw hn0
  go_enter Try.func9, Try.ntmps9
  go_upto_region 1 with fail
  change Code.wp _ _ _ _ (w.alloc (attrO a))
  rw [← HW.out]
  go_wp2_with fail
  refine (show Calls _ _ _ _ _ from KP.out).mono ?_
  rintro e w1 ⟨A1, n1, c1, A2, n2, c2, A3, n3, c3, rfl, q1, q2, q3, b1⟩
  have S1 := Lib.hid (steps_any A2 n2 c2 n w1)
  have hN2 := q2.len.1
  obtain ⟨N, hN⟩ : ∃ N, N = stepN n n2 := ⟨_, rfl⟩
  rw [← hN] at S1
  have hNn : N ≤ n2 := by rw [hN]; unfold stepN; omega
  rw [hN2] at hN
  obtain ⟨p, m, d, k1, qp⟩ := from_any q2 N hNn
  obtain ⟨p', m', d', k2, qp'⟩ := to_any q2 N hNn
  have hlr := reg_le ls t b
  obtain ⟨f, hf⟩ : ∃ f, f = freshC wd a := ⟨_, rfl⟩
  have hcat := up_cat ls t b n f N hN
  have K1 : Hid (∀ V, Below w1.heap.size w1 V → Calls Try.prog 19 #[.slice A1 n1 c1] V (CallPost w1 V (aheadL ls t b))) := Lib.hid fun V hV => (copiedT_any (q1.below hV) (by have := ahead_le ls t b; have := HL.out; omega) (wide_ahead HWd.out t b)).mono fun e w' hp => hp.call hV
  have K2 : Hid (∀ V, Below w1.heap.size w1 V → Calls Try.prog 19 #[.slice p m d] V (CallPost w1 V ((regL ls t b).drop N))) := Lib.hid fun V hV => (copiedT_any (qp V hV) (by rw [List.length_drop]; have := HL.out; omega) (wide_drop (wide_reg HWd.out t b) N)).mono fun e w' hp => hp.call hV
  have K3 : Hid (∀ V, Below w1.heap.size w1 V → Calls Try.prog 20 #[.int .i64 (N : Int), .int .i64 wd, attrV a] V (CallPost w1 V (List.replicate N f))) := Lib.hid fun V hV => (hf ▸ freshT_any N wd a V (by have := HL.out; omega)).mono fun e w' hp => hp.call hV
  have K4 : Hid (∀ V, Below w1.heap.size w1 V → Calls Try.prog 19 #[.slice A3 n3 c3] V (CallPost w1 V (behL ls t b))) := Lib.hid fun V hV => (copiedT_any (q3.below hV) (by have := beh_le ls t b; have := HL.out; omega) (wide_beh HWd.out t b)).mono fun e w' hp => hp.call hV
  have K5 : Hid (∀ V, Below w1.heap.size w1 V → Calls Try.prog 19 #[.slice p' m' d'] V (CallPost w1 V ((regL ls t b).take N))) := Lib.hid fun V hV => (copiedT_any (qp' V hV) (by rw [List.length_take]; have := HL.out; omega) (wide_take (wide_reg HWd.out t b) N)).mono fun e w' hp => hp.call hV
  rw [hf] at hcat
  rw [hLU, hLG] at hcat
  rw [← hf] at hcat
  rw [hcat.2] at K5
  have HCat : Hid (aheadL ls t b ++ (regL ls t b).drop N ++ List.replicate N f ++ behL ls t b = LU) := Lib.hid hcat.1
  have HLen : Hid (LU.length ≤ 1000000) := Lib.hid (by rw [← hLU, upO_len]; have := HL.out; omega)
  generalize aheadL ls t b = L1 at *
  generalize (regL ls t b).drop N = L2 at *
  generalize List.replicate N f = L3 at *
  generalize behL ls t b = L4 at *
  have HB1 : Hid (Below w.heap.size w w1) := Lib.hid (HB.out.trans (b1.mono HB.out.size))
  have HBox : Hid (∀ V, Below w1.heap.size w1 V → V.heap[w.heap.size]? = some (attrO a)) := Lib.hid fun V hV => HAt.out V (b1.trans (hV.mono b1.size))
  obtain ⟨B, hBq⟩ : ∃ B, B = w.heap.size := ⟨_, rfl⟩
  rw [← hBq] at HBox HB1
  rw [← hBq]
  have HBq := Lib.hid hBq
  have c0 := fun V hV => cell_of (HBox.out V hV) 0
  have c1' := fun V hV => cell_of (HBox.out V hV) 1
  have c2' := fun V hV => cell_of (HBox.out V hV) 2
  have c3' := fun V hV => cell_of (HBox.out V hV) 3
  have c4 := fun V hV => cell_of (HBox.out V hV) 4
  have kd : Below w1.heap.size w1 w1.drew := below_drew (Below.refl _ _) 1
  have K6 : Hid (∀ (y1 y2 y3 y4 : World) (A5 A6 A7 A8 : Option Addr) (n5 c5 n6 c6 n7 c7 n8 c8 : Nat) (u5 u6 u7 u8 : List Value), (OwnT y1 w1.drew.heap.size (.slice A5 n5 c5) u5 L1 ∧ Below w1.drew.heap.size w1.drew y1) → (OwnT y2 y1.heap.size (.slice A6 n6 c6) u6 L2 ∧ Below y1.heap.size y1 y2) → (OwnT y3 y2.heap.size (.slice A7 n7 c7) u7 L3 ∧ Below y2.heap.size y2 y3) → (OwnT y4 y3.heap.size (.slice A8 n8 c8) u8 L4 ∧ Below y3.heap.size y3 y4) → Below w1.heap.size w1 y4 →
      Calls Try.prog 18 #[.slice (some ⟨y4.heap.size, 0, none⟩) 4 4] (y4.alloc (.cells #[.slice A5 n5 c5, .slice A6 n6 c6, .slice A7 n7 c7, .slice A8 n8 c8] 22 (0, 0))) fun e w' => ∃ A n c us, e = .returned (.slice A n c) ∧ Hid (OwnT w' B (.slice A n c) us LU) ∧ Below w1.heap.size w1 w') := Lib.hid (by
    intro y1 y2 y3 y4 A5 A6 A7 A8 n5 c5 n6 c6 n7 c7 n8 c8 u5 u6 u7 u8 h5 h6 h7 h8 hb
    have hh := four_call (B := B) h5 h6 h7 h8 kd.size hb (by rw [HCat.out]; exact HLen.out) (by rw [HBq.out]; exact HB1.out.size) rfl
    rw [HCat.out] at hh
    exact hh)
  clear q1 q2 q3 qp qp' hlr hN hN2 hNn hcat hf KP b1 hBq hLU hLG
  go_wp2_with fail
  refine (show Calls _ _ _ _ _ from S1.out).mono ?_
  rintro e w2 ⟨rfl, rfl⟩
  clear S1
  go_upto_region 3 with fail
  go_region_held3 (fun V => Below w1.heap.size w1 V) (first | assumption | exact Below.alloc (by assumption) (Below.size (by assumption)) _)
    (first
      | (go_at_call 19; (with_reducible refine (K1.out _ (by assumption)).mono ?_); rintro e y1 ⟨A5, n5, c5, u5, rfl, o5, j5⟩)
      | (go_at_call 19; (with_reducible refine (K2.out _ (by assumption)).mono ?_); rintro e y2 ⟨A6, n6, c6, u6, rfl, o6, j6⟩)
      | (go_at_call 20; (with_reducible refine (K3.out _ (by assumption)).mono ?_); rintro e y3 ⟨A7, n7, c7, u7, rfl, o7, j7⟩)
      | (go_at_call 19; (with_reducible refine (K4.out _ (by assumption)).mono ?_); rintro e y4 ⟨A8, n8, c8, u8, rfl, o8, j8⟩)
      | (go_at_call 18; (refine (K6.out _ _ _ _ _ _ _ _ _ _ _ _ _ _ _ _ _ _ _ _ o5.out o6.out o7.out o8.out j8).mono ?_); rintro e y5 ⟨A9, n9, c9, u9, rfl, o9, j9⟩))
  clear K1 K2 K3 K4 HCat o5 o6 o7 o8 j5 j6 j7 j8
  have K5' := Lib.hid (K5.out y5 j9)
  go_wp2_with fail
  refine (show Calls _ _ _ _ _ from K5'.out).mono ?_
  rintro e y6 ⟨A10, n10, c10, u10, rfl, o10, j10⟩
  go_wp2
  go_ret2
  have hB9 := HB1.out
  have ho9 := o9.out
  rw [HBq.out] at hB9 ho9
  exact two_own ho9 (hB9.trans (j9.mono hB9.size)) o10.out.1 o10.out.2
end Go.Proofs.Ytomfeehebkknoaa.Rw
