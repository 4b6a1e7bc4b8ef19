/- Layer 11: the program's Text: the walk. -/
import Derived.Test.YtifolcfnknlmdaaRwPi
set_option linter.unusedVariables false
namespace Go.Proofs.Ytifolcfnknlmdaa.Rw
open Go.RowKit

set_option maxRecDepth 100000 in
set_option maxHeartbeats 4000000 in
theorem ptext_any (u : Value) (l : List Ce) (w : World) (h : Lies w u l) (hl : l.length ≤ 100000) (hr : runesB l = true) : Calls Try.prog 28 #[u] w fun e w' => e = .returned (.string (textV l)) ∧ Below w.heap.size w w' := by
  obtain ⟨A, c, rfl, -⟩ := id h
  obtain ⟨n, hnn⟩ : ∃ n, n = l.length := ⟨_, rfl⟩
  rw [← hnn] at h hl ⊢
  obtain ⟨hn, -, -, R⟩ := h.row
  have HN := Lib.hid hn
  have HR := Lib.hid R
  have HRu := Lib.hid hr
  obtain ⟨T, hT⟩ : ∃ T, T = textV l := ⟨_, rfl⟩
  rw [← hT]
  have HT := Lib.hid hT
  obtain ⟨B, hB⟩ : ∃ B, B = w.heap.size := ⟨_, rfl⟩
  rw [← hB] at HR ⊢
  have HW0 : Hid (Below B w w) := Lib.hid (Below.refl _ _)
  have HBs : Hid (B ≤ w.heap.size) := Lib.hid (by omega)
  clear h hn R hT hnn hr hB
  go_enter Try.func28, Try.ntmps28
  go_wp2
  go_loopw [9, 3, 4] (fun i tx en wr => ∃ (k E : Nat) (b : List UInt8), k ≤ n ∧ i = .int .i64 k ∧ en = .int .i64 (E : Int) ∧ Hid (E = endT (l.take k)) ∧ Hid (b = allT (l.take k)) ∧ Hid (OwnBt wr B tx b) ∧ Hid (Below B w wr)) (fun i _ _ _ => n - (RowKit.intOf i).toNat)
  case atStart => exact ⟨0, 0, [], Nat.zero_le _, rfl, rfl, Lib.hid rfl, Lib.hid rfl, Lib.hid (bt_none _ _), HW0⟩
  case round =>
    obtain ⟨k, E, b, hk, rfl, rfl, HE, Hb, HO, HB⟩ := hrel
    rename_i wr
    by_cases hlt : k < n
    · have glt : decide ((k : Int) < (n : Int)) = true := by simp; omega
      have hkl : k < l.length := by rw [← HN.out]; exact hlt
      obtain ⟨bb, p, rfl, hbb, p0, p1, p2, p3, p4, p5, p6⟩ := HR.out.at_ hkl
      replace p0 := (HB.out.cell hbb).trans p0
      replace p1 := (HB.out.cell hbb).trans p1
      replace p2 := (HB.out.cell hbb).trans p2
      replace p3 := (HB.out.cell hbb).trans p3
      replace p4 := (HB.out.cell hbb).trans p4
      replace p5 := (HB.out.cell hbb).trans p5
      replace p6 := (HB.out.cell hbb).trans p6
      have i1 := idx_cell bb p n c k hlt
      have HC1 := Lib.hid (take_one hkl)
      have HC2 : Hid (-2147483648 ≤ (cellV l k).r ∧ (cellV l k).r ≤ 2147483647) := Lib.hid (by
        have := List.all_eq_true.1 HRu.out (cellV l k) (by rw [cell_lt hkl]; exact List.getElem_mem hkl)
        simpa using this)
      generalize cellV l k = C at *
      obtain ⟨W2, q, hW2, hq, ⟨e0, e1, e2, e3, e4, e5, e6⟩, fz, hbz, hbw, hcell⟩ := zero_at wr C HB.out
      have HB3 := Lib.hid (hbz (Nat.le_trans HBs.out HB.out.size))
      have HO3 := Lib.hid (bt_below HO.out hbw)
      have HQ : Hid (u3.ownBlock ≠ some q) := Lib.hid fun e => by have := (bt_ge HO.out q e).2; omega
      have HCl := Lib.hid hcell
      have HW2 := Lib.hid hW2
      have Hq := Lib.hid hq
      clear hbz hcell hW2 hq hbb hbw HO
      go_upto_region 6 with (refine wpList_alloc_ce rfl rfl ?_; rw [HW2.out, Hq.out])
      clear p0 p1 p2 p3 p4 p5 p6 HW2
      change Code.wp _ _ _ _ (setCe W2 q 0 C)
      generalize setCe W2 q 0 C = W3 at HB3 HO3 HCl ⊢
      clear e0 e1 e2 e3 e4 e5 e6 fz
      have c0 : W3.cell? ⟨q, 0, none⟩ = some (.int .i32 C.r) := cell_of HCl.out 0
      have c1 : W3.cell? ⟨q, 1, none⟩ = some (.int .u8 (C.w : Int)) := cell_of HCl.out 1
      by_cases hz : C.w = 2
      · have g1 : ((C.w : Int) == 2) = true := by rw [hz]; rfl
        have HA : Hid (E = endT (l.take (k + 1)) ∧ b = allT (l.take (k + 1))) := Lib.hid (by rw [HC1.out, (all_two hz).1, (all_two hz).2]; exact ⟨HE.out, Hb.out⟩)
        clear hz HE Hb
        go_wp2
        go_roundw
        case rel => exact ⟨k + 1, E, b, by omega, by go_num, rfl, Lib.hid HA.out.1, Lib.hid HA.out.2, HO3, HB3⟩
        case measure => simp [RowKit.intOf]; omega
      · have g1 : ((C.w : Int) == 2) = false := by simp; omega
        have HZ := Lib.hid hz
        have hbl : b.length ≤ 400000 := by
          rw [Hb.out]
          have h1 := all_le (l.take k)
          rw [List.length_take] at h1
          omega
        have K1 := Lib.hid (app_rune HO3.out (by omega) (Nat.le_trans HBs.out HB3.out.size) C.r HC2.out.1 HC2.out.2)
        have HAll : Hid (b ++ Lib.encodeRune C.r = allT (l.take (k + 1))) := Lib.hid (by rw [HC1.out, all_one hz, Hb.out])
        have Hbl := Lib.hid hbl
        have hql : q < W3.heap.size := blk_lt HCl.out
        have Hql := Lib.hid hql
        clear hz hbl hql HC2
        go_wp2_with fail
        refine (show Calls _ _ _ _ _ from K1.out).mono ?_
        rintro e w4 ⟨g', c', rfl, ho4, hb4, hs4, hq4⟩
        have B4 := Lib.hid (hb4 B w HB3.out (Nat.le_refl _))
        have O4 := Lib.hid ho4
        have hcl4 := (hq4 q Hql.out HQ.out).trans HCl.out
        have Hcl4 : Hid (∀ V, Below w4.heap.size w4 V → V.heap[q]? = some (.cells #[.int .i32 C.r, .int .u8 (C.w : Int), .int .u16 (C.a.fl : Int), .int .u8 (C.a.fk : Int), .int .u32 (C.a.fn : Int), .int .u8 (C.a.bk : Int), .int .u32 (C.a.bn : Int)] 38 (0, 0))) := Lib.hid fun V hV => (hV.block q (blk_lt hcl4)).trans hcl4
        clear ho4 hb4 hs4 hq4 hcl4 K1 HO3 HCl c0 c1 HB3 HQ
        obtain ⟨m, hm⟩ : ∃ m, m = (b ++ Lib.encodeRune C.r).length := ⟨_, rfl⟩
        rw [← hm] at O4
        rw [← hm]
        have Hm := Lib.hid hm
        clear hm
        have f0 := fun V hV => cell_of (Hcl4.out V hV) 0
        have f1 := fun V hV => cell_of (Hcl4.out V hV) 1
        have f2 := fun V hV => cell_of (Hcl4.out V hV) 2
        have f3 := fun V hV => cell_of (Hcl4.out V hV) 3
        have f4 := fun V hV => cell_of (Hcl4.out V hV) 4
        have f5 := fun V hV => cell_of (Hcl4.out V hV) 5
        have f6 := fun V hV => cell_of (Hcl4.out V hV) 6
        have kd : Below w4.heap.size w4 w4.drew := below_drew (Below.refl _ _) 1
        have K2 : Hid (∀ V, Below w4.heap.size w4 V → Calls Try.prog 36 #[attrV C.a] V fun e w' => e = .returned (ceV (blankC C.a)) ∧ Below w4.heap.size w4 w') := Lib.hid fun V hV => (blank_any C.a V).mono fun e w' ⟨he, hb⟩ => ⟨he, hV.trans (hb.mono hV.size)⟩
        have NE := neq_cell C (blankC C.a)
        rw [blank_iff] at NE
        cases hB : isBlank C with
        | true =>
          rw [hB] at NE
          have NE : ∀ V, (binOp .neq 38 (ceV C) (ceV (blankC C.a))).run Try.prog V = .ok (.bool false) V := NE
          have HE2 : Hid (E = endT (l.take (k + 1))) := Lib.hid (by rw [HC1.out, end_blank HZ.out hB]; exact HE.out)
          clear hB HE Hb
          go_upto_region 8 with fail
          go_region_held3 (fun V => Below w4.heap.size w4 V) (assumption)
            (first | (go_at_call 36; (with_reducible refine (K2.out _ (by assumption)).mono ?_); rintro e y1 ⟨rfl, j1⟩))
          have B5 := Lib.hid (B4.out.trans (j1.mono (Nat.le_trans HBs.out B4.out.size)))
          have O5 := Lib.hid (bt_below O4.out j1)
          clear j1 kd f0 f1 f2 f3 f4 f5 f6 Hcl4
          go_wp2
          go_roundw
          case rel => exact ⟨k + 1, E, b ++ Lib.encodeRune C.r, by omega, by go_num, rfl, HE2, HAll, Lib.hid (by rw [Hm.out] at O5 ⊢; exact O5.out), B5⟩
          case measure => simp [RowKit.intOf]; omega
        | false =>
          rw [hB] at NE
          have NE : ∀ V, (binOp .neq 38 (ceV C) (ceV (blankC C.a))).run Try.prog V = .ok (.bool true) V := NE
          have HE2 : Hid (m = endT (l.take (k + 1))) := Lib.hid (by rw [Hm.out, HAll.out, HC1.out, end_some HZ.out hB])
          clear hB HE Hb
          go_upto_region 8 with fail
          go_region_held3 (fun V => Below w4.heap.size w4 V) (assumption)
            (first | (go_at_call 36; (with_reducible refine (K2.out _ (by assumption)).mono ?_); rintro e y1 ⟨rfl, j1⟩))
          have B5 := Lib.hid (B4.out.trans (j1.mono (Nat.le_trans HBs.out B4.out.size)))
          have O5 := Lib.hid (bt_below O4.out j1)
          clear j1 kd f0 f1 f2 f3 f4 f5 f6 Hcl4
          go_wp2
          go_roundw
          case rel => exact ⟨k + 1, m, b ++ Lib.encodeRune C.r, by omega, by go_num, rfl, HE2, HAll, Lib.hid (by rw [Hm.out] at O5 ⊢; exact O5.out), B5⟩
          case measure => simp [RowKit.intOf]; omega
    · have hkn : k = n := by omega
      have glt : decide ((k : Int) < (n : Int)) = false := by simp; omega
      have HF : Hid (T = ⟨(b.take E).toArray⟩ ∧ E ≤ b.length) := Lib.hid (by
        have e : l.take k = l := List.take_of_length_le (by rw [hkn, HN.out]; exact Nat.le_refl _)
        rw [e] at HE Hb
        rw [HE.out, Hb.out, HT.out]
        exact ⟨by rw [(text_take l).1]; rfl, (text_take l).2⟩)
      clear HE Hb hkn
      rcases Joins.ownsRow_forms HO.out with ⟨rfl, hb0⟩ | ⟨g, cap, rfl⟩
      · have hE : E = 0 := by have := HF.out.2; omega
        have hb1 : b = [] := List.eq_nil_of_length_eq_zero hb0
        have HF2 : Hid (T = ⟨#[]⟩) := Lib.hid (by rw [HF.out.1, hb1, List.take_nil])
        subst hE
        have kn : ∀ W, (Instr.slice 77 (.slice none 0 0) none (some (.int .i64 ((0 : Nat) : Int))) none).run Try.prog W = .ok (.slice none 0 0) W := fun W => by kernel_rfl
        have kc : ∀ W, (convert 77 9 (.slice none 0 0)).run Try.prog W = .ok (.string ⟨#[]⟩) W := fun W => by kernel_rfl
        clear hb0 hb1 HF HO
        go_wp2
        go_ret
        exact ⟨by rw [HF2.out]; rfl, HB.out⟩
      · have kn := str_win g b.length cap E (by have := HF.out.2; rcases HO.out.2 with ⟨e, _⟩ | ⟨_, _, _, e, _, _, hc, _⟩; (· cases e); cases e; omega)
        have kc := bt_string HO.out E HF.out.2 wr rfl
        have HF2 := Lib.hid HF.out.1
        clear HF HO
        generalize (⟨(b.take E).toArray⟩ : ByteArray) = tt at kc HF2
        generalize b.length = m at kn
        go_wp2
        go_ret
        exact ⟨by rw [HF2.out]; rfl, HB.out⟩
end Go.Proofs.Ytifolcfnknlmdaa.Rw
