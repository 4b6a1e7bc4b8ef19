/- Layer 7: ParamsBack's walk. -/
import Derived.Test.YtjeonnlcajlghaaDoorPaQ
import Derived.Test.YtjeonnlcajlghaaDoorPaT
import Derived.Test.YtjeonnlcajlghaaDoorPaV
import Derived.Test.YtjeonnlcajlghaaDoorOpenTabI
namespace Go.Proofs.YtjeonnlcajlghaaDoor
open Go.RowKit Par

theorem u16_bounds {a : Int} (h : (Lit.int .u16 a).wf = true) : ∃ m : Nat, m < 65536 ∧ a = (m : Int) := by
  simp [Lit.wf] at h
  have h1 : a ≤ 65535 := h.2
  have h0 : 0 ≤ a := h.1
  exact ⟨a.toNat, by omega, by omega⟩

theorem GridK.below {K : IntKind} {w w' : World} {B n : Nat} {A : Option Addr} {L : Nat → Nat} {T : Nat → Nat → Int} (h : GridK K w B A n L T) (hb : Below B w w') : GridK K w' B A n L T := fun hn => by
  obtain ⟨a, e, hB, hr⟩ := h hn
  refine ⟨a, e, hB, fun r hlt => ?_⟩
  obtain ⟨A', C, hc, hl, hx⟩ := hr r hlt
  refine ⟨A', C, (hb.cell (p := a.add r) (by rw [add_block]; exact hB)).trans hc, hl, fun c hcl => ?_⟩
  obtain ⟨a', e', hb', hc', hw⟩ := hx c hcl
  exact ⟨a', e', hb', (hb.cell (p := a'.add c) (by rw [add_block]; exact hb')).trans hc', hw⟩
theorem GridK.at_ {K : IntKind} {w : World} {B n : Nat} {A : Option Addr} {L : Nat → Nat} {T : Nat → Nat → Int} (h : GridK K w B A n L T) {r : Nat} (hr : r < n) : ∃ a A' C, A = some a ∧ w.cell? (a.add r) = some (.slice A' (L r) C) ∧ L r ≤ 9223372036854775807 ∧
    ∀ c, c < L r → ∃ a', A' = some a' ∧ w.cell? (a'.add c) = some (.int K (T r c)) ∧ (Lit.int K (T r c)).wf = true := by
  obtain ⟨a, e, hb, hx⟩ := h (by omega)
  obtain ⟨A', C, hc, hl, hy⟩ := hx r hr
  refine ⟨a, A', C, e, hc, hl, fun c hcl => ?_⟩
  obtain ⟨a', e', _, h1, h2⟩ := hy c hcl
  exact ⟨a', e', h1, h2⟩

theorem itoa_is (y : Nat) (z : Int) (hz : z = (y : Int)) (hy : y < 10 ^ 4) (w : World) (hV : Vars w) :
    Calls Tryd.prog 5 #[.int .i64 z] w fun e w' => ∃ D : ByteArray, e = .returned (.string D) ∧ D.data.toList = Lib.decDigits y ∧ D.size ≤ 4 ∧ Below w.heap.size w w' := by
  subst hz
  have hy' : y < 10000 := hy
  refine (itoa_any (y : Int) (by omega) (by omega) w hV).mono ?_
  rintro e w' ⟨rfl, hb⟩
  rw [Lib.itoa_nonneg]
  refine ⟨_, rfl, by simp, ?_, hb⟩
  show (Lib.decDigits y).toArray.size ≤ 4
  rw [List.size_toArray]
  exact digits_le 3 y hy

theorem back_big (n cap : Nat) (A : Option Addr) (w : World) (h : 16 < n) :
    Calls Tryd.prog 3 #[.slice A n cap] w fun e w' => e = .returned (.bool true) ∧ Below w.heap.size w w' := by
  have d0 : decide ((16 : Int) < n) = true := by simp; omega
  clear h
  go_enter Tryd.func3, Tryd.ntmps3
  go_wp2_with fail
  refine (awake_any w).mono ?_
  rintro e w1 ⟨rfl, hb⟩
  have B1 := Lib.hid hb
  clear hb
  go_wp2
  go_ret
  exact ⟨rfl, B1.out⟩

set_option maxRecDepth 100000 in
set_option maxHeartbeats 6400000 in
theorem back_small (n cap : Nat) (A0 : Option Addr) (L : Nat → Nat) (T : Nat → Nat → Int) (w : World) (hn : n ≤ 16) (hG : GridK .u16 w w.heap.size A0 n L T) (hV : Vars w) :
    Calls Tryd.prog 3 #[.slice A0 n cap] w fun e w' => e = .returned (.bool true) ∧ Below w.heap.size w w' := by
  have d0 : decide ((16 : Int) < n) = false := by simp; omega
  have HG := Lib.hid hG
  have HV := Lib.hid hV
  obtain ⟨i0, hi, hz0, hz1, hz2⟩ := info_parts info_int
  have HI := Lib.hid hi; have HZ0 := Lib.hid hz0; have HZ1 := Lib.hid hz1; have HZ2 := Lib.hid hz2
  clear hi hz0 hz1 hz2
  obtain ⟨i1, hi, hz0, hz1, hz2⟩ := info_parts info_row
  have HJ := Lib.hid hi; have HY0 := Lib.hid hz0; have HY1 := Lib.hid hz1; have HY2 := Lib.hid hz2
  clear hi hz0 hz1 hz2 hG hV
  go_enter Tryd.func3, Tryd.ntmps3
  go_wp2_with fail
  refine (awake_any w).mono ?_
  rintro e w1 ⟨rfl, hb⟩
  have B1 := Lib.hid hb
  clear hb
  go_wp2
  go_loopw [3, 4, 5] (fun v3 v4 v5 wr => ∃ (k : Nat) (X : ByteArray) (A : Option Addr) (cA b : Nat), k ≤ n ∧ v5 = .int .i64 k ∧ v3 = .string X ∧ v4 = .slice A k cA ∧ X.size ≤ 41 * k ∧ Hid (X.data.toList = listT true (backB L T k)) ∧ Hid (BackM w wr w.heap.size b (backB L T k) [] A cA none 0) ∧ Hid (∀ r, r < k → 1 ≤ L r ∧ L r ≤ 8)) (fun _ _ v5 _ => n - (RowKit.intOf v5).toNat)
  case atStart => exact ⟨0, ⟨#[]⟩, none, 0, w1.heap.size, Nat.zero_le _, rfl, rfl, rfl, by decide, Lib.hid rfl, Lib.hid (BackM.start B1.out), Lib.hid (fun r hr => by omega)⟩
  case round =>
    obtain ⟨k, X, A, cA, b, hk, rfl, rfl, rfl, hX, HX, HM, HR⟩ := hrel
    rename_i wr
    by_cases hlt : k < n
    · obtain ⟨a, A1, C1, rfl, ca, _, _⟩ := (HG.out.below HM.out.old).at_ hlt
      obtain ⟨m, hm⟩ : ∃ m, m = L k := ⟨_, rfl⟩
      rw [← hm] at ca
      have HMk := Lib.hid hm
      by_cases hm1 : m < 1
      · have d1 : decide ((m : Int) < 1) = true := by simp; omega
        have h1 := HM.out.old
        clear hm HMk
        go_wp2
        go_ret
        exact ⟨rfl, h1⟩
      have d1 : decide ((m : Int) < 1) = false := by simp; omega
      by_cases hm8 : 8 < m
      · have d2 : decide ((8 : Int) < m) = true := by simp; omega
        have h1 := HM.out.old
        clear hm HMk
        go_wp2
        go_ret
        exact ⟨rfl, h1⟩
      have d2 : decide ((8 : Int) < m) = false := by simp; omega
      have HRk : Hid (∀ r, r < k + 1 → 1 ≤ L r ∧ L r ≤ 8) := Lib.hid fun r hr => by
        by_cases e : r = k
        · subst e; omega
        · exact HR.out r (by omega)
      clear hm
      by_cases hk0 : k = 0
      · have HTX0 : Hid (X.data.toList = textB L T k 0) := Lib.hid (by rw [text_zero, if_pos hk0, List.append_nil]; exact HX.out)
        have HS0 : Hid (X.size ≤ 41 * k + 1 + 5 * 0) := Lib.hid (by omega)
        have g1 : decide (0 < k) = false := by simp; omega
        clear hk0
        go_wp2
        go_loopw [3, 6, 7] (fun v3 v6 v7 wr' => ∃ (W : World) (t : Nat) (Y : ByteArray) (O : Option Addr) (cO b2 : Nat), W = wr' ∧ t ≤ m ∧ v7 = .int .i64 t ∧ v3 = .string Y ∧ v6 = .slice O t cO ∧ Y.size ≤ 41 * k + 1 + 5 * t ∧ Hid (Y.data.toList = textB L T k t) ∧ Hid (BackM w W w.heap.size b2 (backB L T k) (rowB T k t) A cA O cO)) (fun _ _ v7 _ => m - (RowKit.intOf v7).toNat)
        case atStart => exact ⟨_, 0, _, none, 0, b, rfl, Nat.zero_le _, rfl, rfl, rfl, HS0.out, HTX0, HM⟩
        case round =>
          obtain ⟨W, t, Y, O, cO, b2, rfl, ht, rfl, rfl, rfl, hYs, HY, HM2⟩ := hrel
          obtain ⟨a', A2, C2, hA', ca2, _, hx2⟩ := (HG.out.below HM2.out.old).at_ hlt
          cases hA'
          rw [← HMk.out] at ca2 hx2
          by_cases ht2 : t < m
          · obtain ⟨p, rfl, cp, hwf⟩ := hx2 t ht2
            obtain ⟨x, hx16, hxx⟩ := u16_bounds hwf
            rw [hxx] at cp
            have hxT : Hid ((T k t).toNat % 10000 = x % 10000) := Lib.hid (by rw [hxx, Int.toNat_natCast])
            clear hx2 hwf hxx
            by_cases ht0 : t = 0
            · have g0 : decide (0 < t) = false := by simp; omega
              have HT0 := Lib.hid ht0
              clear ht0
              go_wp2_with fail
              refine (itoa_is (x % 10000) _ (by omega) (by show x % 10000 < 10000; omega) _ (HV.out.below HM2.out.old (Nat.le_refl _))).mono ?_
              rintro e w2 ⟨D, rfl, hD, hDs, hb⟩
              have HM3 := Lib.hid (HM2.out.below hb)
              have HD := Lib.hid hD
              clear hD hb HM2
              have n2 : ¬ 9223372036854775807 < Y.size + D.size := by omega
              have HTX2 : Hid ((Y ++ D).data.toList = textB L T k (t + 1)) := Lib.hid (by rw [text_succ, if_pos HT0.out, hxT.out, ← HY.out, ← HD.out]; simp [ByteArray.data_append])
              have HSz : Hid ((Y ++ D).size ≤ 41 * k + 1 + 5 * (t + 1)) := Lib.hid (by
                rw [ByteArray.size_append]
                omega)
              have HLr := Lib.hid (row_len T k t)
              have HRs := Lib.hid (row_succ T k t)
              go_wp2_with (at_builtin; refine wpList_append_own _ rfl (.tmp 64) (.tmp 66) 26 rfl b2 3 i0 (.int .i64 0) 1 8 Tryd.underlying26 HI.out HZ0.out HZ1.out HZ2.out rfl (by decide) _ _ _ rfl (by have := (HM3.out.alloc (.cells #[.int .i64 ((x : Int) % 10000)] 3)).own; rw [HLr.out] at this; exact this) ⟨w2.heap.size, 0, none⟩ 1 1 [.int .i64 ((x : Int) % 10000)] rfl rfl ?d1 ?d2 ?d3 ?d4 ?d5 ?_)
              case d1 => exact one_new w2 _ _
              case d2 => intro u hu; simp at hu; subst hu; rfl
              case d3 => unfold maxLen; omega
              case d4 => omega
              case d5 => have := HM3.out.sz; simp; omega
              intro v' w3 hown hg _
              obtain ⟨g2, c2, rfl, hM4⟩ := HM3.out.put (x % 10000) (by rw [HLr.out, show ((x % 10000 : Nat) : Int) = (x : Int) % 10000 by omega]; exact hown) (by rw [HLr.out]; exact hg)
              rw [← hxT.out, ← HRs.out] at hM4
              have HM5 := Lib.hid hM4
              rw [HLr.out]
              clear hown hg hM4 HM3
              go_wp2
              go_roundw
              case rel => exact ⟨_, t + 1, _, some ⟨g2, 0, none⟩, c2, b2, rfl, by omega, by go_num, rfl, rfl, HSz.out, HTX2, HM5⟩
              case measure => simp [RowKit.intOf]; omega
            · have n1 : ¬ 9223372036854775807 < Y.size + 1 := by omega
              have g0 : decide (0 < t) = true := by simp; omega
              go_wp2_with fail
              refine (itoa_is (x % 10000) _ (by omega) (by show x % 10000 < 10000; omega) _ (HV.out.below HM2.out.old (Nat.le_refl _))).mono ?_
              rintro e w2 ⟨D, rfl, hD, hDs, hb⟩
              have HM3 := Lib.hid (HM2.out.below hb)
              have HD := Lib.hid hD
              clear hD hb HM2
              have n2 : ¬ 9223372036854775807 < Y.size + 1 + D.size := by omega
              have HTX2 : Hid ((Y ++ ⟨#[58]⟩ ++ D).data.toList = textB L T k (t + 1)) := Lib.hid (by rw [text_succ, if_neg ht0, hxT.out, ← HY.out, ← HD.out]; simp [ByteArray.data_append])
              have HSz : Hid ((Y ++ ⟨#[58]⟩ ++ D).size ≤ 41 * k + 1 + 5 * (t + 1)) := Lib.hid (by
                rw [ByteArray.size_append, ByteArray.size_append]
                have : (ByteArray.mk #[58]).size = 1 := rfl
                rw [this]
                omega)
              have HLr := Lib.hid (row_len T k t)
              have HRs := Lib.hid (row_succ T k t)
              go_wp2_with (at_builtin; refine wpList_append_own _ rfl (.tmp 64) (.tmp 66) 26 rfl b2 3 i0 (.int .i64 0) 1 8 Tryd.underlying26 HI.out HZ0.out HZ1.out HZ2.out rfl (by decide) _ _ _ rfl (by have := (HM3.out.alloc (.cells #[.int .i64 ((x : Int) % 10000)] 3)).own; rw [HLr.out] at this; exact this) ⟨w2.heap.size, 0, none⟩ 1 1 [.int .i64 ((x : Int) % 10000)] rfl rfl ?d1 ?d2 ?d3 ?d4 ?d5 ?_)
              case d1 => exact one_new w2 _ _
              case d2 => intro u hu; simp at hu; subst hu; rfl
              case d3 => unfold maxLen; omega
              case d4 => omega
              case d5 => have := HM3.out.sz; simp; omega
              intro v' w3 hown hg _
              obtain ⟨g2, c2, rfl, hM4⟩ := HM3.out.put (x % 10000) (by rw [HLr.out, show ((x % 10000 : Nat) : Int) = (x : Int) % 10000 by omega]; exact hown) (by rw [HLr.out]; exact hg)
              rw [← hxT.out, ← HRs.out] at hM4
              have HM5 := Lib.hid hM4
              rw [HLr.out]
              clear hown hg hM4 HM3
              go_wp2
              go_roundw
              case rel => exact ⟨_, t + 1, _, some ⟨g2, 0, none⟩, c2, b2, rfl, by omega, by go_num, rfl, rfl, HSz.out, HTX2, HM5⟩
              case measure => simp [RowKit.intOf]; omega
          · have htm : t = m := by omega
            subst htm
            obtain ⟨g2, c2, hO, _, _⟩ := HM2.out.own.form (by rw [row_len]; omega)
            have hOO : O = some ⟨g2, 0, none⟩ := by injection hO
            subst hOO
            clear hO hx2
            obtain ⟨rs, hrs0, hrs⟩ := HM2.out.rows
            have hrl : rs.length = (backB L T k).length := by rw [hrs0.1, Nat.mul_one]
            have HRS := Lib.hid hrs; have HRL := Lib.hid hrl
            have HE1 := Lib.hid (back_len L T k)
            have HE2 := Lib.hid (row_len T k t)
            have HTE : Hid (listT true (backB L T (k + 1)) = textB L T k t) := Lib.hid (by rw [text_end, ← HMk.out])
            have HBS : Hid (backB L T (k + 1) = backB L T k ++ [rowB T k t]) := Lib.hid (by rw [back_succ, ← HMk.out])
            have HR0 : Hid ((W.alloc (.cells #[.slice (some ⟨g2, 0, none⟩) t cO] 26)).ownsRow w.heap.size 26 1 (.slice A k cA) k rs) := Lib.hid (by rw [HE1.out] at hrs0; exact hrs0.alloc _)
            clear hrs0 hrs hrl
            go_wp2_with (at_builtin; refine wpList_append_own _ rfl (.tmp 68) (.tmp 70) 24 rfl w.heap.size 26 i1 (.slice none 0 0) 1 24 Tryd.underlying24 HJ.out HY0.out HY1.out HY2.out rfl (by decide) _ _ _ rfl HR0.out ⟨W.heap.size, 0, none⟩ 1 1 [.slice (some ⟨g2, 0, none⟩) t cO] rfl rfl ?f1 ?f2 ?f3 ?f4 ?f5 ?_)
            case f1 => exact one_new W _ _
            case f2 => intro u hu; simp at hu; subst hu; rfl
            case f3 => unfold maxLen; omega
            case f4 => omega
            case f5 => have := HM2.out.sz; have := HM2.out.bb; simp; omega
            intro v' w3 hown hg _
            obtain ⟨g3, c3, rfl, hM3⟩ := HM2.out.push HRS.out HRL.out (by rw [HE1.out, HE2.out]; exact hown) (by rw [HE1.out]; exact hg)
            rw [← HBS.out] at hM3
            have HX3 := Lib.hid hM3
            have HY3 : Hid (Y.data.toList = listT true (backB L T (k + 1))) := Lib.hid (by rw [HTE.out]; exact HY.out)
            rw [HE1.out]
            clear hown hg hM3 HM2 HR0
            go_wp2
            go_roundw
            case rel => exact ⟨k + 1, Y, some ⟨g3, 0, none⟩, c3, w3.heap.size, by omega, by go_num, rfl, rfl, by omega, HY3, HX3, HRk⟩
            case measure => simp [RowKit.intOf]; omega
      · have n0 : ¬ 9223372036854775807 < X.size + 1 := by omega
        have HTX0 : Hid ((X ++ ⟨#[59]⟩).data.toList = textB L T k 0) := Lib.hid (by rw [text_zero, if_neg hk0, ← HX.out]; simp [ByteArray.data_append])
        have HS0 : Hid ((X ++ ⟨#[59]⟩).size ≤ 41 * k + 1 + 5 * 0) := Lib.hid (by
          rw [ByteArray.size_append]
          have : (ByteArray.mk #[59]).size = 1 := rfl
          rw [this]
          omega)
        have g1 : decide (0 < k) = true := by simp; omega
        clear hk0
        go_wp2
        go_loopw [3, 6, 7] (fun v3 v6 v7 wr' => ∃ (W : World) (t : Nat) (Y : ByteArray) (O : Option Addr) (cO b2 : Nat), W = wr' ∧ t ≤ m ∧ v7 = .int .i64 t ∧ v3 = .string Y ∧ v6 = .slice O t cO ∧ Y.size ≤ 41 * k + 1 + 5 * t ∧ Hid (Y.data.toList = textB L T k t) ∧ Hid (BackM w W w.heap.size b2 (backB L T k) (rowB T k t) A cA O cO)) (fun _ _ v7 _ => m - (RowKit.intOf v7).toNat)
        case atStart => exact ⟨_, 0, _, none, 0, b, rfl, Nat.zero_le _, rfl, rfl, rfl, HS0.out, HTX0, HM⟩
        case round =>
          obtain ⟨W, t, Y, O, cO, b2, rfl, ht, rfl, rfl, rfl, hYs, HY, HM2⟩ := hrel
          obtain ⟨a', A2, C2, hA', ca2, _, hx2⟩ := (HG.out.below HM2.out.old).at_ hlt
          cases hA'
          rw [← HMk.out] at ca2 hx2
          by_cases ht2 : t < m
          · obtain ⟨p, rfl, cp, hwf⟩ := hx2 t ht2
            obtain ⟨x, hx16, hxx⟩ := u16_bounds hwf
            rw [hxx] at cp
            have hxT : Hid ((T k t).toNat % 10000 = x % 10000) := Lib.hid (by rw [hxx, Int.toNat_natCast])
            clear hx2 hwf hxx
            by_cases ht0 : t = 0
            · have g0 : decide (0 < t) = false := by simp; omega
              have HT0 := Lib.hid ht0
              clear ht0
              go_wp2_with fail
              refine (itoa_is (x % 10000) _ (by omega) (by show x % 10000 < 10000; omega) _ (HV.out.below HM2.out.old (Nat.le_refl _))).mono ?_
              rintro e w2 ⟨D, rfl, hD, hDs, hb⟩
              have HM3 := Lib.hid (HM2.out.below hb)
              have HD := Lib.hid hD
              clear hD hb HM2
              have n2 : ¬ 9223372036854775807 < Y.size + D.size := by omega
              have HTX2 : Hid ((Y ++ D).data.toList = textB L T k (t + 1)) := Lib.hid (by rw [text_succ, if_pos HT0.out, hxT.out, ← HY.out, ← HD.out]; simp [ByteArray.data_append])
              have HSz : Hid ((Y ++ D).size ≤ 41 * k + 1 + 5 * (t + 1)) := Lib.hid (by
                rw [ByteArray.size_append]
                omega)
              have HLr := Lib.hid (row_len T k t)
              have HRs := Lib.hid (row_succ T k t)
              go_wp2_with (at_builtin; refine wpList_append_own _ rfl (.tmp 64) (.tmp 66) 26 rfl b2 3 i0 (.int .i64 0) 1 8 Tryd.underlying26 HI.out HZ0.out HZ1.out HZ2.out rfl (by decide) _ _ _ rfl (by have := (HM3.out.alloc (.cells #[.int .i64 ((x : Int) % 10000)] 3)).own; rw [HLr.out] at this; exact this) ⟨w2.heap.size, 0, none⟩ 1 1 [.int .i64 ((x : Int) % 10000)] rfl rfl ?d1 ?d2 ?d3 ?d4 ?d5 ?_)
              case d1 => exact one_new w2 _ _
              case d2 => intro u hu; simp at hu; subst hu; rfl
              case d3 => unfold maxLen; omega
              case d4 => omega
              case d5 => have := HM3.out.sz; simp; omega
              intro v' w3 hown hg _
              obtain ⟨g2, c2, rfl, hM4⟩ := HM3.out.put (x % 10000) (by rw [HLr.out, show ((x % 10000 : Nat) : Int) = (x : Int) % 10000 by omega]; exact hown) (by rw [HLr.out]; exact hg)
              rw [← hxT.out, ← HRs.out] at hM4
              have HM5 := Lib.hid hM4
              rw [HLr.out]
              clear hown hg hM4 HM3
              go_wp2
              go_roundw
              case rel => exact ⟨_, t + 1, _, some ⟨g2, 0, none⟩, c2, b2, rfl, by omega, by go_num, rfl, rfl, HSz.out, HTX2, HM5⟩
              case measure => simp [RowKit.intOf]; omega
            · have n1 : ¬ 9223372036854775807 < Y.size + 1 := by omega
              have g0 : decide (0 < t) = true := by simp; omega
              go_wp2_with fail
              refine (itoa_is (x % 10000) _ (by omega) (by show x % 10000 < 10000; omega) _ (HV.out.below HM2.out.old (Nat.le_refl _))).mono ?_
              rintro e w2 ⟨D, rfl, hD, hDs, hb⟩
              have HM3 := Lib.hid (HM2.out.below hb)
              have HD := Lib.hid hD
              clear hD hb HM2
              have n2 : ¬ 9223372036854775807 < Y.size + 1 + D.size := by omega
              have HTX2 : Hid ((Y ++ ⟨#[58]⟩ ++ D).data.toList = textB L T k (t + 1)) := Lib.hid (by rw [text_succ, if_neg ht0, hxT.out, ← HY.out, ← HD.out]; simp [ByteArray.data_append])
              have HSz : Hid ((Y ++ ⟨#[58]⟩ ++ D).size ≤ 41 * k + 1 + 5 * (t + 1)) := Lib.hid (by
                rw [ByteArray.size_append, ByteArray.size_append]
                have : (ByteArray.mk #[58]).size = 1 := rfl
                rw [this]
                omega)
              have HLr := Lib.hid (row_len T k t)
              have HRs := Lib.hid (row_succ T k t)
              go_wp2_with (at_builtin; refine wpList_append_own _ rfl (.tmp 64) (.tmp 66) 26 rfl b2 3 i0 (.int .i64 0) 1 8 Tryd.underlying26 HI.out HZ0.out HZ1.out HZ2.out rfl (by decide) _ _ _ rfl (by have := (HM3.out.alloc (.cells #[.int .i64 ((x : Int) % 10000)] 3)).own; rw [HLr.out] at this; exact this) ⟨w2.heap.size, 0, none⟩ 1 1 [.int .i64 ((x : Int) % 10000)] rfl rfl ?d1 ?d2 ?d3 ?d4 ?d5 ?_)
              case d1 => exact one_new w2 _ _
              case d2 => intro u hu; simp at hu; subst hu; rfl
              case d3 => unfold maxLen; omega
              case d4 => omega
              case d5 => have := HM3.out.sz; simp; omega
              intro v' w3 hown hg _
              obtain ⟨g2, c2, rfl, hM4⟩ := HM3.out.put (x % 10000) (by rw [HLr.out, show ((x % 10000 : Nat) : Int) = (x : Int) % 10000 by omega]; exact hown) (by rw [HLr.out]; exact hg)
              rw [← hxT.out, ← HRs.out] at hM4
              have HM5 := Lib.hid hM4
              rw [HLr.out]
              clear hown hg hM4 HM3
              go_wp2
              go_roundw
              case rel => exact ⟨_, t + 1, _, some ⟨g2, 0, none⟩, c2, b2, rfl, by omega, by go_num, rfl, rfl, HSz.out, HTX2, HM5⟩
              case measure => simp [RowKit.intOf]; omega
          · have htm : t = m := by omega
            subst htm
            obtain ⟨g2, c2, hO, _, _⟩ := HM2.out.own.form (by rw [row_len]; omega)
            have hOO : O = some ⟨g2, 0, none⟩ := by injection hO
            subst hOO
            clear hO hx2
            obtain ⟨rs, hrs0, hrs⟩ := HM2.out.rows
            have hrl : rs.length = (backB L T k).length := by rw [hrs0.1, Nat.mul_one]
            have HRS := Lib.hid hrs; have HRL := Lib.hid hrl
            have HE1 := Lib.hid (back_len L T k)
            have HE2 := Lib.hid (row_len T k t)
            have HTE : Hid (listT true (backB L T (k + 1)) = textB L T k t) := Lib.hid (by rw [text_end, ← HMk.out])
            have HBS : Hid (backB L T (k + 1) = backB L T k ++ [rowB T k t]) := Lib.hid (by rw [back_succ, ← HMk.out])
            have HR0 : Hid ((W.alloc (.cells #[.slice (some ⟨g2, 0, none⟩) t cO] 26)).ownsRow w.heap.size 26 1 (.slice A k cA) k rs) := Lib.hid (by rw [HE1.out] at hrs0; exact hrs0.alloc _)
            clear hrs0 hrs hrl
            go_wp2_with (at_builtin; refine wpList_append_own _ rfl (.tmp 68) (.tmp 70) 24 rfl w.heap.size 26 i1 (.slice none 0 0) 1 24 Tryd.underlying24 HJ.out HY0.out HY1.out HY2.out rfl (by decide) _ _ _ rfl HR0.out ⟨W.heap.size, 0, none⟩ 1 1 [.slice (some ⟨g2, 0, none⟩) t cO] rfl rfl ?f1 ?f2 ?f3 ?f4 ?f5 ?_)
            case f1 => exact one_new W _ _
            case f2 => intro u hu; simp at hu; subst hu; rfl
            case f3 => unfold maxLen; omega
            case f4 => omega
            case f5 => have := HM2.out.sz; have := HM2.out.bb; simp; omega
            intro v' w3 hown hg _
            obtain ⟨g3, c3, rfl, hM3⟩ := HM2.out.push HRS.out HRL.out (by rw [HE1.out, HE2.out]; exact hown) (by rw [HE1.out]; exact hg)
            rw [← HBS.out] at hM3
            have HX3 := Lib.hid hM3
            have HY3 : Hid (Y.data.toList = listT true (backB L T (k + 1))) := Lib.hid (by rw [HTE.out]; exact HY.out)
            rw [HE1.out]
            clear hown hg hM3 HM2 HR0
            go_wp2
            go_roundw
            case rel => exact ⟨k + 1, Y, some ⟨g3, 0, none⟩, c3, w3.heap.size, by omega, by go_num, rfl, rfl, by omega, HY3, HX3, HRk⟩
            case measure => simp [RowKit.intOf]; omega
    · have hkn : k = n := by omega
      subst hkn
      have HT := Lib.hid (HM.out.tab (fun q hq => by have := (back_ok L T k HR.out q hq).2.1; omega))
      have HP := Lib.hid (back_pars L T k hn HR.out)
      have HE := Lib.hid (back_len L T k)
      have HQ := Lib.hid (back_ok L T k HR.out)
      have HO := Lib.hid HM.out.old
      generalize backB L T k = V at *
      clear HM
      go_wp2_with fail
      refine (mine_list HO.out HO.out.size X (listT true V) HX.out.symm (by omega)).mono ?_
      rintro e w2 ⟨rfl, hp, hb⟩
      have M2 := Lib.hid hp
      have T2 := Lib.hid ((HT.out.below hb).more hb.size)
      clear hp hb HO HT
      go_wp2_with fail
      refine (mine_all M2.out V k HP.out HE.out).mono ?_
      rintro e w3 ⟨rfl, ht, hp, hb⟩
      have M3 := Lib.hid hp
      have T3 := Lib.hid ht
      have W3 := Lib.hid (T2.out.below hb)
      clear hp ht hb M2 T2
      go_wp2_with fail
      refine (same_is _ _ T3.out W3.out HE.out HE.out (by rw [HE.out]; omega) (fun q hq => by have := (HQ.out q hq).2.1; omega)).mono ?_
      rintro e w4 ⟨rfl, j, rfl⟩
      go_wp2
      go_ret
      exact ⟨rfl, below_drew M3.out.old _⟩

theorem lawBack_any (n cap : Nat) (A : Option Addr) (L : Nat → Nat) (T : Nat → Nat → Int) (w : World) (hG : GridK .u16 w w.heap.size A n L T) (_ : n ≤ 9223372036854775807) (hV : Vars w) :
    Calls Tryd.prog 3 #[.slice A n cap] w fun e w' => e = .returned (.bool true) ∧ Below w.heap.size w w' := by
  by_cases h : 16 < n
  · exact back_big n cap A w h
  · exact back_small n cap A L T w (by omega) hG hV
end Go.Proofs.YtjeonnlcajlghaaDoor
