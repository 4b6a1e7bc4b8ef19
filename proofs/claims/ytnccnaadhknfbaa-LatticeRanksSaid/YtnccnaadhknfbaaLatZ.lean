/- Layer 1: the document's Rank: the walk. -/
import Derived.Test.YtnccnaadhknfbaaLatY
namespace Go.Proofs.Ytnccnaadhknfbaa
open Go.RowKit Lat

theorem refRank_bad (ranks sets : Int) (w : World) (h : ranks < 1 ∨ 64 < ranks ∨ sets < 0 ∨ 6 < sets) :
    Calls Try.prog 20 #[.int .i64 ranks, .int .i64 sets] w fun e w' => e = .returned (.slice none 0 0) ∧ w = w' := by
  by_cases h1 : ranks < 1
  · clear h
    go_enter Try.func20, Try.ntmps20
    go_wp2
    go_ret
    exact ⟨rfl, rfl⟩
  have d1 : decide (ranks < 1) = false := by simpa using h1
  by_cases h2 : 64 < ranks
  · clear h
    go_enter Try.func20, Try.ntmps20
    go_wp2
    go_ret
    exact ⟨rfl, rfl⟩
  have d2 : decide (64 < ranks) = false := by simpa using h2
  by_cases h3 : sets < 0
  · clear h
    go_enter Try.func20, Try.ntmps20
    go_wp2
    go_ret
    exact ⟨rfl, rfl⟩
  have d3 : decide (sets < 0) = false := by simpa using h3
  have h4 : 6 < sets := by omega
  clear h
  go_enter Try.func20, Try.ntmps20
  go_wp2
  go_ret
  exact ⟨rfl, rfl⟩

theorem wrap64_div (x r : Nat) (hx : x < 64) : wrap64 ((x : Int) / (r : Int)) = ((x / r : Nat) : Int) := by
  have h : x / r ≤ x := Nat.div_le_self _ _
  rw [← Int.natCast_ediv]
  generalize x / r = q at h
  unfold wrap64
  omega

def RefRankPost (w : World) (r s : Nat) (e : Ending) (w' : World) : Prop :=
  (64 < r * 2 ^ s ∧ e = .returned (.slice none 0 0) ∧ w = w') ∨
  (r * 2 ^ s ≤ 64 ∧ ∃ A cap, e = .returned (.slice A (r * 2 ^ s) cap) ∧ Below w.heap.size w w' ∧ GridIn w' w.heap.size A (r * 2 ^ s) (rankT r))

set_option maxRecDepth 100000 in
set_option maxHeartbeats 6400000 in
theorem refRank_any (r s : Nat) (w : World) (h1 : 1 ≤ r) (h2 : r ≤ 64) (h3 : s ≤ 6) :
    Calls Try.prog 20 #[.int .i64 r, .int .i64 s] w (RefRankPost w r s) := by
  have d1 : decide ((r : Int) < 1) = false := by simp; omega
  have d2 : decide (64 < (r : Int)) = false := by simp; omega
  have d3 : decide ((s : Int) < 0) = false := by simp
  have d4 : decide (6 < (s : Int)) = false := by simp; omega
  obtain ⟨i0, hi, hz0, hz1, hz2⟩ := info_parts info_bool
  have HI0 := Lib.hid hi; have HZ0 := Lib.hid hz0; have HZ1 := Lib.hid hz1; have HZ2 := Lib.hid hz2
  clear hi hz0 hz1 hz2
  obtain ⟨i1, hi, hz0, hz1, hz2⟩ := info_parts info_bools
  have HJ0 := Lib.hid hi; have HY0 := Lib.hid hz0; have HY1 := Lib.hid hz1; have HY2 := Lib.hid hz2
  clear hi hz0 hz1 hz2
  go_enter Try.func20, Try.ntmps20
  go_wp2
  go_loop [5, 6] (fun m i => ∃ j q : Nat, j ≤ s ∧ i = .int .i64 j ∧ m = .int .i64 q ∧ q ≤ 4096 ∧ q = r * 2 ^ j) (fun _ i => s - (intOf i).toNat)
  case atStart => exact ⟨0, r, Nat.zero_le _, rfl, rfl, by omega, by simp⟩
  case round =>
    obtain ⟨j, q, hj, rfl, rfl, hq, hqe⟩ := hrel
    have HQ := Lib.hid hqe; clear hqe
    by_cases hlt : j < s
    · have HQ2 := Lib.hid (show 2 * q = r * 2 ^ (j + 1) by rw [HQ.out, Nat.pow_succ, Nat.mul_comm (2 ^ j) 2, Nat.mul_left_comm])
      have hb2 : 2 * q ≤ 4096 := by rw [HQ2.out]; exact (shl_eq r (j + 1) h2 (by omega)).2
      go_wp2
      go_round
      case rel => exact ⟨j + 1, 2 * q, by omega, by go_num, by go_num, hb2, HQ2.out⟩
      case measure => simp [intOf]; omega
    · have hjs : j = s := by omega
      subst hjs
      by_cases hbig : 64 < q
      · go_wp2
        go_ret
        exact Or.inl ⟨by rw [← HQ.out]; exact hbig, rfl, rfl⟩
      · have db : decide (64 < (q : Int)) = false := by simp; omega
        have hq1 : 1 ≤ q := by rw [HQ.out]; exact Nat.mul_le_mul h1 Nat.one_le_two_pow
        have HS := Lib.hid (Rk.start w q (rankT r))
        clear hq
        go_wp2
        go_loopw [7, 8] (fun tv i wr => ∃ (x Bi : Nat), x ≤ q ∧ i = .int .i64 x ∧ Rk w wr q (rankT r) Bi x 0 tv (.slice none 0 0)) (fun _ i _ => q - (intOf i).toNat)
        case atStart => exact ⟨0, _, Nat.zero_le _, rfl, HS.out⟩
        case round =>
          clear HS
          obtain ⟨x, Bi, hx, rfl, hR⟩ := hrel
          have HR := Lib.hid hR; clear hR
          by_cases hxt : x < q
          · go_wp2
            go_loopw [9, 10] (fun rv i wr => ∃ y : Nat, y ≤ q ∧ i = .int .i64 y ∧ Rk w wr q (rankT r) Bi x y u7 rv) (fun _ i _ => q - (intOf i).toNat)
            case atStart => exact ⟨0, Nat.zero_le _, rfl, HR.out⟩
            case round =>
              clear HR
              obtain ⟨y, hy, rfl, hR⟩ := hrel
              have HR := Lib.hid hR; clear hR
              by_cases hyt : y < q
              · have hne : ((r : Int) == 0) = false := by simp; omega
                have hne' : ¬ r = 0 := by omega
                have hm1 : ¬ (r : Int) = -1 := by omega
                go_upto_region 18 with fail
                go_cut [11] (fun s11 wc => s11 = .bool (decide (x % r ≤ y % r)) ∧ ∃ z, wc = wr.drewN z)
                case first =>
                  by_cases hle : x % r ≤ y % r
                  · have hd : decide ((x : Int).tmod r ≤ (y : Int).tmod r) = true := by simp [Int.tmod_eq_emod_of_nonneg]; omega
                    have hd2 : decide ((x : Int) % r ≤ (y : Int) % r) = true := by simp; omega
                    have HE := Lib.hid (show decide (x % r ≤ y % r) = true by simpa using hle)
                    clear hle
                    go_quiet (fail)
                    go_wp2_with fail
                    go_meet
                    exact ⟨by rw [HE.out], _, rfl⟩
                  · have hd : decide ((x : Int).tmod r ≤ (y : Int).tmod r) = false := by simp [Int.tmod_eq_emod_of_nonneg]; omega
                    have hd2 : decide ((x : Int) % r ≤ (y : Int) % r) = false := by simp; omega
                    have HE := Lib.hid (show decide (x % r ≤ y % r) = false by simpa using hle)
                    clear hle
                    go_quiet (fail)
                    go_wp2_with fail
                    go_meet
                    exact ⟨by rw [HE.out], _, rfl⟩
                case rest =>
                  obtain ⟨rfl, z, rfl⟩ := hcut
                  have HR2 := Lib.hid (HR.out.drewN z)
                  clear HR
                  generalize wr.drewN z = wr at HR2 ⊢
                  go_upto_region 19 with fail
                  go_cut [12, 13] (fun s12 s13 wc => (∃ X : Nat, s12 = .int .i64 X ∧ X = x / r) ∧ (∃ Y : Nat, s13 = .int .i64 Y ∧ Y = y / r) ∧ ∃ z, wc = wr.drewN z)
                  case first =>
                    go_quiet (fail)
                    go_wp2_with fail
                    go_meet
                    exact ⟨⟨x / r, congrArg (Value.int .i64) (wrap64_div x r (by omega)), rfl⟩, ⟨y / r, congrArg (Value.int .i64) (wrap64_div y r (by omega)), rfl⟩, _, rfl⟩
                  case rest =>
                    obtain ⟨⟨X0, rfl, hX0⟩, ⟨Y0, rfl, hY0⟩, z', rfl⟩ := hcut
                    have HR := Lib.hid (HR2.out.drewN z')
                    clear HR2
                    generalize wr.drewN z' = wr at HR ⊢
                    have hX : X0 < 64 := by have := Nat.div_le_self x r; omega
                    have hY : Y0 < 64 := by have := Nat.div_le_self y r; omega
                    have HX0 := Lib.hid hX0
                    have HY0 := Lib.hid hY0
                    clear hX0 hY0 hne hne' hm1
                    have HRT := Lib.hid (show rankT r x y = (decide (x % r ≤ y % r) && bitsOk X0 Y0 j) from by rw [HX0.out, HY0.out]; exact rankT_bits r j x y h3 (by rw [← HQ.out]; exact hxt) (by rw [← HQ.out]; exact hyt))
                    generalize decide (x % r ≤ y % r) = D at HRT ⊢
                    go_upto_block 6 with fail
                    go_cut [11, 12, 13, 14] (fun s11 s12 s13 s14 wc => s11 = .bool (rankT r x y) ∧ wr = wc)
                    case first =>
                      go_wp2
                      go_loop [11, 12, 13, 14] (fun is xx yy i => ∃ l X Y : Nat, l ≤ j ∧ i = .int .i64 l ∧ is = .bool (D && bitsOk X0 Y0 l) ∧ xx = .int .i64 X ∧ yy = .int .i64 Y ∧ X < 64 ∧ Y < 64 ∧ X = X0 / 2 ^ l ∧ Y = Y0 / 2 ^ l) (fun _ _ _ i => j - (intOf i).toNat)
                      case atStart => exact ⟨0, X0, Y0, Nat.zero_le _, rfl, by simp [bitsOk], rfl, rfl, hX, hY, by simp, by simp⟩
                      case round =>
                        obtain ⟨l, X, Y, hl, rfl, rfl, rfl, rfl, hXb, hYb, hXe, hYe⟩ := hrel
                        have HXe := Lib.hid hXe
                        have HYe := Lib.hid hYe
                        clear hXe hYe
                        by_cases hlt : l < j
                        · have HN := Lib.hid (bitsOk_succ X0 Y0 l)
                          rw [← HXe.out, ← HYe.out] at HN
                          have HXn := Lib.hid (show X / 2 = X0 / 2 ^ (l + 1) by rw [HXe.out, Nat.div_div_eq_div_mul, Nat.pow_succ])
                          have HYn := Lib.hid (show Y / 2 = Y0 / 2 ^ (l + 1) by rw [HYe.out, Nat.div_div_eq_div_mul, Nat.pow_succ])
                          cases hb : (D && bitsOk X0 Y0 l)
                          · have HV := Lib.hid (show (D && bitsOk X0 Y0 (l + 1)) = false by rw [HN.out, ← Bool.and_assoc, hb]; rfl)
                            clear hb
                            go_wp2
                            go_round
                            case rel => exact ⟨l + 1, X / 2, Y / 2, by omega, by go_num, by rw [HV.out], by go_num, by go_num, by omega, by omega, HXn.out, HYn.out⟩
                            case measure => simp [intOf]; omega
                          · have HV := Lib.hid (show (D && bitsOk X0 Y0 (l + 1)) = (X % 2 == 0 || Y % 2 == 1) by rw [HN.out, ← Bool.and_assoc, hb]; rfl)
                            clear hb
                            by_cases hx0 : X % 2 = 0
                            · have f1 : ((X : Int) % 2 == 0) = true := by simp; omega
                              have f2 : ((X : Int).tmod 2 == 0) = true := by simp [Int.tmod_eq_emod_of_nonneg]; omega
                              have HX2 := Lib.hid (show (X % 2 == 0 || Y % 2 == 1) = true by simp [hx0])
                              clear hx0
                              go_wp2
                              go_round
                              case rel => exact ⟨l + 1, X / 2, Y / 2, by omega, by go_num, by rw [HV.out, HX2.out], by go_num, by go_num, by omega, by omega, HXn.out, HYn.out⟩
                              case measure => simp [intOf]; omega
                            · have f1 : ((X : Int) % 2 == 0) = false := by simp; omega
                              have f2 : ((X : Int).tmod 2 == 0) = false := by simp [Int.tmod_eq_emod_of_nonneg]; omega
                              by_cases hy1 : Y % 2 = 1
                              · have f3 : ((Y : Int) % 2 == 1) = true := by simp; omega
                                have f4 : ((Y : Int).tmod 2 == 1) = true := by simp [Int.tmod_eq_emod_of_nonneg]; omega
                                have HX2 := Lib.hid (show (X % 2 == 0 || Y % 2 == 1) = true by simp [hy1])
                                clear hx0 hy1
                                go_wp2
                                go_round
                                case rel => exact ⟨l + 1, X / 2, Y / 2, by omega, by go_num, by rw [HV.out, HX2.out], by go_num, by go_num, by omega, by omega, HXn.out, HYn.out⟩
                                case measure => simp [intOf]; omega
                              · have f3 : ((Y : Int) % 2 == 1) = false := by simp; omega
                                have f4 : ((Y : Int).tmod 2 == 1) = false := by simp [Int.tmod_eq_emod_of_nonneg]; omega
                                have HX2 := Lib.hid (show (X % 2 == 0 || Y % 2 == 1) = false by simp [hx0, hy1])
                                clear hx0 hy1
                                go_wp2
                                go_round
                                case rel => exact ⟨l + 1, X / 2, Y / 2, by omega, by go_num, by rw [HV.out, HX2.out], by go_num, by go_num, by omega, by omega, HXn.out, HYn.out⟩
                                case measure => simp [intOf]; omega
                        · have hln : l = j := by omega
                          subst hln
                          go_wp2
                          go_meet
                          exact ⟨by rw [HRT.out], rfl⟩
                    case rest =>
                      obtain ⟨rfl, rfl⟩ := hcut
                      clear HRT HX0 HY0
                      go_wp2_with (at_builtin; refine wpList_append_own _ rfl (.tmp 82) (.tmp 84) 26 rfl Bi 4 i0 (.bool false) 1 1 Try.underlying26 HI0.out HZ0.out HZ1.out HZ2.out rfl (by decide) _ _ _ rfl (World.ownsRow.alloc HR.out.row _) ⟨wr.heap.size, 0, none⟩ 1 1 [.bool (rankT r x y)] rfl rfl ?c1 ?c2 ?c3 ?c4 ?c5 ?_)
                      case c1 => exact one_new wr _ _
                      case c2 => intro u hu; simp at hu; subst hu; rfl
                      case c3 => unfold maxLen; omega
                      case c4 => omega
                      case c5 => have := HR.out.bi; simp; omega
                      intro v' w5 hown hg _
                      have HR3 := Lib.hid (HR.out.put hown hg)
                      clear hown hg HR
                      go_wp2
                      go_roundw
                      case rel => exact ⟨y + 1, by omega, by go_num, HR3.out⟩
                      case measure => simp [intOf]; omega
              · have hyn : y = q := by omega
                subst hyn
                obtain ⟨g, cap, hrv, hge, hBR⟩ := own_row HR.out.row (by omega)
                subst hrv
                obtain ⟨G, C, hot, hrows⟩ := HR.out.tab
                have HOT := Lib.hid hot
                have HRW := Lib.hid hrows
                have HBR := Lib.hid hBR
                clear hot hrows hBR
                go_wp2_with (at_builtin; refine wpList_append_own _ rfl (.tmp 86) (.tmp 88) 27 rfl w.heap.size 26 i1 (.slice none 0 0) 1 24 Try.underlying27 HJ0.out HY0.out HY1.out HY2.out rfl (by decide) _ _ _ rfl (World.ownsRow.alloc HOT.out _) ⟨wr.heap.size, 0, none⟩ 1 1 [.slice (some ⟨g, 0, none⟩) y cap] rfl rfl ?d1 ?d2 ?d3 ?d4 ?d5 ?_)
                case d1 => exact one_new wr _ _
                case d2 => intro u hu; simp at hu; subst hu; rfl
                case d3 => unfold maxLen; omega
                case d4 => omega
                case d5 => have := HR.out.old.size; simp; omega
                intro v' w5 hown hg _
                have HR3 := Lib.hid (HR.out.push hge HBR.out G C HRW.out hown hg)
                clear hown hg HR HOT HRW HBR
                go_wp2
                go_roundw
                case rel => exact ⟨x + 1, _, by omega, by go_num, HR3.out⟩
                case measure => simp [intOf]; omega
          · have hxn : x = q := by omega
            subst hxn
            obtain ⟨A, cap, htv, hGI⟩ := HR.out.grid (by omega)
            have HGI := Lib.hid hGI
            have HTV := Lib.hid htv
            clear hGI htv
            go_wp2
            go_ret
            exact Or.inr ⟨by rw [← HQ.out]; omega, A, cap, by rw [← HQ.out, ← HTV.out]; rfl, HR.out.old, by rw [← HQ.out]; exact HGI.out⟩
end Go.Proofs.Ytnccnaadhknfbaa
