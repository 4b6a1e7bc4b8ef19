/- Layer 1: LatticeTurned's walk. -/
import Derived.Test.YtnccnaadhknfbaaLatW
namespace Go.Proofs.Ytnccnaadhknfbaa
open Go.RowKit Lat

theorem info_bools : (Try.prog.info? 26).map (fun i => (i.zero, i.size, i.bytes)) = some (some (.slice none 0 0), 1, 24) := by kernel_rfl
theorem info_bool : (Try.prog.info? 4).map (fun i => (i.zero, i.size, i.bytes)) = some (some (.bool false), 1, 1) := by kernel_rfl

theorem ord_flip {n : Nat} {T : Nat → Nat → Bool} (h : ∀ a, a < n → OrdAt n T a) : ∀ a, a < n → OrdAt n (flipT T) a := fun a ha =>
  ⟨(h a ha).1, fun b hb => ⟨fun hne h1 => ((h b hb).2 a ha).1 (Ne.symm hne) h1 , fun c hc h1 h2 => ((h c hc).2 b hb).2 a ha h2 h1⟩⟩
theorem order_flip (n : Nat) (T : Nat → Nat → Bool) : orderT n (flipT T) = orderT n T := by
  rw [Bool.eq_iff_iff, order_iff, order_iff]
  exact ⟨ord_flip, ord_flip⟩
theorem bounded_flip (n : Nat) (T : Nat → Nat → Bool) : boundedT n (flipT T) = boundedT n T := by
  unfold boundedT
  congr 1
  funext a
  congr 1
  funext b
  unfold boundedAt
  rw [Bool.and_comm]
  rfl
theorem newErr_flip {n : Nat} {L : Nat → Nat} {T : Nat → Nat → Bool} (h : ∀ r, r < n → L r = n) : newErr n (fun _ => n) (flipT T) = newErr n L T := by
  have s1 : square n L = true := all_range_true fun r hr => by simp [h r hr]
  have s2 : square n (fun _ => n) = true := all_range_true fun r hr => by simp
  unfold newErr
  rw [s1, s2, order_flip, bounded_flip]

set_option maxRecDepth 100000 in
set_option maxHeartbeats 6400000 in
theorem turned_any (n cap : Nat) (A : Option Addr) (L : Nat → Nat) (T : Nat → Nat → Bool) (a b : Int) (w : World) (hG : Grid w w.heap.size A n L T) (hm : n ≤ 9223372036854775807) :
    Calls Try.prog 8 #[.slice A n cap, .int .i64 a, .int .i64 b] w fun e w' => e = .returned (.bool true) ∧ Below w.heap.size w w' := by
  have HG := Lib.hid hG; clear hG
  obtain ⟨i0, hi, hz0, hz1, hz2⟩ := info_parts info_bool
  have HI0 := Lib.hid hi; have HZ0 := Lib.hid hz0; have HZ1 := Lib.hid hz1; have HZ2 := Lib.hid hz2
  clear hi hz0 hz1 hz2
  go_enter Try.func8, Try.ntmps8
  go_wp2_with fail
  refine (awake_any w).mono ?_
  rintro e w1 ⟨rfl, hB⟩
  have HB1 := Lib.hid hB
  have HG1 := Lib.hid (HG.out.below hB)
  clear hB HG
  go_wp2_with fail
  refine (wide_any n cap _ A L T w1 HG1.out hm).mono ?_
  cases hw : wideB n L
  · clear hw
    rintro e w' ⟨rfl, rfl⟩
    by_cases h40 : 40 < n
    · go_wp2
      go_ret
      exact ⟨rfl, HB1.out⟩
    have d40 : decide (40 < (n : Int)) = false := by simp; omega
    have hmk := run_make_row' (P := Try.prog) 27 26 (.slice none 0 0) 24 Try.underlying27 info_bools rfl .i64 .i64 n (by omega) (by omega)
    have HT0 := Lib.hid (Turn.start w1 n T)
    go_wp2
    clear hmk
    have HGm := Lib.hid (HG1.out.keep (w' := w1.alloc (.cells (madeCells #[.slice none 0 0] n) 26)) fun p hp => World.cell?_alloc_lt w1 _ p (Nat.lt_of_lt_of_le hp HB1.out.size))
    go_loop [8] (fun i => ∃ k : Nat, k ≤ n ∧ i = .int .i64 k ∧ ∀ r, r < k → L r = n) (fun i => n - (intOf i).toNat)
    case atStart => exact ⟨0, Nat.zero_le _, rfl, fun j hj => by omega⟩
    case round =>
      obtain ⟨k, hk, rfl, hno⟩ := hrel
      have HK := Lib.hid hno; clear hno
      by_cases hlt : k < n
      · obtain ⟨ad, A', C, rfl, _, hc, hl, _⟩ := HGm.out.at_ hlt
        by_cases hL : L k = n
        · have hd : ((L k : Int) != (n : Int)) = false := by simp [hL]
          have HL := Lib.hid hL; clear hL
          go_wp2
          go_round
          case rel => exact ⟨k + 1, by omega, by go_num, fun r hr => by
            by_cases e : r = k
            · subst e; exact HL.out
            · exact HK.out r (by omega)⟩
          case measure => simp [intOf]; omega
        · have hd : ((L k : Int) != (n : Int)) = true := by simp; omega
          clear hL
          go_wp2
          go_ret
          exact ⟨rfl, HB1.out.alloc HB1.out.size _⟩
      · have hkn : k = n := by omega
        subst hkn
        go_wp2
        go_loopw [9] (fun i wr => ∃ (x : Nat) (Bi : Nat), x ≤ k ∧ i = .int .i64 x ∧ Turn w1 wr w1.heap.size Bi k T x 0 (.slice none 0 0)) (fun i _ => k - (intOf i).toNat)
        case atStart => exact ⟨0, _, Nat.zero_le _, rfl, HT0.out⟩
        case round =>
          obtain ⟨x, Bi, hx, rfl, hT⟩ := hrel
          have HT := Lib.hid hT; clear hT
          by_cases hxt : x < k
          · go_wp2
            go_loopw [10] (fun i wr => ∃ (y : Nat) (v : Value), y ≤ k ∧ i = .int .i64 y ∧ Turn w1 wr w1.heap.size Bi k T x y v) (fun i _ => k - (intOf i).toNat)
            case atStart => exact ⟨0, _, Nat.zero_le _, rfl, HT.out⟩
            case round =>
              clear HT
              obtain ⟨y, v, hy, rfl, hT⟩ := hrel
              by_cases hyt : y < k
              · have hGr := HG1.out.below (hT.old.mono HB1.out.size)
                obtain ⟨ad, A', C, rfl, hadb, hc, hl, hrow⟩ := hGr.at_ hyt
                rw [HK.out y hyt] at hc
                obtain ⟨a', rfl, hab, hc'⟩ := hrow x (by rw [HK.out y hyt]; exact hxt)
                have cu : wr.cell? ⟨w1.heap.size, x, none⟩ = some v := by
                  obtain ⟨F, G, Cc, hr, h1, _, _⟩ := hT.top
                  rw [hr.cell hxt, h1 hxt]
                have lt1 : w.heap.size ≤ wr.heap.size := Nat.le_trans HB1.out.size hT.old.size
                have lt2 : w1.heap.size < wr.heap.size := Nat.lt_of_lt_of_le hT.ui hT.bi
                have hcA : (wr.alloc (.cells #[.bool (T y x)] 4)).cell? (ad.add y) = some (.slice (some a') k C) := (World.cell?_alloc_lt wr _ _ (by rw [add_block]; omega)).trans hc
                have hcA' : (wr.alloc (.cells #[.bool (T y x)] 4)).cell? (a'.add x) = some (.bool (T y x)) := (World.cell?_alloc_lt wr _ _ (by rw [add_block]; omega)).trans hc'
                have cuA : (wr.alloc (.cells #[.bool (T y x)] 4)).cell? ⟨w1.heap.size, x, none⟩ = some v := (World.cell?_alloc_lt wr _ _ lt2).trans cu
                have HT := Lib.hid hT
                have HA := Lib.hid (show Below wr.heap.size wr (wr.alloc (.cells #[.bool (T y x)] 4)).drew from ((Below.refl _ wr).alloc (Nat.le_refl _) _).drew)
                have HN1 := Lib.hid (show ∀ j u, [Value.bool (T y x)][j]? = some u → (wr.alloc (.cells #[.bool (T y x)] 4)).drew.cell? ((⟨wr.heap.size, 0, none⟩ : Addr).add j) = some u from one_new wr _ _)
                have HN2 := Lib.hid (show ∀ u ∈ [Value.bool (T y x)], u.oneCell' = true from by intro u hu; simp at hu; subst hu; rfl)
                have HOW := Lib.hid (show (wr.alloc (.cells #[.bool (T y x)] 4)).drew.ownsRow Bi 4 1 v y ((List.range y).map fun c => Value.bool (T c x)) from World.ownsRow.alloc hT.row _)
                have HCU := Lib.hid (show ∀ w5, (wr.alloc (.cells #[.bool (T y x)] 4)).drew.grownBy w5 v.ownBlock → w5.cell? ⟨w1.heap.size, x, none⟩ = some v ∧ w5.frozen? ⟨w1.heap.size, x, none⟩ = false from fun w5 hg => by
                  have hb : w5.heap[w1.heap.size]? = wr.heap[w1.heap.size]? := (hg.block w1.heap.size (by simp; omega) (fun e => by have := own_ge' hT.row _ e.symm; have := hT.ui; omega)).trans (HA.out.block w1.heap.size lt2)
                  refine ⟨(World.cell?_of_block (w := wr) (a := ⟨w1.heap.size, x, none⟩) hb).trans cu, (World.frozen?_of_block (w := wr) (a := ⟨w1.heap.size, x, none⟩) hb).trans ?_⟩
                  obtain ⟨F, G, Cc, hr, _⟩ := hT.top
                  exact hr.frozen x)
                have HBI := Lib.hid (show Bi ≤ (wr.alloc (.cells #[.bool (T y x)] 4)).drew.heap.size from by have := hT.bi; simp; omega)
                clear hT hrow hGr
                go_upto_block 5 with fail
                go_cut [] (fun wc => ∃ v', Turn w1 wc w1.heap.size Bi k T x (y + 1) v')
                case first =>
                  go_wp2_with fail
                  go_region_law (refine step_append_lies _ rfl (.tmp 58) (.tmp 66) 26 rfl Bi 4 i0 (.bool false) 1 1 Try.underlying26 HI0.out HZ0.out HZ1.out HZ2.out rfl (by decide) v y _ (by simp [Act.eval]) HOW.out ⟨wr.heap.size, 0, none⟩ 1 1 [.bool (T y x)] (by simp [Act.eval]) rfl HN1.out HN2.out (by omega) (by unfold maxLen; omega) (by omega) HBI.out _ rfl ?_; intro g cap' w5 hown hgrow hat hlt5; have cu5 := (HCU.out w5 hgrow).1; have fu5 := (HCU.out w5 hgrow).2; have HOW5 := Lib.hid hown; have HGR := Lib.hid hgrow; clear hown hgrow hat hlt5)
                  all_goals (go_wp2_with fail; go_meet; exact ⟨_, HT.out.put HA.out HOW5.out HGR.out⟩)
                case rest =>
                  clear HT HA HN1 HN2 HOW HBI HCU hc hc' cu hcA hcA' cuA lt1 lt2
                  obtain ⟨v', hT⟩ := hcut
                  have HT := Lib.hid hT
                  clear hT
                  go_wp2
                  go_roundw
                  case rel => exact ⟨y + 1, v', by omega, by go_num, HT.out⟩
                  case measure => simp [intOf]; omega
              · have hyn : y = k := by omega
                subst hyn
                have HT := Lib.hid (hT.next hxt)
                clear hT
                go_wp2
                go_roundw
                case rel => exact ⟨x + 1, _, by omega, by go_num, HT.out⟩
                case measure => simp [intOf]; omega
          · have hxn : x = k := by omega
            subst hxn
            have HG2 := Lib.hid (HT.out.grid (by omega))
            have HO2 := Lib.hid HT.out.old
            clear HT
            have HL0 := Lib.hid (Nat.le_trans HB1.out.size HO2.out.size)
            have HBr := Lib.hid (HB1.out.trans (HO2.out.mono HB1.out.size))
            have HGr := Lib.hid ((HG1.out.below (HO2.out.mono HB1.out.size)).more HL0.out)
            have HEQ := Lib.hid (newErr_flip (T := T) HK.out)
            clear HT0 HGm HG1 HK HO2
            go_wp2_with fail
            refine (new_any x cap A L T _ HGr.out hm).mono ?_
            rintro e w3 ⟨hB3, h3⟩
            have HG3 := Lib.hid ((HG2.out.below hB3).more hB3.size)
            have HB3 := Lib.hid (HBr.out.trans (hB3.mono HBr.out.size))
            rcases h3 with ⟨hne, rfl⟩ | ⟨h0, lb1, rfl, hlb1, hI1⟩
            · have d1 : (newErr x L T != 0) = true := by simpa using hne
              have HNE := Lib.hid hne
              clear hB3 hne
              go_wp2_with fail
              refine (new_any x x _ (fun _ => x) (flipT T) _ HG3.out hm).mono ?_
              rintro e w4 ⟨hB4, ⟨_, rfl⟩ | ⟨h0, _⟩⟩
              · rw [HEQ.out]
                have HB4 := Lib.hid (HB3.out.trans (hB4.mono HB3.out.size))
                clear hB4
                go_wp2
                go_ret
                exact ⟨rfl, HB4.out⟩
              · exact absurd (HEQ.out.symm.trans h0) HNE.out
            · have HI3 := Lib.hid hI1
              have HL1 := Lib.hid (Nat.le_trans HL0.out hlb1)
              have H0 := Lib.hid h0
              clear hB3 h0 hI1 hlb1
              go_wp2_with fail
              refine (new_any x x _ (fun _ => x) (flipT T) _ HG3.out hm).mono ?_
              rintro e w4 ⟨hB4, ⟨hne, _⟩ | ⟨_, lb2, rfl, hlb2, hI2⟩⟩
              · exact absurd (HEQ.out.trans H0.out) hne
              · have HB4 := Lib.hid (HB3.out.trans (hB4.mono HB3.out.size))
                have HLT := Lib.hid (show lb1 < lb2 from Nat.lt_of_lt_of_le HI3.out.lt hlb2)
                have HA1 := Lib.hid (HI3.out.below hB4 (Nat.le_refl _))
                have HA2 := Lib.hid hI2
                have HL2 := Lib.hid (Nat.le_trans HL1.out (Nat.le_of_lt HLT.out))
                clear hB4 hI2 hlb2 HI3 HG3 HB3
                go_wp2_with fail
                refine (below_any lb1 x T a b _ HA1.out).mono ?_
                rintro e w' ⟨rfl, rfl⟩
                go_wp2_with fail
                refine (below_any lb2 x (flipT T) b a _ HA2.out).mono ?_
                rw [belowV_flip]
                rintro e w' ⟨rfl, rfl⟩
                go_wp2_with fail
                refine (join_any lb1 x T a b _ HA1.out).mono ?_
                rintro e w' ⟨rfl, hI, hK⟩
                replace HA2 := Lib.hid (HA2.out.other HA1.out hK (Nat.ne_of_gt HLT.out))
                replace HB4 := Lib.hid (HB4.out.trans (hK.below HL1.out HB4.out.size))
                replace HA1 := Lib.hid hI
                clear hI hK
                go_wp2_with fail
                refine (meet_any lb2 x (flipT T) a b _ HA2.out).mono ?_
                rintro e w' ⟨rfl, hI, hK⟩
                replace HA1 := Lib.hid (HA1.out.other HA2.out hK (Nat.ne_of_lt HLT.out))
                replace HB4 := Lib.hid (HB4.out.trans (hK.below HL2.out HB4.out.size))
                replace HA2 := Lib.hid hI
                clear hI hK
                go_wp2_with fail
                refine (meet_any lb1 x T a b _ HA1.out).mono ?_
                rintro e w' ⟨rfl, hI, hK⟩
                replace HA2 := Lib.hid (HA2.out.other HA1.out hK (Nat.ne_of_gt HLT.out))
                replace HB4 := Lib.hid (HB4.out.trans (hK.below HL1.out HB4.out.size))
                replace HA1 := Lib.hid hI
                clear hI hK
                go_wp2_with fail
                refine (join_any lb2 x (flipT T) a b _ HA2.out).mono ?_
                rintro e w' ⟨rfl, hI, hK⟩
                replace HA1 := Lib.hid (HA1.out.other HA2.out hK (Nat.ne_of_lt HLT.out))
                replace HB4 := Lib.hid (HB4.out.trans (hK.below HL2.out HB4.out.size))
                replace HA2 := Lib.hid hI
                clear hI hK
                go_wp2_with fail
                refine (top_any lb1 x T _ HA1.out).mono ?_
                rintro e w' ⟨rfl, q1, rfl⟩
                go_wp2_with fail
                refine (bottom_any lb2 x (flipT T) _ (HA2.out.drewN q1)).mono ?_
                rintro e w' ⟨rfl, q2, rfl⟩
                go_wp2_with fail
                refine (bottom_any lb1 x T _ (HA1.out.drewN _)).mono ?_
                rintro e w' ⟨rfl, q3, rfl⟩
                go_wp2_with fail
                refine (top_any lb2 x (flipT T) _ (HA2.out.drewN _)).mono ?_
                rw [show endT x (flipT (flipT T)) = endT x T from rfl]
                rintro e w' ⟨rfl, q4, rfl⟩
                go_wp2
                go_ret
                exact ⟨rfl, below_drew HB4.out _⟩
  · rintro e w' ⟨rfl, rfl⟩
    go_wp2
    go_ret
    exact ⟨rfl, HB1.out⟩
end Go.Proofs.Ytnccnaadhknfbaa
