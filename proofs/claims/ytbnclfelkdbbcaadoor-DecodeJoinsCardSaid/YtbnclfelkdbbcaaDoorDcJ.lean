/- Layer 5: DecodeJoins's walk. -/
import Derived.Test.YtbnclfelkdbbcaaDoorDcE
namespace Go.Proofs.YtbnclfelkdbbcaaDoor
open Go.RowKit Go.Lib Dec

theorem kept_whole (l : List UInt8) : keptK l l.length = (runsD [] l).2 := by
  unfold keptK
  rw [List.take_length]

theorem joins_big (s t : ByteArray) (w : World) (hs : s.size ≤ maxLen) (ht : t.size ≤ maxLen) (hT : Tabs w) (h : 3000 < s.size ∨ 3000 < t.size) :
    Calls Tryd.prog 8 #[.string s, .string t] w fun e w' => e = .returned (.bool true) ∧ Below w.heap.size w w' := by
  have HA := Lib.hid (awake_any w hT)
  clear hT
  unfold maxLen at hs ht
  by_cases h1 : 3000 < s.size
  · have g1 : decide ((3000 : Int) < s.size) = true := by simp; omega
    clear h
    go_enter Tryd.func8, Tryd.ntmps8
    go_wp2_with fail
    refine HA.out.mono ?_
    rintro e w1 ⟨rfl, hb⟩
    have B1 := Lib.hid hb
    clear hb HA
    go_wp2
    go_ret
    exact ⟨rfl, B1.out⟩
  · have g1 : decide ((3000 : Int) < s.size) = false := by simp; omega
    have g2 : decide ((3000 : Int) < t.size) = true := by simp; omega
    have h2 : 3000 < t.size := by omega
    clear h
    go_enter Tryd.func8, Tryd.ntmps8
    go_wp2_with fail
    refine HA.out.mono ?_
    rintro e w1 ⟨rfl, hb⟩
    have B1 := Lib.hid hb
    clear hb HA
    go_wp2
    go_ret
    exact ⟨rfl, B1.out⟩

/-- An empty slice of the call's own. -/
theorem own_empty (w : World) : OwnRunes (w.alloc (.cells #[] 21)) w.heap.size (.slice (some ⟨w.heap.size, 0, none⟩) 0 0) [] :=
  ⟨rfl, Or.inr ⟨w.heap.size, 0, #[], rfl, Nat.le_refl _, Deep.blk_alloc_new _ _, Nat.le_refl _, by unfold maxLen; omega, rfl, rfl⟩⟩

set_option maxRecDepth 100000 in
set_option maxHeartbeats 3200000 in
theorem joins_small (s t : ByteArray) (w : World) (hs : s.size ≤ 3000) (ht : t.size ≤ 3000) (hT : Tabs w) :
    Calls Tryd.prog 8 #[.string s, .string t] w fun e w' => e = .returned (.bool true) ∧ Below w.heap.size w w' := by
  have HA := Lib.hid (awake_any w hT)
  have HT := Lib.hid hT
  have g1 : decide ((3000 : Int) < s.size) = false := by simp; omega
  have g2 : decide ((3000 : Int) < t.size) = false := by simp; omega
  have n1 : ¬ 9223372036854775807 < s.size + t.size := by omega
  obtain ⟨l, hl⟩ : ∃ l, l = s.data.toList := ⟨_, rfl⟩
  obtain ⟨m, hm⟩ : ∃ m, m = t.data.toList := ⟨_, rfl⟩
  have hlen : l.length = s.size := by rw [hl]; rfl
  have hst : Hid ((s ++ t).data.toList = l ++ m) := Lib.hid (by rw [hl, hm]; simp [ByteArray.data_append])
  have hsz : Hid ((s ++ t).size ≤ 1000000) := Lib.hid (by rw [ByteArray.size_append]; omega)
  have HL := Lib.hid hl
  have HM := Lib.hid hm
  have HLen := Lib.hid hlen
  have kb := build_dec
  clear hT hl hm hlen
  go_enter Tryd.func8, Tryd.ntmps8
  go_wp2_with fail
  refine HA.out.mono ?_
  rintro e w1 ⟨rfl, hb⟩
  have B1 := Lib.hid hb
  clear hb HA
  go_wp2_with fail
  refine (all_post s (allD l) (by rw [HL.out]) (by omega) _ (HT.out.below B1.out (Nat.le_refl _))).mono ?_
  rintro e w2 ⟨A, c, n, rfl, ho, hb, hn⟩
  have B2 := Lib.hid (B1.out.trans (hb.mono B1.out.size))
  have hc := all_count l
  have k1 : n ≤ s.size := by rw [hn, ← HLen.out]; exact hc.1
  have k2 : s.size ≤ 4 * n := by rw [hn, ← HLen.out]; exact hc.2
  have OA := Lib.hid ho
  have HN := Lib.hid hn
  clear ho hb hn B1 hc
  go_wp2_with fail
  refine (all_post t (allD m) (by rw [HM.out]) (by omega) _ (HT.out.below B2.out (Nat.le_refl _))).mono ?_
  rintro e w3 ⟨A', c', n', rfl, ho, hb, hn⟩
  have B3 := Lib.hid (B2.out.trans (hb.mono B2.out.size))
  have OB := Lib.hid ho
  have OA3 := Lib.hid (own_below OA.out hb (Nat.le_refl _))
  have HN' := Lib.hid hn
  clear ho hb hn B2 OA
  go_wp2_with fail
  refine (all_post (s ++ t) (allD (l ++ m)) (by rw [hst.out]) hsz.out _ (HT.out.below B3.out (Nat.le_refl _))).mono ?_
  rintro e w4 ⟨A2, c2, n2, rfl, ho, hb, hn⟩
  have B4 := Lib.hid (B3.out.trans (hb.mono B3.out.size))
  have OC := Lib.hid ho
  have OA4 := Lib.hid (own_below OA3.out hb (Nat.le_refl _))
  have OB4 := Lib.hid (own_below OB.out hb (Nat.le_refl _))
  have HN2 := Lib.hid hn
  have M4 := Lib.hid (mine_new B4.out B4.out.size (HT.out.below B4.out (Nat.le_refl _)))
  have g3 : decide (s.size < n) = false := by simp; omega
  have g4 : decide (4 * (n : Int) < s.size) = false := by simp; omega
  clear ho hb hn B3 OA3 OB n1
  go_wp2
  go_loopw [9] (fun i wr => ∃ k : Nat, k ≤ s.size ∧ i = .int .i64 k ∧ MineD w wr w.heap.size w4.heap.size (keptK l k) ∧ Stirs w4.heap.size (w4.alloc (.cells (cellsK []) 29)) wr) (fun i _ => s.size - (RowKit.intOf i).toNat)
  case atStart => exact ⟨0, Nat.zero_le _, rfl, M4.out, Stirs.refl _ _⟩
  case round =>
    obtain ⟨k, hk, rfl, hmd, hst1⟩ := hrel
    by_cases hlt : k < s.size
    · have hlt' : k < l.length := by rw [HLen.out]; exact hlt
      have KS := (told_succ l k hlt').2
      have hb : l[k] = s[k] := by have := HL.out; subst this; rfl
      rw [hb] at KS
      have C := Lib.hid (mine_byte hmd (b := s[k]) (t := (comes (keptK l k) s[k]).1) (o := (comes (keptK l k) s[k]).2) rfl rfl rfl rfl rfl)
      have HKS := Lib.hid KS
      have HS := Lib.hid hst1
      clear KS hb hmd hst1
      go_wp2_with fail
      refine (show Calls _ _ _ _ _ from C.out).mono ?_
      rintro e w5 ⟨rfl, hm5, hs5⟩
      have HM5 := Lib.hid hm5
      have HS5 := Lib.hid (HS.out.trans hs5)
      clear hm5 hs5 C HS
      go_wp2
      go_roundw
      case rel => exact ⟨k + 1, by omega, by go_num, by rw [HKS.out]; exact HM5.out, HS5.out⟩
      case measure => simp [RowKit.intOf]; omega
    · have hkn : k = s.size := by omega
      subst hkn
      obtain ⟨kk, hkk⟩ : ∃ kk, kk = keptK l s.size := ⟨_, rfl⟩
      rw [← hkk] at hmd
      have E : Hid (kk = (runsD [] l).2) := Lib.hid (by rw [hkk, ← HLen.out, kept_whole])
      clear hkk
      have k3 : kk.length ≤ 3 := full_length hmd.dec.ok
      have HM5 := Lib.hid hmd
      have HS5 := Lib.hid hst1
      clear hmd hst1
      go_wp2_with fail
      refine (mine_waits HM5.out rfl).mono ?_
      rintro e w5 ⟨rfl, rfl⟩
      by_cases hq : kk = []
      · subst hq
        go_wp2_with fail
        refine (mine_waits HM5.out (m := 0) rfl).mono ?_
        rintro e w5 ⟨rfl, rfl⟩
        have EJ : Hid (allD (l ++ m) = allD l ++ allD m) := Lib.hid (all_join l m E.out.symm)
        have DB := Lib.hid (Deep.blk_alloc_new w4 (.cells (cellsK []) 29))
        have al4 : Below w4.heap.size w4 (w4.alloc (.cells (cellsK []) 29)) := (Below.refl _ _).alloc (Nat.le_refl _) _
        have RA := Lib.hid ((own_runes (own_stirs (own_below OA4.out al4 (Nat.le_refl _)) DB.out (by decide) HS5.out)).below ((Below.refl wr.heap.size wr).alloc (Nat.le_refl _) (.cells #[] 21)) (Nat.le_refl _))
        have RB := Lib.hid (own_runes (own_stirs (own_below OB4.out al4 (Nat.le_refl _)) DB.out (by decide) HS5.out))
        have RC := Lib.hid (own_runes (own_stirs (own_below OC.out al4 (Nat.le_refl _)) DB.out (by decide) HS5.out))
        have O0 := Lib.hid (own_empty wr)
        have l1 : (allD l).length ≤ 3000 := by have := (all_count l).1; have := HLen.out; omega
        have l2 : (allD m).length ≤ 3000 := by
          have := (all_count m).1
          have h2 : m.length = t.size := by have := HM.out; subst this; rfl
          omega
        clear al4
        go_wp2_with (at_builtin; refine append_runes _ (by rfl) (.tmp 62) (.tmp 63) rfl wr.heap.size _ _ _ _ rfl O0.out rfl RA.out (by simp; omega) (by simp) ?_)
        intro v1 wA o1 gr
        have GA : Hid (Below wr.heap.size wr wA) := Lib.hid (((Below.refl wr.heap.size wr).alloc (Nat.le_refl _) _).grown gr (by simp) (fun g hg => by cases hg; exact Nat.le_refl _))
        have O1 := Lib.hid o1
        have RB1 := Lib.hid (RB.out.below GA.out (Nat.le_refl _))
        clear o1 gr RA O0 RB
        go_wp2_with (at_builtin; refine append_runes _ (by rfl) (.tmp 64) (.tmp 65) rfl wr.heap.size _ _ _ _ rfl O1.out rfl RB1.out (by omega) GA.out.size ?_)
        intro v2 wB o2 gr
        have GB : Hid (Below wr.heap.size wr wB) := Lib.hid (GA.out.grown gr GA.out.size (own_ge O1.out))
        have R2 : Hid (Runes wB v2 (allD (l ++ m))) := Lib.hid (by
          have := own_runes o2
          rw [← EJ.out] at this
          exact this)
        have RC2 := Lib.hid (RC.out.below GB.out (Nat.le_refl _))
        have l3 : (allD (l ++ m)).length ≤ 1000000 := by rw [EJ.out]; simp; omega
        clear o2 gr O1 RB1 RC
        go_wp2_with fail
        refine (same_yes _ _ _ _ l3 RC2.out R2.out).mono ?_
        rintro e w9 ⟨rfl, j, rfl⟩
        go_wp2
        go_ret
        exact ⟨rfl, below_drew (HM5.out.old.trans (GB.out.mono HM5.out.sz)) _⟩
      · have h0 : 0 < kk.length := List.length_pos_iff.2 hq
        clear hq
        go_wp2_with fail
        refine (mine_waits HM5.out rfl).mono ?_
        rintro e w5 ⟨rfl, rfl⟩
        go_wp2
        go_ret
        exact ⟨rfl, HM5.out.old⟩

theorem joins_walk (s t : ByteArray) (w : World) (hs : s.size ≤ maxLen) (ht : t.size ≤ maxLen) (hT : Tabs w) :
    Calls Tryd.prog 8 #[.string s, .string t] w fun e w' => e = .returned (.bool true) ∧ Below w.heap.size w w' := by
  by_cases h : 3000 < s.size ∨ 3000 < t.size
  · exact joins_big s t w hs ht hT h
  · exact joins_small s t w (by omega) (by omega) hT

end Go.Proofs.YtbnclfelkdbbcaaDoor
