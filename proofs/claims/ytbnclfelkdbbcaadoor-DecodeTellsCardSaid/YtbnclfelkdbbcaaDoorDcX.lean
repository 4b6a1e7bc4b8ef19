/- Layer 5: DecodeTells's walk. -/
import Derived.Test.YtbnclfelkdbbcaaDoorDcW
namespace Go.Proofs.YtbnclfelkdbbcaaDoor
open Go.RowKit Go.Lib Dec

theorem IsRef.lt {w : World} {b : Nat} {k : List UInt8} (h : IsRef w b k) : b < w.heap.size := (Array.getElem?_eq_some_iff.1 h.blk).1
theorem IsRef.below {w w' : World} {b B : Nat} {k : List UInt8} (h : IsRef w b k) (hb : Below B w w') (hB : w.heap.size ≤ B) : IsRef w' b k := ⟨(hb.block b (Nat.lt_of_lt_of_le h.lt hB)).trans h.blk, h.ok⟩
theorem IsRef.stirs {w w' : World} {a b : Nat} {k : List UInt8} (h : IsRef w b k) (hs : Stirs a w w') (hn : b ≠ a) : IsRef w' b k := ⟨(hs.block b h.lt hn).trans h.blk, h.ok⟩
theorem IsDec.drewN {w : World} {a : Nat} {k : List UInt8} (h : IsDec w a k) (n : Nat) : IsDec (w.drewN n) a k := ⟨h.blk, h.ok⟩
/-- The document's decoder is no table. -/
theorem Tabs.apart {w : World} (h : Tabs w) {b : Nat} {k : List UInt8} (hb : IsRef w b k) : b ≠ 0 ∧ b ≠ 1 := by
  constructor
  · rintro rfl
    have := (cell_of hb.blk 5).symm.trans (h.1 5 (by omega))
    simp at this
  · rintro rfl
    have := (cell_of hb.blk 6).symm.trans (h.2 3 (by omega)).1
    simp at this
/-- What the document's decoder does leaves the other one. -/
theorem MineD.aside {w0 w w' : World} {B a b : Nat} {k o : List UInt8} (h : MineD w0 w B a k) (hr : IsRef w b o) (hs : Stirs b w w') (hn : a ≠ b) (hb : B ≤ b) : MineD w0 w' B a k :=
  ⟨⟨(hs.block a h.lt hn).trans h.dec.blk, h.dec.ok⟩, h.ge, hs.below hb h.old h.sz, Nat.le_trans h.sz hs.size, h.tabs.stirs hs (h.tabs.apart hr)⟩

theorem tells_big (s : ByteArray) (w : World) (hs : s.size ≤ maxLen) (hT : Tabs w) (h : 5000 < s.size) :
    Calls Tryd.prog 4 #[.string s] w fun e w' => e = .returned (.bool true) ∧ Below w.heap.size w w' := by
  have HA := Lib.hid (awake_any w hT)
  unfold maxLen at hs
  have g1 : decide ((5000 : Int) < s.size) = true := by simp; omega
  clear hT
  go_enter Tryd.func4, Tryd.ntmps4
  go_wp2_with fail
  refine HA.out.mono ?_
  rintro e w1 ⟨rfl, hb⟩
  have B1 := Lib.hid hb
  clear hb HA
  go_wp2
  go_ret
  exact ⟨rfl, B1.out⟩

theorem getD_none {t : List Nat} {m : Nat} (h : t.length ≤ m) : t.getD m 0 = 0 := by simp [List.getD, h]

set_option maxRecDepth 100000 in
set_option maxHeartbeats 3200000 in
theorem tells_small (s : ByteArray) (w : World) (hs : s.size ≤ 5000) (hT : Tabs w) :
    Calls Tryd.prog 4 #[.string s] w fun e w' => e = .returned (.bool true) ∧ Below w.heap.size w w' := by
  have HA := Lib.hid (awake_any w hT)
  have HT := Lib.hid hT
  have g1 : decide ((5000 : Int) < s.size) = false := by simp; omega
  obtain ⟨l, hl⟩ : ∃ l, l = s.data.toList := ⟨_, rfl⟩
  have hlen : l.length = s.size := by rw [hl]; rfl
  have HL := Lib.hid hl
  have HLen := Lib.hid hlen
  have kb := build_dec
  have kr := build_ref
  clear hT hl hlen
  go_enter Tryd.func4, Tryd.ntmps4
  go_wp2_with fail
  refine HA.out.mono ?_
  rintro e w1 ⟨rfl, hb⟩
  have B1 := Lib.hid hb
  have M1 := Lib.hid ((mine_new hb hb.size (HT.out.below hb (Nat.le_refl _))).alloc (.cells #[.string ⟨#[]⟩] 32))
  have R1 : Hid (IsRef ((w1.alloc (.cells (cellsK []) 29)).alloc (.cells #[.string ⟨#[]⟩] 32)) (w1.heap.size + 1) []) := Lib.hid (by
    have := ref_new (w1.alloc (.cells (cellsK []) 29))
    simpa using this)
  clear hb HA
  go_wp2
  go_loopw [5] (fun i wr => ∃ k : Nat, k ≤ s.size ∧ i = .int .i64 k ∧ MineD w wr w.heap.size w1.heap.size (keptK l k) ∧ IsRef wr (w1.heap.size + 1) (keptK l k)) (fun i _ => s.size - (RowKit.intOf i).toNat)
  case atStart => exact ⟨0, Nat.zero_le _, rfl, M1.out, R1.out⟩
  case round =>
    obtain ⟨k, hk, rfl, hmd, href⟩ := hrel
    rename_i wr
    obtain ⟨a, ha⟩ : ∃ a, a = w1.heap.size := ⟨_, rfl⟩
    by_cases hlt : k < s.size
    · have hlt' : k < l.length := by rw [HLen.out]; exact hlt
      have KS := (told_succ l k hlt').2
      have hb : l[k] = s[k] := by have := HL.out; subst this; rfl
      rw [hb] at KS
      have hc := comes_count (keptK l k) s[k] href.ok
      obtain ⟨t, ht⟩ : ∃ t, t = (comes (keptK l k) s[k]).1 := ⟨_, rfl⟩
      obtain ⟨o, ho⟩ : ∃ o, o = (comes (keptK l k) s[k]).2 := ⟨_, rfl⟩
      have hcm : comes (keptK l k) s[k] = (t, o) := by rw [ht, ho]
      obtain ⟨x, hx⟩ : ∃ x, x = t.getD 0 0 := ⟨_, rfl⟩
      obtain ⟨y, hy⟩ : ∃ y, y = t.getD 1 0 := ⟨_, rfl⟩
      obtain ⟨p, hp⟩ : ∃ p, p = t.length := ⟨_, rfl⟩
      obtain ⟨q, hq⟩ : ∃ q, q = o.length := ⟨_, rfl⟩
      have hp2 : p ≤ 2 := by rw [hp, ht]; exact hc.2.2
      have C := Lib.hid (mine_byte hmd hcm (c := (s[k]).toNat) rfl (x := x) (by rw [hx]) (y := y) (by rw [hy]) (m := p) (by rw [hp]))
      have C2 : ∀ W : World, IsRef W (w1.heap.size + 1) (keptK l k) → Calls Tryd.prog 13 #[.pointer (some ⟨w1.heap.size + 1, 0, none⟩), .int .u8 (s[k]).toNat] W (RefPost W (w1.heap.size + 1) (t, o)) := fun W h => hcm ▸ ref_byte _ _ _ W h
      have HC2 := Lib.hid C2
      have HKS : Hid (keptK l (k + 1) = o) := Lib.hid (by rw [KS, ho])
      have HZ : Hid (∀ m, m < 2 → (if m = 0 then x else y) = t.getD m 0) := Lib.hid (fun m hm => by
        obtain rfl | rfl : m = 0 ∨ m = 1 := by omega
        · rw [hx]; rfl
        · rw [hy]; rfl)
      have HP := Lib.hid hp
      have HQ := Lib.hid hq
      have HR := Lib.hid href
      clear hmd href KS hb hc ht ho hcm hx hy hp hq C2
      go_wp2_with fail
      refine (show Calls _ _ _ _ _ from C.out).mono ?_
      rintro e w2 ⟨rfl, hm2, hs2⟩
      have R2 := Lib.hid ((HR.out.stirs hs2 (by omega)).below ((Below.refl w2.heap.size w2).alloc (Nat.le_refl _) (.cells #[.int .i32 x, .int .i32 y] 33)) (Nat.le_refl _))
      have M2 := Lib.hid (hm2.alloc (.cells #[.int .i32 x, .int .i32 y] 33))
      have L2 := Lib.hid (Deep.blk_alloc_new w2 (.cells #[.int .i32 x, .int .i32 y] 33))
      have hne2 : Hid (w2.heap.size ≠ w1.heap.size + 1) := Lib.hid (by have := HR.out.lt; have := hs2.size; omega)
      clear hm2 hs2 C HR
      go_wp2_with fail
      refine (show Calls _ _ _ _ _ from HC2.out _ R2.out).mono ?_
      rintro e w3 ⟨u, rfl, hu, hr3, hs3⟩
      obtain ⟨A, c, rfl, _⟩ := own_shape hu
      have RU := Lib.hid (own_runes hu)
      have M3 := Lib.hid (M2.out.aside R2.out hs3 (by omega) (by have := M2.out.ge; omega))
      have R3 := Lib.hid hr3
      have L3 := Lib.hid ((hs3.block _ (by simp) hne2.out).trans L2.out)
      rw [← HP.out]
      have HW : Hid (∀ j, Calls Tryd.prog 14 #[.pointer (some ⟨w1.heap.size, 0, none⟩)] (w3.drewN j) fun e w' => e = .returned (.int .i64 q) ∧ w3.drewN j = w') := Lib.hid (fun j => by
        rw [HQ.out]
        exact waits_any _ o _ (M3.out.dec.drewN j))
      obtain ⟨T, hT⟩ : ∃ T, T = strK o := ⟨_, rfl⟩
      have hTs : T.size = q := by rw [hT, str_size, HQ.out]
      have kc : ∀ j : Nat, (w3.drewN j).cell? ⟨w1.heap.size + 1, 0, none⟩ = some (.string T) := fun j => by rw [hT]; exact (cell_of R3.out.blk 0).trans rfl
      have d1 : decide ((2 : Int) < p) = false := by simp; omega
      have d2 : ((p : Int) != (p : Int)) = false := by simp
      have d3 : decide (2 < p) = false := by simp; omega
      clear hu hr3 hs3 M2 R2 L2 HC2 hT
      go_upto_region 12 with (fail)
      go_quiet ((go_at_call 14; exact still_left (HW.out _)))
      clear kc hTs
      go_wp2
      go_loopw [9] (fun j wr2 => ∃ m n2 : Nat, m ≤ 2 ∧ j = .int .i64 m ∧ wr2 = w3.drewN n2) (fun j _ => 2 - (RowKit.intOf j).toNat)
      case atStart => exact ⟨0, _, by omega, rfl, rfl⟩
      case round =>
        obtain ⟨m, n2, hm, rfl, rfl⟩ := hrel
        by_cases hlm : m < 2
        · obtain ⟨z, hz⟩ : ∃ z, z = t.getD m 0 := ⟨_, rfl⟩
          have kl : ∀ j : Nat, (w3.drewN j).cell? ⟨w2.heap.size, m, none⟩ = some (.int .i32 z) := fun j => by
            have h0 : (w3.drewN j).cell? ⟨w2.heap.size, m, none⟩ = #[Value.int .i32 x, Value.int .i32 y][m]? := cell_of L3.out m
            rw [h0, hz, ← HZ.out m hlm]
            obtain rfl | rfl : m = 0 ∨ m = 1 := by omega
            · rfl
            · rfl
          by_cases hmp : m < p
          · obtain ⟨A1, c1, e1, _, hcell⟩ := RU.out
            obtain ⟨g, hg, _, hgc⟩ := hcell m (by rw [← HP.out]; exact hmp)
            have e2 : A = A1 := by cases e1; rfl
            rw [← e2] at hg
            subst hg
            have kw : ∀ j : Nat, (w3.drewN j).cell? ⟨g, m, none⟩ = some (.int .i32 z) := fun j => by rw [hz]; exact hgc
            have q1 : decide (m < p) = true := by simpa using hmp
            have q2 : decide (p ≤ m) = false := by simp; omega
            clear hz e1 hcell hgc e2
            go_wp2
            go_quiet (fail)
            go_wp2
            go_roundw
            case rel => exact ⟨m + 1, _, by omega, by go_num, rfl⟩
            case measure => simp [RowKit.intOf]; omega
          · have hz0 : z = 0 := by rw [hz]; exact getD_none (by rw [← HP.out]; omega)
            subst hz0
            have q1 : decide (m < p) = false := by simpa using hmp
            have q2 : decide (p ≤ m) = true := by simp; omega
            clear hz
            go_wp2
            go_quiet (fail)
            go_wp2
            go_roundw
            case rel => exact ⟨m + 1, _, by omega, by go_num, rfl⟩
            case measure => simp [RowKit.intOf]; omega
        · have HM3 : Hid (MineD w (w3.drewN n2) w.heap.size w1.heap.size (keptK l (k + 1))) := Lib.hid (by rw [HKS.out]; exact M3.out.drewN n2)
          have HR3 : Hid (IsRef (w3.drewN n2) (w1.heap.size + 1) (keptK l (k + 1))) := Lib.hid (by rw [HKS.out]; exact ⟨R3.out.blk, R3.out.ok⟩)
          go_wp2
          go_roundw
          case rel => exact ⟨k + 1, by omega, by go_num, HM3.out, HR3.out⟩
          case measure => simp [RowKit.intOf]; omega
    · have hkn : k = s.size := by omega
      subst hkn
      obtain ⟨kk, hkk⟩ : ∃ kk, kk = keptK l s.size := ⟨_, rfl⟩
      rw [← hkk] at hmd href
      clear hkk
      by_cases hq : kk = []
      · subst hq
        have c0 : wr.cell? ⟨w1.heap.size + 1, 0, none⟩ = some (.string (strK [])) := by rw [cell_of href.blk]; rfl
        have e0 := str_none
        have M3 := Lib.hid hmd
        clear hmd href
        go_wp2_with fail
        refine (end_none _ _ M3.out.dec).mono ?_
        rintro e w4 ⟨rfl, rfl⟩
        go_wp2_with fail
        refine (mine_waits M3.out (m := 0) rfl).mono ?_
        rintro e w5 ⟨rfl, rfl⟩
        clear c0
        go_wp2_with fail
        refine (all_post s (allD l) (by rw [HL.out]) (by omega) _ M3.out.tabs).mono ?_
        rintro e w5 ⟨A, c, n, rfl, ho, hb, hn⟩
        have B5 := Lib.hid (M3.out.old.trans (hb.mono M3.out.sz))
        have R5 := Lib.hid (own_runes ho)
        clear ho hb hn
        go_wp2_with fail
        refine (all_ref s l HL.out (by omega) _).mono ?_
        rintro e w6 ⟨A2, c2, n2, rfl, ho, hb, hn⟩
        have B6 := Lib.hid (B5.out.trans (hb.mono B5.out.size))
        have R6 := Lib.hid (own_runes ho)
        have R5' := Lib.hid (R5.out.below hb (Nat.le_refl _))
        have hac := (all_count l).1
        have hlen := HLen.out
        have hle : (allD l).length ≤ 1000000 := by omega
        clear ho hb hn B5 R5 hac hlen
        go_wp2_with fail
        refine (same_yes _ _ _ _ hle R5'.out R6.out).mono ?_
        rintro e w7 ⟨rfl, j, rfl⟩
        go_wp2
        go_ret
        exact ⟨rfl, below_drew B6.out _⟩
      · have C := Lib.hid (mine_end hmd hq)
        have e0 := str_some hq
        have R3 := Lib.hid href
        clear hmd href hq
        go_wp2_with fail
        refine (show Calls _ _ _ _ _ from C.out).mono ?_
        rintro e w4 ⟨rfl, hm4, hs4⟩
        have M3 := Lib.hid hm4
        have R4 := Lib.hid (R3.out.stirs hs4 (by omega))
        have c0 : w4.cell? ⟨w1.heap.size + 1, 0, none⟩ = some (.string (strK kk)) := by rw [cell_of R4.out.blk]; rfl
        clear hm4 hs4 C R3
        go_wp2_with fail
        refine (mine_waits M3.out (m := 0) rfl).mono ?_
        rintro e w5 ⟨rfl, rfl⟩
        clear c0
        go_wp2_with fail
        refine (all_post s (allD l) (by rw [HL.out]) (by omega) _ M3.out.tabs).mono ?_
        rintro e w5 ⟨A, c, n, rfl, ho, hb, hn⟩
        have B5 := Lib.hid (M3.out.old.trans (hb.mono M3.out.sz))
        have R5 := Lib.hid (own_runes ho)
        clear ho hb hn
        go_wp2_with fail
        refine (all_ref s l HL.out (by omega) _).mono ?_
        rintro e w6 ⟨A2, c2, n2, rfl, ho, hb, hn⟩
        have B6 := Lib.hid (B5.out.trans (hb.mono B5.out.size))
        have R6 := Lib.hid (own_runes ho)
        have R5' := Lib.hid (R5.out.below hb (Nat.le_refl _))
        have hac := (all_count l).1
        have hlen := HLen.out
        have hle : (allD l).length ≤ 1000000 := by omega
        clear ho hb hn B5 R5 hac hlen
        go_wp2_with fail
        refine (same_yes _ _ _ _ hle R5'.out R6.out).mono ?_
        rintro e w7 ⟨rfl, j, rfl⟩
        go_wp2
        go_ret
        exact ⟨rfl, below_drew B6.out _⟩

theorem tells_walk (s : ByteArray) (w : World) (hs : s.size ≤ maxLen) (hT : Tabs w) :
    Calls Tryd.prog 4 #[.string s] w fun e w' => e = .returned (.bool true) ∧ Below w.heap.size w w' := by
  by_cases h : 5000 < s.size
  · exact tells_big s w hs hT h
  · exact tells_small s w (by omega) hT

end Go.Proofs.YtbnclfelkdbbcaaDoor
