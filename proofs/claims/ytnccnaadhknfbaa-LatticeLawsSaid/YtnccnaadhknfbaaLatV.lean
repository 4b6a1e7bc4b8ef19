/- Layer 1: LatticeLaws' walk. -/
import Derived.Test.YtnccnaadhknfbaaLatU
namespace Go.Proofs.Ytnccnaadhknfbaa
open Go.RowKit Lat

theorem joinAt (lb n : Nat) (T : Nat → Nat → Bool) (h : Ltc n T) (W : World) (hI : IsLat W lb n T) (x y p : Nat) (hx : x < n) (hy : y < n) (hp : IsLub n T x y p) :
    Calls Try.prog 15 #[.pointer (some ⟨lb, 0, none⟩), .int .i64 x, .int .i64 y] W fun e w' => e = .returned (.int .i64 (p : Int)) ∧ IsLat w' lb n T ∧ Keeps lb W w' := by
  have := join_any lb n T x y W hI
  rw [show joinV n T x y = (p : Int) from by simp [joinV, isLabel, hx, hy, h.join hp]] at this
  exact this
theorem meetAt (lb n : Nat) (T : Nat → Nat → Bool) (h : Ltc n T) (W : World) (hI : IsLat W lb n T) (x y p : Nat) (hx : x < n) (hy : y < n) (hp : IsLub n (flipT T) x y p) :
    Calls Try.prog 16 #[.pointer (some ⟨lb, 0, none⟩), .int .i64 x, .int .i64 y] W fun e w' => e = .returned (.int .i64 (p : Int)) ∧ IsLat w' lb n T ∧ Keeps lb W w' := by
  have := meet_any lb n T x y W hI
  rw [show joinV n (flipT T) x y = (p : Int) from by simp [joinV, isLabel, hx, hy, h.flip.join hp]] at this
  exact this
theorem belowAt (lb n : Nat) (T : Nat → Nat → Bool) (W : World) (hI : IsLat W lb n T) (x y : Nat) (hx : x < n) (hy : y < n) :
    Calls Try.prog 21 #[.pointer (some ⟨lb, 0, none⟩), .int .i64 x, .int .i64 y] W fun e w' => e = .returned (.bool (T x y)) ∧ W = w' := by
  have := below_any lb n T x y W hI
  rw [belowV_nat hx hy] at this
  exact this

set_option maxRecDepth 100000 in
set_option maxHeartbeats 12800000 in
theorem laws_any (n cap : Nat) (A : Option Addr) (L : Nat → Nat) (T : Nat → Nat → Bool) (a b c : Int) (w : World) (hG : Grid w w.heap.size A n L T) (hm : n ≤ 9223372036854775807) :
    Calls Try.prog 7 #[.slice A n cap, .int .i64 a, .int .i64 b, .int .i64 c] w fun e w' => e = .returned (.bool true) ∧ Below w.heap.size w w' := by
  have HG := Lib.hid hG; clear hG
  go_enter Try.func7, Try.ntmps7
  go_wp2_with fail
  refine (awake_any w).mono ?_
  rintro e w1 ⟨rfl, hB⟩
  have HB1 := Lib.hid hB
  have HG1 := Lib.hid (HG.out.below hB)
  clear hB HG
  go_wp2_with fail
  refine (wide_any n cap _ A L T w1 HG1.out hm).mono ?_
  cases hw : wideB n L
  · clear hw
    rintro e w' ⟨rfl, rfl⟩
    go_wp2_with fail
    refine (new_any n cap A L T w1 (HG1.out.more HB1.out.size) hm).mono ?_
    rintro e w2 ⟨hB2, h⟩
    have HB2 := Lib.hid (HB1.out.trans (hB2.mono HB1.out.size))
    clear hB2
    rcases h with ⟨hne, rfl⟩ | ⟨h0, lb, rfl, hlb, hI⟩
    · have d1 : (newErr n L T != 0) = true := by simpa using hne
      clear hne
      go_wp2
      go_ret
      exact ⟨rfl, HB2.out⟩
    · have HL := Lib.hid (ltc_of h0)
      have hn64 : n ≤ 64 := (newErr_zero h0).2.1
      have HI := Lib.hid hI
      have HLB := Lib.hid (Nat.le_trans HB1.out.size hlb)
      have HK := Lib.hid (Keeps.refl lb w2)
      clear h0 hI hlb HG1
      go_wp2_with fail
      refine (len_any lb n T _ HI.out).mono ?_
      rintro e w' ⟨rfl, rfl⟩
      by_cases g0 : a < 0
      · go_wp2
        go_ret
        exact ⟨rfl, HB2.out⟩
      have f0 : decide (a < 0) = false := by simpa using g0
      by_cases g1 : b < 0
      · go_wp2
        go_ret
        exact ⟨rfl, HB2.out⟩
      have f1 : decide (b < 0) = false := by simpa using g1
      by_cases g2 : c < 0
      · go_wp2
        go_ret
        exact ⟨rfl, HB2.out⟩
      have f2 : decide (c < 0) = false := by simpa using g2
      by_cases g3 : (n : Int) ≤ a
      · go_wp2
        go_ret
        exact ⟨rfl, HB2.out⟩
      have f3 : decide ((n : Int) ≤ a) = false := by simpa using g3
      by_cases g4 : (n : Int) ≤ b
      · go_wp2
        go_ret
        exact ⟨rfl, HB2.out⟩
      have f4 : decide ((n : Int) ≤ b) = false := by simpa using g4
      by_cases g5 : (n : Int) ≤ c
      · go_wp2
        go_ret
        exact ⟨rfl, HB2.out⟩
      have f5 : decide ((n : Int) ≤ c) = false := by simpa using g5
      obtain ⟨x, rfl⟩ : ∃ x : Nat, a = x := ⟨a.toNat, by omega⟩
      obtain ⟨y, rfl⟩ : ∃ y : Nat, b = y := ⟨b.toNat, by omega⟩
      obtain ⟨z, rfl⟩ : ∃ z : Nat, c = z := ⟨c.toNat, by omega⟩
      have hx : x < n := by omega
      have hy : y < n := by omega
      have hz : z < n := by omega
      have e3 : decide (n ≤ x) = false := by simp; omega
      have e4 : decide (n ≤ y) = false := by simp; omega
      have e5 : decide (n ≤ z) = false := by simp; omega
      clear g0 g1 g2 g3 g4 g5
      obtain ⟨q, hq⟩ := HL.out.lub y z hy hz
      obtain ⟨t, ht⟩ := HL.out.glb y z hy hz
      obtain ⟨tp, htp, HT1, HT2⟩ := HL.out.top
      obtain ⟨bt, hbt, HT3, HT4⟩ := HL.out.flip.top
      have HTP := Lib.hid HT1; have HTP2 := Lib.hid HT2
      have HBT := Lib.hid (show endT n T = bt from HT3); have HBT2 := Lib.hid HT4
      have hql := Lib.hid hq; have htl := Lib.hid ht
      clear HT1 HT2 HT3 HT4 hq ht
      cases hxy : T x y
      · have HXY := Lib.hid hxy
        obtain ⟨p, hp⟩ := HL.out.lub x y hx hy
        obtain ⟨m, hmm⟩ := HL.out.glb x y hx hy
        obtain ⟨r, hr⟩ := HL.out.lub p z hp.lt hz
        obtain ⟨s, hs⟩ := HL.out.glb m z hmm.lt hz
        have np : ((p : Int) == (y : Int)) = false := by have := Ltc.not_below hp hxy; simp; omega
        have nm : ((m : Int) == (x : Int)) = false := by have := Ltc.not_below (T := flipT T) hmm.comm (show flipT T y x = false from hxy); simp; omega
        have hpl := Lib.hid hp; have hml := Lib.hid hmm; have hrl := Lib.hid hr; have hsl := Lib.hid hs
        have hal := Lib.hid (HL.out.assoc hx hy hz hp hql.out hr)
        have hbl := Lib.hid (HL.out.flip.assoc hx hy hz hmm htl.out hs)
        clear hp hmm hr hs hxy
        go_wp2_with fail
        refine (joinAt lb n T HL.out _ HI.out x y p hx hy hpl.out).mono ?_
        rintro e w' ⟨rfl, hI, hK⟩
        replace HK := Lib.hid (HK.out.trans hK)
        replace HI := Lib.hid hI
        clear hI hK
        go_wp2_with fail
        refine (joinAt lb n T HL.out _ HI.out p z r hpl.out.lt hz hrl.out).mono ?_
        rintro e w' ⟨rfl, hI, hK⟩
        replace HK := Lib.hid (HK.out.trans hK)
        replace HI := Lib.hid hI
        clear hI hK
        go_wp2_with fail
        refine (joinAt lb n T HL.out _ HI.out y z q hy hz hql.out).mono ?_
        rintro e w' ⟨rfl, hI, hK⟩
        replace HK := Lib.hid (HK.out.trans hK)
        replace HI := Lib.hid hI
        clear hI hK
        go_wp2_with fail
        refine (joinAt lb n T HL.out _ HI.out x q r hx hql.out.lt hal.out).mono ?_
        rintro e w' ⟨rfl, hI, hK⟩
        replace HK := Lib.hid (HK.out.trans hK)
        replace HI := Lib.hid hI
        clear hI hK
        go_wp2_with fail
        refine (meetAt lb n T HL.out _ HI.out x y m hx hy hml.out).mono ?_
        rintro e w' ⟨rfl, hI, hK⟩
        replace HK := Lib.hid (HK.out.trans hK)
        replace HI := Lib.hid hI
        clear hI hK
        go_wp2_with fail
        refine (meetAt lb n T HL.out _ HI.out m z s hml.out.lt hz hsl.out).mono ?_
        rintro e w' ⟨rfl, hI, hK⟩
        replace HK := Lib.hid (HK.out.trans hK)
        replace HI := Lib.hid hI
        clear hI hK
        go_wp2_with fail
        refine (meetAt lb n T HL.out _ HI.out y z t hy hz htl.out).mono ?_
        rintro e w' ⟨rfl, hI, hK⟩
        replace HK := Lib.hid (HK.out.trans hK)
        replace HI := Lib.hid hI
        clear hI hK
        go_wp2_with fail
        refine (meetAt lb n T HL.out _ HI.out x t s hx htl.out.lt hbl.out).mono ?_
        rintro e w' ⟨rfl, hI, hK⟩
        replace HK := Lib.hid (HK.out.trans hK)
        replace HI := Lib.hid hI
        clear hI hK
        go_wp2_with fail
        refine (joinAt lb n T HL.out _ HI.out x y p hx hy hpl.out).mono ?_
        rintro e w' ⟨rfl, hI, hK⟩
        replace HK := Lib.hid (HK.out.trans hK)
        replace HI := Lib.hid hI
        clear hI hK
        go_wp2_with fail
        refine (joinAt lb n T HL.out _ HI.out y x p hy hx hpl.out.comm).mono ?_
        rintro e w' ⟨rfl, hI, hK⟩
        replace HK := Lib.hid (HK.out.trans hK)
        replace HI := Lib.hid hI
        clear hI hK
        go_wp2_with fail
        refine (meetAt lb n T HL.out _ HI.out x y m hx hy hml.out).mono ?_
        rintro e w' ⟨rfl, hI, hK⟩
        replace HK := Lib.hid (HK.out.trans hK)
        replace HI := Lib.hid hI
        clear hI hK
        go_wp2_with fail
        refine (meetAt lb n T HL.out _ HI.out y x m hy hx hml.out.comm).mono ?_
        rintro e w' ⟨rfl, hI, hK⟩
        replace HK := Lib.hid (HK.out.trans hK)
        replace HI := Lib.hid hI
        clear hI hK
        go_wp2_with fail
        refine (meetAt lb n T HL.out _ HI.out x y m hx hy hml.out).mono ?_
        rintro e w' ⟨rfl, hI, hK⟩
        replace HK := Lib.hid (HK.out.trans hK)
        replace HI := Lib.hid hI
        clear hI hK
        go_wp2_with fail
        refine (joinAt lb n T HL.out _ HI.out x m x hx hml.out.lt (HL.out.absorb hx hml.out)).mono ?_
        rintro e w' ⟨rfl, hI, hK⟩
        replace HK := Lib.hid (HK.out.trans hK)
        replace HI := Lib.hid hI
        clear hI hK
        go_wp2_with fail
        refine (joinAt lb n T HL.out _ HI.out x y p hx hy hpl.out).mono ?_
        rintro e w' ⟨rfl, hI, hK⟩
        replace HK := Lib.hid (HK.out.trans hK)
        replace HI := Lib.hid hI
        clear hI hK
        go_wp2_with fail
        refine (meetAt lb n T HL.out _ HI.out x p x hx hpl.out.lt (HL.out.flip.absorb (T := flipT T) hx hpl.out)).mono ?_
        rintro e w' ⟨rfl, hI, hK⟩
        replace HK := Lib.hid (HK.out.trans hK)
        replace HI := Lib.hid hI
        clear hI hK
        go_wp2_with fail
        refine (belowAt lb n T _ HI.out x y hx hy).mono ?_
        rw [HXY.out]
        rintro e w' ⟨rfl, rfl⟩
        go_wp2_with fail
        refine (joinAt lb n T HL.out _ HI.out x y p hx hy hpl.out).mono ?_
        rintro e w' ⟨rfl, hI, hK⟩
        replace HK := Lib.hid (HK.out.trans hK)
        replace HI := Lib.hid hI
        clear hI hK
        go_wp2_with fail
        refine (belowAt lb n T _ HI.out x y hx hy).mono ?_
        rw [HXY.out]
        rintro e w' ⟨rfl, rfl⟩
        go_wp2_with fail
        refine (meetAt lb n T HL.out _ HI.out x y m hx hy hml.out).mono ?_
        rintro e w' ⟨rfl, hI, hK⟩
        replace HK := Lib.hid (HK.out.trans hK)
        replace HI := Lib.hid hI
        clear hI hK
        go_wp2_with fail
        refine (belowAt lb n T _ HI.out x y hx hy).mono ?_
        rw [HXY.out]
        rintro e w' ⟨rfl, rfl⟩
        go_wp2_with fail
        refine (belowAt lb n T _ HI.out x x hx hx).mono ?_
        rw [HL.out.refl x hx]
        rintro e w' ⟨rfl, rfl⟩
        go_wp2_with fail
        refine (top_any lb n T _ HI.out).mono ?_
        rw [HTP.out]
        rintro e w' ⟨rfl, q1, rfl⟩
        go_wp2_with fail
        refine (belowAt lb n T _ (HI.out.drewN q1) x tp hx htp).mono ?_
        rw [HTP2.out x hx]
        rintro e w' ⟨rfl, rfl⟩
        go_wp2_with fail
        refine (bottom_any lb n T _ (HI.out.drewN q1)).mono ?_
        rw [HBT.out]
        rintro e w' ⟨rfl, q2, rfl⟩
        go_wp2_with fail
        refine (belowAt lb n T _ (HI.out.drewN _) bt x hbt hx).mono ?_
        rw [show T bt x = true from HBT2.out x hx]
        rintro e w' ⟨rfl, rfl⟩
        go_wp2
        go_ret
        exact ⟨rfl, below_drew (HB2.out.trans (HK.out.below HLB.out HB2.out.size)) _⟩
      · have HXY := Lib.hid hxy
        have hp := HL.out.of_below hy hxy
        have hmm := (HL.out.flip.of_below (T := flipT T) hx (show flipT T y x = true from hxy)).comm
        obtain ⟨r, hr⟩ := HL.out.lub y z hy hz
        obtain ⟨s, hs⟩ := HL.out.glb x z hx hz
        have hpl := Lib.hid hp; have hml := Lib.hid hmm; have hrl := Lib.hid hr; have hsl := Lib.hid hs
        have hal := Lib.hid (HL.out.assoc hx hy hz hp hql.out hr)
        have hbl := Lib.hid (HL.out.flip.assoc hx hy hz hmm htl.out hs)
        clear hp hmm hr hs hxy
        go_wp2_with fail
        refine (joinAt lb n T HL.out _ HI.out x y y hx hy hpl.out).mono ?_
        rintro e w' ⟨rfl, hI, hK⟩
        replace HK := Lib.hid (HK.out.trans hK)
        replace HI := Lib.hid hI
        clear hI hK
        go_wp2_with fail
        refine (joinAt lb n T HL.out _ HI.out y z r hy hz hrl.out).mono ?_
        rintro e w' ⟨rfl, hI, hK⟩
        replace HK := Lib.hid (HK.out.trans hK)
        replace HI := Lib.hid hI
        clear hI hK
        go_wp2_with fail
        refine (joinAt lb n T HL.out _ HI.out y z q hy hz hql.out).mono ?_
        rintro e w' ⟨rfl, hI, hK⟩
        replace HK := Lib.hid (HK.out.trans hK)
        replace HI := Lib.hid hI
        clear hI hK
        go_wp2_with fail
        refine (joinAt lb n T HL.out _ HI.out x q r hx hql.out.lt hal.out).mono ?_
        rintro e w' ⟨rfl, hI, hK⟩
        replace HK := Lib.hid (HK.out.trans hK)
        replace HI := Lib.hid hI
        clear hI hK
        go_wp2_with fail
        refine (meetAt lb n T HL.out _ HI.out x y x hx hy hml.out).mono ?_
        rintro e w' ⟨rfl, hI, hK⟩
        replace HK := Lib.hid (HK.out.trans hK)
        replace HI := Lib.hid hI
        clear hI hK
        go_wp2_with fail
        refine (meetAt lb n T HL.out _ HI.out x z s hx hz hsl.out).mono ?_
        rintro e w' ⟨rfl, hI, hK⟩
        replace HK := Lib.hid (HK.out.trans hK)
        replace HI := Lib.hid hI
        clear hI hK
        go_wp2_with fail
        refine (meetAt lb n T HL.out _ HI.out y z t hy hz htl.out).mono ?_
        rintro e w' ⟨rfl, hI, hK⟩
        replace HK := Lib.hid (HK.out.trans hK)
        replace HI := Lib.hid hI
        clear hI hK
        go_wp2_with fail
        refine (meetAt lb n T HL.out _ HI.out x t s hx htl.out.lt hbl.out).mono ?_
        rintro e w' ⟨rfl, hI, hK⟩
        replace HK := Lib.hid (HK.out.trans hK)
        replace HI := Lib.hid hI
        clear hI hK
        go_wp2_with fail
        refine (joinAt lb n T HL.out _ HI.out x y y hx hy hpl.out).mono ?_
        rintro e w' ⟨rfl, hI, hK⟩
        replace HK := Lib.hid (HK.out.trans hK)
        replace HI := Lib.hid hI
        clear hI hK
        go_wp2_with fail
        refine (joinAt lb n T HL.out _ HI.out y x y hy hx hpl.out.comm).mono ?_
        rintro e w' ⟨rfl, hI, hK⟩
        replace HK := Lib.hid (HK.out.trans hK)
        replace HI := Lib.hid hI
        clear hI hK
        go_wp2_with fail
        refine (meetAt lb n T HL.out _ HI.out x y x hx hy hml.out).mono ?_
        rintro e w' ⟨rfl, hI, hK⟩
        replace HK := Lib.hid (HK.out.trans hK)
        replace HI := Lib.hid hI
        clear hI hK
        go_wp2_with fail
        refine (meetAt lb n T HL.out _ HI.out y x x hy hx hml.out.comm).mono ?_
        rintro e w' ⟨rfl, hI, hK⟩
        replace HK := Lib.hid (HK.out.trans hK)
        replace HI := Lib.hid hI
        clear hI hK
        go_wp2_with fail
        refine (meetAt lb n T HL.out _ HI.out x y x hx hy hml.out).mono ?_
        rintro e w' ⟨rfl, hI, hK⟩
        replace HK := Lib.hid (HK.out.trans hK)
        replace HI := Lib.hid hI
        clear hI hK
        go_wp2_with fail
        refine (joinAt lb n T HL.out _ HI.out x x x hx hx (HL.out.absorb hx hml.out)).mono ?_
        rintro e w' ⟨rfl, hI, hK⟩
        replace HK := Lib.hid (HK.out.trans hK)
        replace HI := Lib.hid hI
        clear hI hK
        go_wp2_with fail
        refine (joinAt lb n T HL.out _ HI.out x y y hx hy hpl.out).mono ?_
        rintro e w' ⟨rfl, hI, hK⟩
        replace HK := Lib.hid (HK.out.trans hK)
        replace HI := Lib.hid hI
        clear hI hK
        go_wp2_with fail
        refine (meetAt lb n T HL.out _ HI.out x y x hx hy (HL.out.flip.absorb (T := flipT T) hx hpl.out)).mono ?_
        rintro e w' ⟨rfl, hI, hK⟩
        replace HK := Lib.hid (HK.out.trans hK)
        replace HI := Lib.hid hI
        clear hI hK
        go_wp2_with fail
        refine (belowAt lb n T _ HI.out x y hx hy).mono ?_
        rw [HXY.out]
        rintro e w' ⟨rfl, rfl⟩
        go_wp2_with fail
        refine (joinAt lb n T HL.out _ HI.out x y y hx hy hpl.out).mono ?_
        rintro e w' ⟨rfl, hI, hK⟩
        replace HK := Lib.hid (HK.out.trans hK)
        replace HI := Lib.hid hI
        clear hI hK
        go_wp2_with fail
        refine (belowAt lb n T _ HI.out x y hx hy).mono ?_
        rw [HXY.out]
        rintro e w' ⟨rfl, rfl⟩
        go_wp2_with fail
        refine (meetAt lb n T HL.out _ HI.out x y x hx hy hml.out).mono ?_
        rintro e w' ⟨rfl, hI, hK⟩
        replace HK := Lib.hid (HK.out.trans hK)
        replace HI := Lib.hid hI
        clear hI hK
        go_wp2_with fail
        refine (belowAt lb n T _ HI.out x y hx hy).mono ?_
        rw [HXY.out]
        rintro e w' ⟨rfl, rfl⟩
        go_wp2_with fail
        refine (belowAt lb n T _ HI.out y z hy hz).mono ?_
        cases hyz : T y z
        · clear hyz
          rintro e w' ⟨rfl, rfl⟩
          go_wp2_with fail
          refine (belowAt lb n T _ HI.out x x hx hx).mono ?_
          rw [HL.out.refl x hx]
          rintro e w' ⟨rfl, rfl⟩
          go_wp2_with fail
          refine (top_any lb n T _ HI.out).mono ?_
          rw [HTP.out]
          rintro e w' ⟨rfl, q1, rfl⟩
          go_wp2_with fail
          refine (belowAt lb n T _ (HI.out.drewN q1) x tp hx htp).mono ?_
          rw [HTP2.out x hx]
          rintro e w' ⟨rfl, rfl⟩
          go_wp2_with fail
          refine (bottom_any lb n T _ (HI.out.drewN q1)).mono ?_
          rw [HBT.out]
          rintro e w' ⟨rfl, q2, rfl⟩
          go_wp2_with fail
          refine (belowAt lb n T _ (HI.out.drewN _) bt x hbt hx).mono ?_
          rw [show T bt x = true from HBT2.out x hx]
          rintro e w' ⟨rfl, rfl⟩
          go_wp2
          go_ret
          exact ⟨rfl, below_drew (HB2.out.trans (HK.out.below HLB.out HB2.out.size)) _⟩
        · have HXZ := Lib.hid (HL.out.trans x y z hx hy hz HXY.out hyz)
          clear hyz
          rintro e w' ⟨rfl, rfl⟩
          go_wp2_with fail
          refine (belowAt lb n T _ HI.out x z hx hz).mono ?_
          rw [HXZ.out]
          rintro e w' ⟨rfl, rfl⟩
          go_wp2_with fail
          refine (belowAt lb n T _ HI.out x x hx hx).mono ?_
          rw [HL.out.refl x hx]
          rintro e w' ⟨rfl, rfl⟩
          go_wp2_with fail
          refine (top_any lb n T _ HI.out).mono ?_
          rw [HTP.out]
          rintro e w' ⟨rfl, q1, rfl⟩
          go_wp2_with fail
          refine (belowAt lb n T _ (HI.out.drewN q1) x tp hx htp).mono ?_
          rw [HTP2.out x hx]
          rintro e w' ⟨rfl, rfl⟩
          go_wp2_with fail
          refine (bottom_any lb n T _ (HI.out.drewN q1)).mono ?_
          rw [HBT.out]
          rintro e w' ⟨rfl, q2, rfl⟩
          go_wp2_with fail
          refine (belowAt lb n T _ (HI.out.drewN _) bt x hbt hx).mono ?_
          rw [show T bt x = true from HBT2.out x hx]
          rintro e w' ⟨rfl, rfl⟩
          go_wp2
          go_ret
          exact ⟨rfl, below_drew (HB2.out.trans (HK.out.below HLB.out HB2.out.size)) _⟩
  · rintro e w' ⟨rfl, rfl⟩
    go_wp2
    go_ret
    exact ⟨rfl, HB1.out⟩
end Go.Proofs.Ytnccnaadhknfbaa
