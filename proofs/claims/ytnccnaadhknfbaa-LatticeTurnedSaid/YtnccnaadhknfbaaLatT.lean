/- Layer 1: LatticeTells' walk. -/
import Derived.Test.YtnccnaadhknfbaaLatS
namespace Go.Proofs.Ytnccnaadhknfbaa
open Go.RowKit Lat

theorem Grid.more {w : World} {B B' n : Nat} {A : Option Addr} {L : Nat → Nat} {T : Nat → Nat → Bool} (h : Grid w B A n L T) (hB : B ≤ B') : Grid w B' A n L T := fun hn => by
  obtain ⟨a, e, hb, hr⟩ := h hn
  refine ⟨a, e, by omega, fun r hlt => ?_⟩
  obtain ⟨A', C, hc, hl, hx⟩ := hr r hlt
  refine ⟨A', C, hc, hl, fun c hcl => ?_⟩
  obtain ⟨a', e', hb', hc'⟩ := hx c hcl
  exact ⟨a', e', by omega, hc'⟩

theorem newErr_zero {n : Nat} {L : Nat → Nat} {T : Nat → Nat → Bool} (h : newErr n L T = 0) : 1 ≤ n ∧ n ≤ 64 ∧ (∀ r, r < n → L r = n) ∧ orderT n T = true ∧ boundedT n T = true := by
  unfold newErr at h
  split at h
  · omega
  · split at h
    · omega
    · split at h
      · omega
      · rename_i h1 h2 h3
        have hs : square n L = true := by simpa using h2
        have ho : (orderT n T && boundedT n T) = true := by simpa using h3
        rw [Bool.and_eq_true] at ho
        refine ⟨by omega, by omega, fun r hr => ?_, ho.1, ho.2⟩
        have := (all_range_iff _ _).1 hs r hr
        simpa using this

theorem newErr_range (n : Nat) (L : Nat → Nat) (T : Nat → Nat → Bool) : 0 ≤ newErr n L T ∧ newErr n L T ≤ 8 := by
  unfold newErr
  split
  · omega
  · split
    · omega
    · split <;> omega

theorem Grid.sq {w : World} {B n : Nat} {A : Option Addr} {L : Nat → Nat} {T : Nat → Nat → Bool} (h : Grid w B A n L T) (hn : n ≤ 100) (hL : ∀ r, r < n → L r = n) : Sq w B A n T := ⟨fun hp => by
  obtain ⟨a, e, hb, hx⟩ := h hp
  refine ⟨a, e, hb, fun r hr => ?_⟩
  have := hx r hr
  rw [hL r hr] at this
  exact this, hn⟩

set_option maxHeartbeats 1600000 in
theorem lawTells_any (n cap : Nat) (A : Option Addr) (L : Nat → Nat) (T : Nat → Nat → Bool) (a b : Int) (w : World) (hG : Grid w w.heap.size A n L T) (hm : n ≤ 9223372036854775807) :
    Calls Try.prog 4 #[.slice A n cap, .int .i64 a, .int .i64 b] w fun e w' => e = .returned (.bool true) ∧ Below w.heap.size w w' := by
  have HG := Lib.hid hG; clear hG
  go_enter Try.func4, Try.ntmps4
  go_wp2_with fail
  refine (awake_any w).mono ?_
  rintro e w1 ⟨rfl, hB⟩
  have HB1 := Lib.hid hB
  have HG1 := Lib.hid (HG.out.below hB)
  clear hB HG
  go_wp2_with fail
  refine (wide_any n cap _ A L T w1 HG1.out hm).mono ?_
  cases hw : wideB n L
  · obtain ⟨hn, _⟩ := wide_false hw
    clear hw
    rintro e w' ⟨rfl, rfl⟩
    go_wp2_with fail
    refine (new_any n cap A L T w1 (HG1.out.more HB1.out.size) hm).mono ?_
    rintro e w2 ⟨hB2, h⟩
    have HB2 := Lib.hid (HB1.out.trans (hB2.mono HB1.out.size))
    have HG2 := Lib.hid (HG1.out.below (hB2.mono HB1.out.size))
    have HS2 := Lib.hid hB2.size
    have hr := newErr_range n L T
    clear hB2
    rcases h with ⟨hne, rfl⟩ | ⟨h0, lb, rfl, hlb, hI⟩
    · have HR := Lib.hid (refNew_any n cap _ A L T w2 HG2.out hm)
      generalize newErr n L T = c at *
      have d1 : ((c : Int) != 0) = true := by simpa using hne
      clear hne
      go_wp2_with fail
      refine HR.out.mono ?_
      rintro e w' ⟨rfl, rfl⟩
      go_wp2
      go_ret
      exact ⟨rfl, HB2.out⟩
    · obtain ⟨hn1, hn2, hL, _, _⟩ := newErr_zero h0
      have HR := Lib.hid (refNew_any n cap _ A L T w2 HG2.out hm)
      have HT := Lib.hid (tells_any lb n cap A T a b w2 hI (fun w' hk => by
        refine Grid.sq ?_ (by omega) hL
        refine (HG2.out.keep fun p hp => ?_).more (Nat.le_trans HB1.out.size HS2.out)
        refine World.cell?_of_block (hk.block p.block (Nat.lt_of_lt_of_le hp (Nat.le_trans HB1.out.size HS2.out)) ?_)
        have := HB1.out.size
        omega))
      have HLB := Lib.hid hlb
      have H0 := Lib.hid h0
      clear h0 hlb hI
      go_wp2_with fail
      refine HR.out.mono ?_
      rw [H0.out]
      rintro e w' ⟨rfl, rfl⟩
      go_wp2_with fail
      refine HT.out.mono ?_
      rintro e w3 ⟨rfl, hk⟩
      have HB3 := Lib.hid (HB2.out.trans (hk.below (Nat.le_trans HB1.out.size HLB.out) HB2.out.size))
      clear hk
      go_wp2
      go_ret
      exact ⟨rfl, HB3.out⟩
  · rintro e w' ⟨rfl, rfl⟩
    go_wp2
    go_ret
    exact ⟨rfl, HB1.out⟩
end Go.Proofs.Ytnccnaadhknfbaa
