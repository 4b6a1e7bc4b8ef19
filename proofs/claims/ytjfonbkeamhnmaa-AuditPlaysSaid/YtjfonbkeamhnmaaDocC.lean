/- Layer 1: LatticeTells' walk. -/
import Derived.Test.YtjfonbkeamhnmaaDocB
namespace Go.Proofs.Ytjfonbkeamhnmaa
open Go.RowKit Lat

theorem Grid.more {w : World} {B B' n : Nat} {A : Option Addr} {L : Nat → Nat} {T : Nat → Nat → Bool} (h : Grid w B A n L T) (hB : B ≤ B') : Grid w B' A n L T := fun hn => by
  obtain ⟨a, e, hb, hr⟩ := h hn
  refine ⟨a, e, by omega, fun r hlt => ?_⟩
  obtain ⟨A', C, hc, hl, hx⟩ := hr r hlt
  refine ⟨A', C, hc, hl, fun c hcl => ?_⟩
  obtain ⟨a', e', hb', hc'⟩ := hx c hcl
  exact ⟨a', e', by omega, hc'⟩

theorem newErr_zero {n : Nat} {L : Nat → Nat} {T : Nat → Nat → Bool} (h : newErr n L T = 0) : 1 ≤ n ∧ n ≤ 64 ∧ (∀ r, r < n → L r = n) ∧ orderT n T = true ∧ boundedT n T = true := by
  unfold newErr at h
  split at h
  · omega
  · split at h
    · omega
    · split at h
      · omega
      · rename_i h1 h2 h3
        have hs : square n L = true := by simpa using h2
        have ho : (orderT n T && boundedT n T) = true := by simpa using h3
        rw [Bool.and_eq_true] at ho
        refine ⟨by omega, by omega, fun r hr => ?_, ho.1, ho.2⟩
        have := (all_range_iff _ _).1 hs r hr
        simpa using this

theorem newErr_range (n : Nat) (L : Nat → Nat) (T : Nat → Nat → Bool) : 0 ≤ newErr n L T ∧ newErr n L T ≤ 8 := by
  unfold newErr
  split
  · omega
  · split
    · omega
    · split <;> omega

theorem Grid.sq {w : World} {B n : Nat} {A : Option Addr} {L : Nat → Nat} {T : Nat → Nat → Bool} (h : Grid w B A n L T) (hn : n ≤ 100) (hL : ∀ r, r < n → L r = n) : Sq w B A n T := ⟨fun hp => by
  obtain ⟨a, e, hb, hx⟩ := h hp
  refine ⟨a, e, hb, fun r hr => ?_⟩
  have := hx r hr
  rw [hL r hr] at this
  exact this, hn⟩

end Go.Proofs.Ytjfonbkeamhnmaa
