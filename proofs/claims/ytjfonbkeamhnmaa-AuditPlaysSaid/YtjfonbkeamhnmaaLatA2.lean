/- Layer 1: nearest, bound: contracts of the functions that only read words. -/
import Derived.Test.YtjfonbkeamhnmaaLatA
namespace Go.Proofs.Ytjfonbkeamhnmaa
open Go.RowKit Lat

theorem nearest_any (b n : Nat) (U : Nat → Nat) (T : Nat → Nat → Bool) (s : Nat) (S : Nat → Bool) (w : World) (hn : n ≤ 64) (hw : Words w b n U)
    (hU : ∀ i, i < n → BitsOf n (U i) (T i)) (hS : BitsOf n s S) :
    Calls Try.prog 54 #[.slice (some ⟨b, 0, none⟩) n n, .int .u64 s] w fun e w' => e = .returned (.int .i64 (near n S T)) ∧ w = w' := by
  have HW := Lib.hid hw; clear hw
  have HU := Lib.hid hU; clear hU
  have HS := Lib.hid hS; clear hS
  go_enter Try.func54, Try.ntmps54
  go_wp2
  go_loop [9] (fun i => ∃ k : Nat, k ≤ n ∧ i = .int .i64 k ∧ ∀ j, j < k → (S j && onSide n S (T j)) = false) (fun i => n - (intOf i).toNat)
  case atStart => exact ⟨0, Nat.zero_le _, rfl, fun j hj => by omega⟩
  case round =>
    obtain ⟨k, hk, rfl, hno⟩ := hrel
    have HN := Lib.hid hno; clear hno
    by_cases hlt : k < n
    · have hc := HW.out k hlt
      have hb := HS.out.bit k
      simp only [hlt, decide_true, Bool.true_and] at hb
      have ha := HS.out.andNot (HU.out k hlt)
      have hs64 := HS.out.lt
      cases h1 : S k
      · rw [h1] at hb
        clear ha
        have H1 := Lib.hid h1; clear h1
        go_wp2_with (go_at_call 45; refine (has_any _ _ hs64 (by omega) _).mono ?_; rintro e w' ⟨rfl, rfl⟩)
        go_round
        case rel => exact ⟨k + 1, by omega, by go_num, fun j hj => by
          by_cases e : j = k
          · subst e; simp [H1.out]
          · exact HN.out j (by omega)⟩
        case measure => simp [intOf]; omega
      · rw [h1] at hb
        have H1 := Lib.hid h1; clear h1
        cases h2 : onSide n S (T k)
        · rw [h2] at ha
          have H2 := Lib.hid h2; clear h2
          go_wp2_with (go_at_call 45; refine (has_any _ _ hs64 (by omega) _).mono ?_; rintro e w' ⟨rfl, rfl⟩)
          go_round
          case rel => exact ⟨k + 1, by omega, by go_num, fun j hj => by
            by_cases e : j = k
            · subst e; simp [H2.out]
            · exact HN.out j (by omega)⟩
          case measure => simp [intOf]; omega
        · rw [h2] at ha
          have H2 := Lib.hid h2; clear h2
          go_wp2_with (go_at_call 45; refine (has_any _ _ hs64 (by omega) _).mono ?_; rintro e w' ⟨rfl, rfl⟩)
          go_ret
          exact ⟨ret_int (first_of hlt (by simp [H1.out, H2.out]) HN.out).symm, rfl⟩
    · have hkn : k = n := by omega
      go_wp2
      go_ret
      exact ⟨ret_int (first_none (hkn ▸ HN.out)).symm, rfl⟩

theorem bound_any (b n : Nat) (U : Nat → Nat) (T : Nat → Nat → Bool) (x y : Nat) (w : World) (hn : n ≤ 64) (hw : Words w b n U)
    (hU : ∀ i, i < n → BitsOf n (U i) (T i)) (hx : x < n) (hy : y < n) :
    Calls Try.prog 51 #[.slice (some ⟨b, 0, none⟩) n n, .int .i64 x, .int .i64 y] w fun e w' => e = .returned (.int .i64 (joinT n T x y)) ∧ ∃ k, w' = w.drewN k := by
  have h1 := hw x hx
  have h2 := hw y hy
  have hand := (hU x hx).bits_and (hU y hy)
  have hc := fun m => nearest_any b n U T (U x &&& U y) (fun j => T x j && T y j) (w.drewN m) hn hw hU ((hU x hx).and (hU y hy))
  have HC := Lib.hid hc; clear hc hw hU
  go_enter Try.func51, Try.ntmps51
  go_wp2
  go_quiet ((go_at_call 54; exact still_left (HC.out _)))
  go_wp2
  go_ret
  exact ⟨rfl, nq, rfl⟩
end Go.Proofs.Ytjfonbkeamhnmaa
