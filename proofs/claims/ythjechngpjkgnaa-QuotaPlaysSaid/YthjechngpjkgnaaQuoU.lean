/- Layer 3: Great. -/
import Derived.Test.YthjechngpjkgnaaQuoG
import Derived.Test.YthjechngpjkgnaaOpenAct
namespace Go.Proofs.Ythjechngpjkgnaa
open Go.RowKit Go.Maps Go.ChangeMaps

def GreatPost (w : World) (n : Nat) (e : Ending) (w' : World) : Prop := ∃ g : Bool, e = .returned (.bool g) ∧ w = w' ∧ (g = false → n ≤ 300)

theorem GreatPost.yes (w : World) (n : Nat) : GreatPost w n (.returned (.bool true)) w := ⟨true, rfl, rfl, fun h => by cases h⟩

set_option maxHeartbeats 800000 in
theorem great_any (n cap B : Nat) (A : Option Addr) (X : Nat → Act) (w : World) (h : ActsIn w B A n X) (hn : n ≤ 9223372036854775807) :
    Calls Try.prog 13 #[.slice A n cap] w (GreatPost w n) := by
  have HE := Lib.hid h
  clear h
  go_enter Try.func13, Try.ntmps13
  go_wp2
  go_loop [3, 4] (fun s i => ∃ (k : Nat) (z : Int), k ≤ n ∧ k ≤ 301 ∧ i = .int .i64 k ∧ s = .int .i64 z ∧ 0 ≤ z ∧ z ≤ 20001 * k) (fun _ i => n - (intOf i).toNat)
  case atStart => exact ⟨0, 0, Nat.zero_le _, by omega, rfl, rfl, by omega, by omega⟩
  case round =>
    obtain ⟨k, z, hk, hk2, rfl, rfl, hz0, hz1⟩ := hrel
    by_cases hlt : k < n ∧ k ≤ 300
    · obtain ⟨hlt, hle⟩ := hlt
      obtain ⟨b, o, rfl, _, hs, _, _, hc⟩ := HE.out.at_ hlt
      generalize (X k).k = xs at hs hc
      have hmin : 0 ≤ min (xs.size : Int) 20001 ∧ min (xs.size : Int) 20001 ≤ 20001 := by omega
      go_wp2
      all_goals
        go_round
        case rel => exact ⟨k + 1, _, by omega, by omega, by go_num, rfl, by omega, by omega⟩
        case measure => simp [intOf]; omega
    · by_cases hkm : k < n
      · have d1 : decide ((k : Int) ≤ 300) = false := by simp; omega
        have d2 : 300 < n := by omega
        clear hlt
        go_wp2
        go_ret
        exact GreatPost.yes _ _
      · have d1 : decide ((k : Int) < (n : Int)) = false := by simp; omega
        clear hlt
        by_cases hb : 300 < n
        · go_wp2
          go_ret
          exact GreatPost.yes _ _
        · have d2 : decide (300 < (n : Int)) = false := by simp; omega
          go_wp2
          go_ret
          exact ⟨_, rfl, rfl, fun _ => by omega⟩
end Go.Proofs.Ythjechngpjkgnaa
