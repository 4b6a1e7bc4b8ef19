/- Layer 2: Great. -/
import Derived.Test.YtjfonbkeamhnmaaAudH
import Derived.Test.YtjfonbkeamhnmaaOpenEnt
namespace Go.Proofs.Ytjfonbkeamhnmaa
open Go.RowKit Lat

theorem Grid.nil (w : World) (B : Nat) (L : Nat → Nat) (T : Nat → Nat → Bool) : Grid w B none 0 L T := fun h => by omega

def GreatPost (w : World) (n m : Nat) (L : Nat → Nat) (e : Ending) (w' : World) : Prop :=
  ∃ g : Bool, e = .returned (.bool g) ∧ w = w' ∧ (g = false → n ≤ 20 ∧ m ≤ 100 ∧ ∀ r, r < n → L r ≤ 20)

theorem GreatPost.yes (w : World) (n m : Nat) (L : Nat → Nat) : GreatPost w n m L (.returned (.bool true)) w := ⟨true, rfl, rfl, fun h => by cases h⟩

/-- The rest of Great behind its first loop is one walk for both exits. -/
theorem pick_or (a b c : Bool) (n m : Nat) (P : Prop) (h1 : a = decide (20 < (n : Int))) (h2 : b = decide (100 < (m : Int))) (hP : n ≤ 20 → P) : (if a then true else if b then true else c) = false → n ≤ 20 ∧ m ≤ 100 ∧ P := by
  intro h
  subst h1 h2
  by_cases hn : 20 < (n : Int)
  · simp [hn] at h
  · by_cases hm : 100 < (m : Int)
    · simp [hn, hm] at h
    · exact ⟨by omega, by omega, hP (by omega)⟩

set_option maxRecDepth 100000 in
set_option maxHeartbeats 1000000 in
theorem great_any (n cap m cap2 B : Nat) (A A2 : Option Addr) (L : Nat → Nat) (T : Nat → Nat → Bool) (X : Nat → Ent) (w : World) (h : Grid w B A n L T) (h2 : EntsIn w B A2 m X) (hn : n ≤ 9223372036854775807) (hm : m ≤ 9223372036854775807) :
    Calls Try.prog 14 #[.slice A n cap, .slice A2 m cap2] w (GreatPost w n m L) := by
  have HG := Lib.hid h
  have HE := Lib.hid h2
  clear h h2
  go_enter Try.func14, Try.ntmps14
  go_wp2
  go_loop [5, 6] (fun s i => ∃ (k : Nat) (z : Int), k ≤ m ∧ k ≤ 101 ∧ i = .int .i64 k ∧ s = .int .i64 z ∧ 0 ≤ z ∧ z ≤ 50001 * k) (fun _ i => m - (intOf i).toNat)
  case atStart => exact ⟨0, 0, Nat.zero_le _, by omega, rfl, rfl, by omega, by omega⟩
  case round =>
    obtain ⟨k, z, hk, hk2, rfl, rfl, hz0, hz1⟩ := hrel
    by_cases hlt : k < m ∧ k ≤ 100
    · obtain ⟨hlt, hle⟩ := hlt
      obtain ⟨b, o, rfl, _, hs, _, _, _, hc⟩ := HE.out.at_ hlt
      generalize (X k).s = xs at hs hc
      have hmin : 0 ≤ min (xs.size : Int) 50001 ∧ min (xs.size : Int) 50001 ≤ 50001 := by omega
      go_wp2
      all_goals
        go_round
        case rel => exact ⟨k + 1, _, by omega, by omega, by go_num, rfl, by omega, by omega⟩
        case measure => simp [intOf]; omega
    · by_cases hkm : k < m
      · have d1 : decide ((k : Int) ≤ 100) = false := by simp; omega
        clear hlt
        go_wp2
        go_loop [7] (fun i => ∃ q : Nat, q ≤ n ∧ q ≤ 21 ∧ i = .int .i64 q ∧ ∀ r, r < q → L r ≤ 20) (fun i => n - (intOf i).toNat)
        case atStart => exact ⟨0, Nat.zero_le _, by omega, rfl, fun j hj => by omega⟩
        case round =>
          obtain ⟨q, hq, hq2, rfl, hno⟩ := hrel
          have HN := Lib.hid hno; clear hno
          by_cases hlt2 : q < n ∧ q ≤ 20
          · obtain ⟨hlt2, hle2⟩ := hlt2
            obtain ⟨a, A', C, rfl, _, hc, hl, _⟩ := HG.out.at_ hlt2
            by_cases hL : 20 < L q
            · go_wp2
              go_ret
              exact GreatPost.yes _ _ _ _
            · have hd : decide (20 < (L q : Int)) = false := by simp; omega
              go_wp2
              go_round
              case rel => exact ⟨q + 1, by omega, by omega, by go_num, fun r hr => by
                by_cases e : r = q
                · subst e; omega
                · exact HN.out r (by omega)⟩
              case measure => simp [intOf]; omega
          · by_cases hn20 : 20 < n
            · by_cases hqn : q < n
              · have c1 : decide ((q : Int) ≤ 20) = false := by simp; omega
                clear hlt2
                go_wp2
                go_ret
                exact GreatPost.yes _ _ _ _
              · have hqn' : ¬ q < n := by omega
                clear hlt2
                go_wp2
                go_ret
                exact GreatPost.yes _ _ _ _
            · have hqn' : ¬ q < n := by omega
              have c2 : decide (20 < (n : Int)) = false := by simp; omega
              clear hlt2
              by_cases hm1 : 100 < m
              · go_wp2
                go_ret
                exact GreatPost.yes _ _ _ _
              · have c3 : decide (100 < (m : Int)) = false := by simp; omega
                go_wp2
                go_ret
                exact ⟨_, rfl, rfl, fun _ => ⟨by omega, by omega, fun r hr => HN.out r (by omega)⟩⟩
      · have d1 : decide ((k : Int) < (m : Int)) = false := by simp; omega
        clear hlt
        go_wp2
        go_loop [7] (fun i => ∃ q : Nat, q ≤ n ∧ q ≤ 21 ∧ i = .int .i64 q ∧ ∀ r, r < q → L r ≤ 20) (fun i => n - (intOf i).toNat)
        case atStart => exact ⟨0, Nat.zero_le _, by omega, rfl, fun j hj => by omega⟩
        case round =>
          obtain ⟨q, hq, hq2, rfl, hno⟩ := hrel
          have HN := Lib.hid hno; clear hno
          by_cases hlt2 : q < n ∧ q ≤ 20
          · obtain ⟨hlt2, hle2⟩ := hlt2
            obtain ⟨a, A', C, rfl, _, hc, hl, _⟩ := HG.out.at_ hlt2
            by_cases hL : 20 < L q
            · go_wp2
              go_ret
              exact GreatPost.yes _ _ _ _
            · have hd : decide (20 < (L q : Int)) = false := by simp; omega
              go_wp2
              go_round
              case rel => exact ⟨q + 1, by omega, by omega, by go_num, fun r hr => by
                by_cases e : r = q
                · subst e; omega
                · exact HN.out r (by omega)⟩
              case measure => simp [intOf]; omega
          · by_cases hn20 : 20 < n
            · by_cases hqn : q < n
              · have c1 : decide ((q : Int) ≤ 20) = false := by simp; omega
                clear hlt2
                go_wp2
                go_ret
                exact GreatPost.yes _ _ _ _
              · have hqn' : ¬ q < n := by omega
                clear hlt2
                go_wp2
                go_ret
                exact GreatPost.yes _ _ _ _
            · have hqn' : ¬ q < n := by omega
              have c2 : decide (20 < (n : Int)) = false := by simp; omega
              clear hlt2
              by_cases hm1 : 100 < m
              · go_wp2
                go_ret
                exact GreatPost.yes _ _ _ _
              · have c3 : decide (100 < (m : Int)) = false := by simp; omega
                go_wp2
                go_ret
                exact ⟨_, rfl, rfl, fun _ => ⟨by omega, by omega, fun r hr => HN.out r (by omega)⟩⟩
end Go.Proofs.Ytjfonbkeamhnmaa
