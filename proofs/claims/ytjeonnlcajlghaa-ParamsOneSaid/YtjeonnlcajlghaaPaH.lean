/- Layer 7: ParamsOne's walk. -/
import Derived.Test.YtjeonnlcajlghaaPaG
namespace Go.Proofs.Ytjeonnlcajlghaa
open Go.RowKit Par

/-- What is wanted behind the first k parameters. -/
def wantV (L : Nat → Nat) (T : Nat → Nat → Int) (i x : Int) (k : Nat) : Int := if 0 ≤ i ∧ i < (k : Int) ∧ L i.toNat ≠ 0 ∧ T i.toNat 0 ≠ 0 then T i.toNat 0 else x

theorem want_one (n : Nat) (L : Nat → Nat) (T : Nat → Nat → Int) (i x : Int) : wantV L T i x n = oneV n L T i x := by
  unfold wantV oneV
  by_cases h1 : i < 0 ∨ (n : Int) ≤ i
  · rw [if_pos h1, if_neg (by omega)]
  · rw [if_neg h1]
    by_cases h2 : L i.toNat = 0 ∨ T i.toNat 0 = 0
    · rw [if_pos h2, if_neg (by omega)]
    · rw [if_neg h2, if_pos (by omega)]
theorem want_zero (L : Nat → Nat) (T : Nat → Nat → Int) (i x : Int) : wantV L T i x 0 = x := by
  unfold wantV
  rw [if_neg (by omega)]
theorem want_skip (L : Nat → Nat) (T : Nat → Nat → Int) (i x : Int) (k : Nat) (h : (k : Int) ≠ i ∨ L k = 0 ∨ T k 0 = 0) : wantV L T i x (k + 1) = wantV L T i x k := by
  unfold wantV
  by_cases e : (k : Int) = i
  · subst e
    rw [Int.toNat_natCast, if_neg (by omega), if_neg (by omega)]
  · by_cases h1 : 0 ≤ i ∧ i < (k : Int) ∧ L i.toNat ≠ 0 ∧ T i.toNat 0 ≠ 0
    · rw [if_pos h1, if_pos (by omega)]
    · rw [if_neg h1, if_neg (by omega)]
theorem want_take (L : Nat → Nat) (T : Nat → Nat → Int) (x : Int) (k : Nat) (h1 : L k ≠ 0) (h2 : T k 0 ≠ 0) : wantV L T (k : Int) x (k + 1) = T k 0 := by
  unfold wantV
  rw [Int.toNat_natCast, if_pos ⟨by omega, by omega, h1, h2⟩]

set_option maxHeartbeats 1600000 in
theorem lawOne_any (n cap : Nat) (A : Option Addr) (L : Nat → Nat) (T : Nat → Nat → Int) (i x : Int) (w : World) (hG : Grid w w.heap.size A n L T) :
    Calls Try.prog 6 #[.slice A n cap, .int .i64 i, .int .i64 x] w fun e w' => e = .returned (.bool true) ∧ Below w.heap.size w w' := by
  have HG0 := Lib.hid hG; clear hG
  go_enter Try.func6, Try.ntmps6
  go_wp2_with fail
  refine (awake_any w).mono ?_
  rintro e w1 ⟨rfl, hB⟩
  have HB1 := Lib.hid hB
  have HG := Lib.hid (HG0.out.below hB)
  clear hB HG0
  by_cases h50 : 50 < n
  · have d0 : decide ((50 : Int) < n) = true := by simp; omega
    clear h50
    go_wp2
    go_ret
    exact ⟨rfl, HB1.out⟩
  have d0 : decide ((50 : Int) < n) = false := by simp; omega
  go_wp2
  go_loopw [7, 8] (fun v t wr => wr = w1 ∧ ∃ k : Nat, k ≤ n ∧ t = .int .i64 k ∧ v = .int .i64 (wantV L T i x k)) (fun _ t _ => n - (RowKit.intOf t).toNat)
  case atStart => exact ⟨rfl, 0, Nat.zero_le _, rfl, by rw [want_zero]⟩
  case round =>
    obtain ⟨rfl, k, hk, rfl, rfl⟩ := hrel
    rename_i wr
    by_cases hlt : k < n
    · obtain ⟨a, A1, C1, rfl, _, ca, hl, hx⟩ := HG.out.at_ hlt
      by_cases hL : 50 < L k
      · have d1 : decide ((50 : Int) < L k) = true := by simp; omega
        clear hx
        go_wp2
        go_ret
        exact ⟨rfl, HB1.out⟩
      have d1 : decide ((50 : Int) < L k) = false := by simp; omega
      by_cases he : (k : Int) = i
      · subst he
        by_cases hl0 : L k = 0
        · have E : Hid (wantV L T k x (k + 1) = wantV L T k x k) := Lib.hid (want_skip _ _ _ _ _ (Or.inr (Or.inl hl0)))
          rw [hl0] at ca
          generalize wantV L T k x k = z at *
          clear hx hl hL d1 hl0
          go_wp2
          go_roundw
          case rel => exact ⟨trivial, k + 1, by omega, by go_num, by rw [E.out]⟩
          case measure => simp [RowKit.intOf]; omega
        obtain ⟨b, rfl, _, cb⟩ := hx 0 (by omega)
        have hab : b.add 0 = b := by unfold Addr.add; rfl
        rw [hab] at cb
        have d2 : decide (0 < (L k : Int)) = true := by simp; omega
        by_cases ht : T k 0 = 0
        · have E : Hid (wantV L T k x (k + 1) = wantV L T k x k) := Lib.hid (want_skip _ _ _ _ _ (Or.inr (Or.inr ht)))
          rw [ht] at cb
          generalize wantV L T k x k = z at *
          generalize L k = m at *
          have hm : 0 < m := by omega
          clear hx hl ht hl0
          go_wp2
          go_roundw
          case rel => exact ⟨trivial, k + 1, by omega, by go_num, by rw [E.out]⟩
          case measure => simp [RowKit.intOf]; omega
        · have E : Hid (wantV L T k x (k + 1) = T k 0) := Lib.hid (want_take _ _ _ _ hl0 ht)
          have d3 : (T k 0 != 0) = true := by simpa using ht
          generalize wantV L T k x k = z at *
          generalize T k 0 = t at *
          generalize L k = m at *
          have hm : 0 < m := by omega
          clear hx hl ht hl0
          go_wp2
          go_roundw
          case rel => exact ⟨trivial, k + 1, by omega, by go_num, by rw [E.out]⟩
          case measure => simp [RowKit.intOf]; omega
      · have E : Hid (wantV L T i x (k + 1) = wantV L T i x k) := Lib.hid (want_skip _ _ _ _ _ (Or.inl he))
        have d2 : ((k : Int) == i) = false := by simpa using he
        generalize wantV L T i x k = z at *
        generalize L k = m at *
        clear hx hl he
        go_wp2
        go_roundw
        case rel => exact ⟨trivial, k + 1, by omega, by go_num, by rw [E.out]⟩
        case measure => simp [RowKit.intOf]; omega
    · have hkn : k = n := by omega
      subst hkn
      rw [want_one]
      have HC := Lib.hid (one_any k cap _ A L T i x wr HG.out)
      generalize oneV k L T i x = z at *
      have dz : (z == z) = true := by simp
      go_wp2_with fail
      refine HC.out.mono ?_
      rintro e w2 ⟨rfl, j, rfl⟩
      go_wp2
      go_ret
      exact ⟨rfl, below_drew HB1.out _⟩
end Go.Proofs.Ytjeonnlcajlghaa
