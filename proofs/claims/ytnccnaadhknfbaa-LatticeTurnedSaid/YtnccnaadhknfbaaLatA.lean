/- Layer 1: has, nearest, bound: contracts of the functions that only read words. -/
import Derived.Test.YtnccnaadhknfbaaProg
import Derived.Test.YtnccnaadhknfbaaLatM
import Derived.WalkKit
import Derived.KernelRfl
import Derived.Lib.Hide
import Derived.Deep.QuietTactic
import Derived.BigQuiet
namespace Go.Proofs.Ytnccnaadhknfbaa
open Go.RowKit Lat

theorem ret_bool {a b : Bool} (h : a = b) : Ending.returned (.bool a) = .returned (.bool b) := by rw [h]
theorem ret_int {k : IntKind} {a b : Int} (h : a = b) : Ending.returned (.int k a) = .returned (.int k b) := by rw [h]

theorem has_any (s : Nat) (a : Nat) (hs : s < 18446744073709551616) (ha : a < 64) (w : World) :
    Calls Try.prog 36 #[.int .u64 s, .int .i64 a] w fun e w' => e = .returned (.bool (s.testBit a)) ∧ w = w' := by
  go_enter Try.func36, Try.ntmps36
  go_wp2
  go_ret
  exact ⟨ret_bool (has_eq s a hs), rfl⟩

/-- A slice of n words in a block of its own: the cells. -/
def Words (w : World) (b n : Nat) (U : Nat → Nat) : Prop := ∀ i, i < n → w.cell? ⟨b, i, none⟩ = some (.int .u64 (U i))

theorem nearest_any (b n : Nat) (U : Nat → Nat) (T : Nat → Nat → Bool) (s : Nat) (S : Nat → Bool) (w : World) (hn : n ≤ 64) (hw : Words w b n U)
    (hU : ∀ i, i < n → BitsOf n (U i) (T i)) (hS : BitsOf n s S) :
    Calls Try.prog 28 #[.slice (some ⟨b, 0, none⟩) n n, .int .u64 s] w fun e w' => e = .returned (.int .i64 (near n S T)) ∧ w = w' := by
  have HW := Lib.hid hw; clear hw
  have HU := Lib.hid hU; clear hU
  have HS := Lib.hid hS; clear hS
  go_enter Try.func28, Try.ntmps28
  go_wp2
  go_loop [9] (fun i => ∃ k : Nat, k ≤ n ∧ i = .int .i64 k ∧ ∀ j, j < k → (S j && onSide n S (T j)) = false) (fun i => n - (intOf i).toNat)
  case atStart => exact ⟨0, Nat.zero_le _, rfl, fun j hj => by omega⟩
  case round =>
    obtain ⟨k, hk, rfl, hno⟩ := hrel
    have HN := Lib.hid hno; clear hno
    by_cases hlt : k < n
    · have hc := HW.out k hlt
      have hb := HS.out.bit k
      simp only [hlt, decide_true, Bool.true_and] at hb
      have ha := HS.out.andNot (HU.out k hlt)
      have hs64 := HS.out.lt
      cases h1 : S k
      · rw [h1] at hb
        clear ha
        have H1 := Lib.hid h1; clear h1
        go_wp2_with (go_at_call 36; refine (has_any _ _ hs64 (by omega) _).mono ?_; rintro e w' ⟨rfl, rfl⟩)
        go_round
        case rel => exact ⟨k + 1, by omega, by go_num, fun j hj => by
          by_cases e : j = k
          · subst e; simp [H1.out]
          · exact HN.out j (by omega)⟩
        case measure => simp [intOf]; omega
      · rw [h1] at hb
        have H1 := Lib.hid h1; clear h1
        cases h2 : onSide n S (T k)
        · rw [h2] at ha
          have H2 := Lib.hid h2; clear h2
          go_wp2_with (go_at_call 36; refine (has_any _ _ hs64 (by omega) _).mono ?_; rintro e w' ⟨rfl, rfl⟩)
          go_round
          case rel => exact ⟨k + 1, by omega, by go_num, fun j hj => by
            by_cases e : j = k
            · subst e; simp [H2.out]
            · exact HN.out j (by omega)⟩
          case measure => simp [intOf]; omega
        · rw [h2] at ha
          have H2 := Lib.hid h2; clear h2
          go_wp2_with (go_at_call 36; refine (has_any _ _ hs64 (by omega) _).mono ?_; rintro e w' ⟨rfl, rfl⟩)
          go_ret
          exact ⟨ret_int (first_of hlt (by simp [H1.out, H2.out]) HN.out).symm, rfl⟩
    · have hkn : k = n := by omega
      go_wp2
      go_ret
      exact ⟨ret_int (first_none (hkn ▸ HN.out)).symm, rfl⟩

/-- A callee that leaves its world, met within a region whose order is open. -/
theorem still_left {P : Program} {f : FuncId} {args : Array Value} {w : World} {n : Nat} {v : Value} (h : Calls P f args (w.drewN n) fun e w' => e = .returned v ∧ w.drewN n = w') :
    Calls P f args (w.drewN n) fun e w'' => e = .returned v ∧ ∃ m, w'' = w.drewN m := h.mono fun _ _ hh => ⟨hh.1, n, hh.2.symm⟩

theorem bound_any (b n : Nat) (U : Nat → Nat) (T : Nat → Nat → Bool) (x y : Nat) (w : World) (hn : n ≤ 64) (hw : Words w b n U)
    (hU : ∀ i, i < n → BitsOf n (U i) (T i)) (hx : x < n) (hy : y < n) :
    Calls Try.prog 37 #[.slice (some ⟨b, 0, none⟩) n n, .int .i64 x, .int .i64 y] w fun e w' => e = .returned (.int .i64 (joinT n T x y)) ∧ ∃ k, w' = w.drewN k := by
  have h1 := hw x hx
  have h2 := hw y hy
  have hand := (hU x hx).bits_and (hU y hy)
  have hc := fun m => nearest_any b n U T (U x &&& U y) (fun j => T x j && T y j) (w.drewN m) hn hw hU ((hU x hx).and (hU y hy))
  have HC := Lib.hid hc; clear hc hw hU
  go_enter Try.func37, Try.ntmps37
  go_wp2
  go_quiet ((go_at_call 28; exact still_left (HC.out _)))
  go_wp2
  go_ret
  exact ⟨rfl, nq, rfl⟩
end Go.Proofs.Ytnccnaadhknfbaa
