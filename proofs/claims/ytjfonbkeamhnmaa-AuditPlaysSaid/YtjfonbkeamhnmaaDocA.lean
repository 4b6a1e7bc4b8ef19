/- Layer 1: the document's own answers: Below, Join, Meet of a table. For seats whose cut lacks the lattice's own Join, Meet. -/
import Derived.Test.YtjfonbkeamhnmaaLatB
import Derived.Test.YtjfonbkeamhnmaaLatE
import Derived.Deep.CutBlock
import Derived.Deep.DeepCutAuto
namespace Go.Proofs.Ytjfonbkeamhnmaa
open Go.RowKit Lat

/-- What Join answers (Meet: with the order turned over). -/
def joinV (n : Nat) (T : Nat → Nat → Bool) (a b : Int) : Int := if isLabel n a && isLabel n b then joinT n T a.toNat b.toNat else -1

/-- A table of n rows of n. -/
structure Sq (w : World) (B : Nat) (A : Option Addr) (n : Nat) (T : Nat → Nat → Bool) : Prop where
  grid : Grid w B A n (fun _ => n) T
  le : n ≤ 100

theorem Sq.keep {w w' : World} {B n : Nat} {A : Option Addr} {T : Nat → Nat → Bool} (h : Sq w B A n T) (hk : ∀ p : Addr, p.block < B → w'.cell? p = w.cell? p) : Sq w' B A n T := ⟨h.grid.keep hk, h.le⟩
theorem Sq.below {w w' : World} {B n : Nat} {A : Option Addr} {T : Nat → Nat → Bool} (h : Sq w B A n T) (hb : Below B w w') : Sq w' B A n T := ⟨h.grid.below hb, h.le⟩

theorem refBelow_any (n cap B : Nat) (A : Option Addr) (T : Nat → Nat → Bool) (a b : Int) (w : World) (h : Sq w B A n T) :
    Calls Try.prog 42 #[.slice A n cap, .int .i64 a, .int .i64 b] w fun e w' => e = .returned (.bool (belowV n T a b)) ∧ w = w' := by
  have hle := h.le
  by_cases h1 : 0 ≤ a
  · by_cases h2 : 0 ≤ b
    · by_cases h3 : a < n
      · by_cases h4 : b < n
        · obtain ⟨x, rfl⟩ : ∃ x : Nat, a = x := ⟨a.toNat, by omega⟩
          obtain ⟨y, rfl⟩ : ∃ y : Nat, b = y := ⟨b.toNat, by omega⟩
          have E := Lib.hid (show belowV n T x y = T x y by simp [belowV, isLabel]; omega)
          obtain ⟨ad, A', C, rfl, _, hc, hl, hr⟩ := h.grid.at_ (r := x) (by omega)
          obtain ⟨a', rfl, _, hc'⟩ := hr y (by omega)
          clear hr h
          go_enter Try.func42, Try.ntmps42
          go_wp2
          go_ret
          exact ⟨ret_bool E.out.symm, rfl⟩
        · have E := Lib.hid (show belowV n T a b = false by simp [belowV, isLabel, h4])
          have d : decide (b < (n : Int)) = false := by simpa using h4
          clear h
          go_enter Try.func42, Try.ntmps42
          go_wp2
          go_ret
          exact ⟨ret_bool E.out.symm, rfl⟩
      · have E := Lib.hid (show belowV n T a b = false by simp [belowV, isLabel, h3])
        have d : decide (a < (n : Int)) = false := by simpa using h3
        clear h
        go_enter Try.func42, Try.ntmps42
        go_wp2
        go_ret
        exact ⟨ret_bool E.out.symm, rfl⟩
    · have E := Lib.hid (show belowV n T a b = false by simp [belowV, isLabel, h2])
      have d : decide (0 ≤ b) = false := by simpa using h2
      clear h
      go_enter Try.func42, Try.ntmps42
      go_wp2
      go_ret
      exact ⟨ret_bool E.out.symm, rfl⟩
  · have E := Lib.hid (show belowV n T a b = false by simp [belowV, isLabel, h1])
    have d : decide (0 ≤ a) = false := by simpa using h1
    clear h
    go_enter Try.func42, Try.ntmps42
    go_wp2
    go_ret
    exact ⟨ret_bool E.out.symm, rfl⟩

/-- What the document's loop looks at: S, and that all of S ahead of j is on x's side. -/
def refOk (S : Nat → Bool) (R : Nat → Nat → Bool) (x j : Nat) : Bool := S x && (List.range j).all fun y => !S y || R x y

theorem refOk_succ (S : Nat → Bool) (R : Nat → Nat → Bool) (x j : Nat) (h : refOk S R x j = true) : refOk S R x (j + 1) = (!S j || R x j) := by
  unfold refOk at *
  rw [Bool.and_eq_true] at h
  rw [List.range_succ, List.all_append, h.1, h.2]
  simp
theorem refOk_stays (S : Nat → Bool) (R : Nat → Nat → Bool) (x j n : Nat) (hj : j ≤ n) (h : refOk S R x j = false) : refOk S R x n = false := by
  unfold refOk at *
  cases hs : S x
  · rfl
  · rw [hs, Bool.true_and] at h
    rw [Bool.true_and, List.all_eq_false]
    rw [List.all_eq_false] at h
    obtain ⟨y, hy, hq⟩ := h
    exact ⟨y, List.mem_range.2 (by have := List.mem_range.1 hy; omega), hq⟩

def refS (n : Nat) (T : Nat → Nat → Bool) (a b : Int) (x : Nat) : Bool := belowV n T a x && belowV n T b x

theorem belowV_nat {n : Nat} {T : Nat → Nat → Bool} {x y : Nat} (hx : x < n) (hy : y < n) : belowV n T x y = T x y := by simp [belowV, isLabel]; omega

/-- The document's join is the program's. -/
theorem ref_first (n : Nat) (T : Nat → Nat → Bool) (a b : Int) : first n (fun x => refOk (refS n T a b) (fun x y => belowV n T x y) x n) = joinV n T a b := by
  unfold joinV
  cases h1 : isLabel n a
  · simp only [Bool.false_and, Bool.false_eq_true, if_false]
    exact first_none fun j hj => by simp [refOk, refS, belowV, h1]
  · cases h2 : isLabel n b
    · simp only [Bool.and_false, Bool.false_eq_true, if_false]
      exact first_none fun j hj => by simp [refOk, refS, belowV, h2]
    · obtain ⟨x, hx, rfl⟩ := isLabel_true h1
      obtain ⟨y, hy, rfl⟩ := isLabel_true h2
      simp only [Bool.and_true, if_true, Int.toNat_natCast]
      refine first_congr fun j hj => ?_
      have e : ∀ z, z < n → refS n T x y z = (T x z && T y z) := fun z hz => by rw [refS, belowV_nat hx hz, belowV_nat hy hz]
      simp only [refOk, onSide]
      rw [e j hj]
      congr 1
      rw [Bool.eq_iff_iff, List.all_eq_true, List.all_eq_true]
      constructor
      · intro h z hz
        have := h z hz
        rw [e z (List.mem_range.1 hz), belowV_nat hj (List.mem_range.1 hz)] at this
        exact this
      · intro h z hz
        rw [e z (List.mem_range.1 hz), belowV_nat hj (List.mem_range.1 hz)]
        exact h z hz

theorem belowV_flip (n : Nat) (T : Nat → Nat → Bool) (a b : Int) : belowV n (flipT T) a b = belowV n T b a := by
  simp only [belowV, flipT]
  rw [Bool.and_comm (isLabel n a)]

set_option maxHeartbeats 1600000 in
theorem refJoin_any (n cap B : Nat) (A : Option Addr) (T : Nat → Nat → Bool) (a b : Int) (w : World) (h : Sq w B A n T) :
    Calls Try.prog 35 #[.slice A n cap, .int .i64 a, .int .i64 b] w fun e w' => e = .returned (.int .i64 (joinV n T a b)) ∧ w = w' := by
  have hle := h.le
  have HR := Lib.hid (ref_first n T a b)
  have HB := Lib.hid (fun x y => refBelow_any n cap B A T x y w h)
  clear h
  generalize hS : refS n T a b = S at HR
  have HS := Lib.hid hS; clear hS
  go_enter Try.func35, Try.ntmps35
  go_wp2
  go_loop [7] (fun i => ∃ k : Nat, k ≤ n ∧ i = .int .i64 k ∧ ∀ j, j < k → refOk S (fun x y => belowV n T x y) j n = false) (fun i => n - (intOf i).toNat)
  case atStart => exact ⟨0, Nat.zero_le _, rfl, fun j hj => by omega⟩
  case round =>
    obtain ⟨k, hk, rfl, hno⟩ := hrel
    have HN := Lib.hid hno; clear hno
    by_cases hlt : k < n
    · have HS0 := Lib.hid (show refOk S (fun x y => belowV n T x y) k 0 = (belowV n T a k && belowV n T b k) by rw [← HS.out]; simp [refOk, refS])
      go_upto_region 4 with fail
      go_cut [8] (fun s8 wc => s8 = .bool (refOk S (fun x y => belowV n T x y) k 0) ∧ w = wc)
      case first =>
        go_wp2_with (go_at_call 42; refine (HB.out _ _).mono ?_; rintro e w' ⟨rfl, rfl⟩)
        all_goals (go_meet; refine ⟨?_, rfl⟩; rw [HS0.out]; simp [*])
      case rest =>
        obtain ⟨rfl, rfl⟩ := hcut
        clear HS0
        go_upto_block 2 with fail
        go_cut [8, 9] (fun s8 s9 wc => s8 = .bool (refOk S (fun x y => belowV n T x y) k n) ∧ w = wc)
        case first =>
          go_wp2
          go_loop [8, 9] (fun ok i => ∃ j : Nat, j ≤ n ∧ i = .int .i64 j ∧ ok = .bool (refOk S (fun x y => belowV n T x y) k j)) (fun _ i => n - (intOf i).toNat)
          case atStart => exact ⟨0, Nat.zero_le _, rfl, rfl⟩
          case round =>
            obtain ⟨j, hj, rfl, rfl⟩ := hrel
            by_cases hjt : j < n
            · cases hq : refOk S (fun x y => belowV n T x y) k j
              · have HQ := Lib.hid (refOk_stays _ _ _ _ _ hj hq); clear hq
                go_wp2
                go_meet
                exact ⟨by rw [HQ.out], rfl⟩
              · have HQ := Lib.hid ((refOk_succ _ _ _ _ hq).trans (show (!S j || belowV n T k j) = (!(belowV n T a j && belowV n T b j) || belowV n T k j) by rw [← HS.out]; rfl)); clear hq
                go_wp2_with (go_at_call 42; refine (HB.out _ _).mono ?_; rintro e w' ⟨rfl, rfl⟩)
                all_goals go_round
                all_goals first | (case measure => simp [intOf]; omega) | (case rel => exact ⟨j + 1, by omega, by go_num, by rw [HQ.out]; simp [*]⟩)
            · have hjn : j = n := by omega
              subst hjn
              go_wp2
              go_meet
              exact ⟨rfl, rfl⟩
        case rest =>
          obtain ⟨rfl, rfl⟩ := hcut
          cases hq : refOk S (fun x y => belowV n T x y) k n
          · have HQ := Lib.hid hq; clear hq
            go_wp2
            go_round
            case rel => exact ⟨k + 1, by omega, by go_num, fun j hj => by
              by_cases e : j = k
              · subst e; exact HQ.out
              · exact HN.out j (by omega)⟩
            case measure => simp [intOf]; omega
          · have HQ := Lib.hid hq; clear hq
            go_wp2
            go_ret
            exact ⟨ret_int (by rw [← HR.out]; exact (first_of hlt HQ.out HN.out).symm), rfl⟩
    · have hkn : k = n := by omega
      subst hkn
      go_wp2
      go_ret
      exact ⟨ret_int (by rw [← HR.out]; exact (first_none HN.out).symm), rfl⟩

set_option maxHeartbeats 1600000 in
theorem refMeet_any (n cap B : Nat) (A : Option Addr) (T : Nat → Nat → Bool) (a b : Int) (w : World) (h : Sq w B A n T) :
    Calls Try.prog 36 #[.slice A n cap, .int .i64 a, .int .i64 b] w fun e w' => e = .returned (.int .i64 (joinV n (flipT T) a b)) ∧ w = w' := by
  have hle := h.le
  have HR := Lib.hid (ref_first n (flipT T) a b)
  have HB := Lib.hid (fun x y => refBelow_any n cap B A T x y w h)
  clear h
  generalize hS : refS n (flipT T) a b = S at HR
  have HS := Lib.hid hS; clear hS
  go_enter Try.func36, Try.ntmps36
  go_wp2
  go_loop [7] (fun i => ∃ k : Nat, k ≤ n ∧ i = .int .i64 k ∧ ∀ j, j < k → refOk S (fun x y => belowV n (flipT T) x y) j n = false) (fun i => n - (intOf i).toNat)
  case atStart => exact ⟨0, Nat.zero_le _, rfl, fun j hj => by omega⟩
  case round =>
    obtain ⟨k, hk, rfl, hno⟩ := hrel
    have HN := Lib.hid hno; clear hno
    by_cases hlt : k < n
    · have HS0 := Lib.hid (show refOk S (fun x y => belowV n (flipT T) x y) k 0 = (belowV n T k a && belowV n T k b) by rw [← HS.out]; simp [refOk, refS, belowV_flip])
      go_upto_region 4 with fail
      go_cut [8] (fun s8 wc => s8 = .bool (refOk S (fun x y => belowV n (flipT T) x y) k 0) ∧ w = wc)
      case first =>
        go_wp2_with (go_at_call 42; refine (HB.out _ _).mono ?_; rintro e w' ⟨rfl, rfl⟩)
        all_goals (go_meet; refine ⟨?_, rfl⟩; rw [HS0.out]; simp [*])
      case rest =>
        obtain ⟨rfl, rfl⟩ := hcut
        clear HS0
        go_upto_block 2 with fail
        go_cut [8, 9] (fun s8 s9 wc => s8 = .bool (refOk S (fun x y => belowV n (flipT T) x y) k n) ∧ w = wc)
        case first =>
          go_wp2
          go_loop [8, 9] (fun ok i => ∃ j : Nat, j ≤ n ∧ i = .int .i64 j ∧ ok = .bool (refOk S (fun x y => belowV n (flipT T) x y) k j)) (fun _ i => n - (intOf i).toNat)
          case atStart => exact ⟨0, Nat.zero_le _, rfl, rfl⟩
          case round =>
            obtain ⟨j, hj, rfl, rfl⟩ := hrel
            by_cases hjt : j < n
            · cases hq : refOk S (fun x y => belowV n (flipT T) x y) k j
              · have HQ := Lib.hid (refOk_stays _ _ _ _ _ hj hq); clear hq
                go_wp2
                go_meet
                exact ⟨by rw [HQ.out], rfl⟩
              · have HQ := Lib.hid ((refOk_succ _ _ _ _ hq).trans (show (!S j || belowV n (flipT T) k j) = (!(belowV n T j a && belowV n T j b) || belowV n T j k) by rw [← HS.out]; simp [refS, belowV_flip])); clear hq
                go_wp2_with (go_at_call 42; refine (HB.out _ _).mono ?_; rintro e w' ⟨rfl, rfl⟩)
                all_goals go_round
                all_goals first | (case measure => simp [intOf]; omega) | (case rel => exact ⟨j + 1, by omega, by go_num, by rw [HQ.out]; simp [*]⟩)
            · have hjn : j = n := by omega
              subst hjn
              go_wp2
              go_meet
              exact ⟨rfl, rfl⟩
        case rest =>
          obtain ⟨rfl, rfl⟩ := hcut
          cases hq : refOk S (fun x y => belowV n (flipT T) x y) k n
          · have HQ := Lib.hid hq; clear hq
            go_wp2
            go_round
            case rel => exact ⟨k + 1, by omega, by go_num, fun j hj => by
              by_cases e : j = k
              · subst e; exact HQ.out
              · exact HN.out j (by omega)⟩
            case measure => simp [intOf]; omega
          · have HQ := Lib.hid hq; clear hq
            go_wp2
            go_ret
            exact ⟨ret_int (by rw [← HR.out]; exact (first_of hlt HQ.out HN.out).symm), rfl⟩
    · have hkn : k = n := by omega
      subst hkn
      go_wp2
      go_ret
      exact ⟨ret_int (by rw [← HR.out]; exact (first_none HN.out).symm), rfl⟩

end Go.Proofs.Ytjfonbkeamhnmaa
