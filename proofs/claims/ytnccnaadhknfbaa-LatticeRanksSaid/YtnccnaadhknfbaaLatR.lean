/- Layer 1: tells: a lattice beside the document's answers of its table. -/
import Derived.Test.YtnccnaadhknfbaaLatQ
namespace Go.Proofs.Ytnccnaadhknfbaa
open Go.RowKit Lat

/-- The labels ahead of j that are below a. -/
def dn (n : Nat) (T : Nat → Nat → Bool) (a : Int) (j : Nat) : List Nat := (List.range j).filter fun c => belowV n T c a

theorem dn_succ (n : Nat) (T : Nat → Nat → Bool) (a : Int) (j : Nat) : dn n T a (j + 1) = dn n T a j ++ if belowV n T j a then [j] else [] := by
  unfold dn
  rw [List.range_succ, List.filter_append]
  cases h : belowV n T j a <;> simp [h]
theorem dn_prefix (n : Nat) (T : Nat → Nat → Bool) (a : Int) (j m : Nat) (h : j ≤ m) : ∃ r, dn n T a m = dn n T a j ++ r := by
  induction m with
  | zero => exact ⟨[], by rw [show j = 0 from by omega]; simp⟩
  | succ m ih =>
    by_cases e : j = m + 1
    · exact ⟨[], by rw [e]; simp⟩
    · obtain ⟨r, hr⟩ := ih (by omega)
      exact ⟨r ++ if belowV n T m a then [m] else [], by rw [dn_succ, hr, List.append_assoc]⟩
theorem dn_at {n : Nat} {T : Nat → Nat → Bool} {a : Int} {j : Nat} (hj : j < n) (h : belowV n T j a = true) : (dn n T a j).length < (dn n T a n).length ∧ (dn n T a n).getD (dn n T a j).length 0 = j := by
  obtain ⟨r, hr⟩ := dn_prefix n T a (j + 1) n hj
  rw [dn_succ, h] at hr
  rw [hr]
  simp

theorem dn_label {n : Nat} {T : Nat → Nat → Bool} {x : Nat} (hx : x < n) : dn n T x n = downs T x n := by
  unfold dn downs
  refine List.filter_congr fun c hc => ?_
  exact belowV_nat (List.mem_range.1 hc) hx
theorem dn_none {n : Nat} {T : Nat → Nat → Bool} {a : Int} (h : isLabel n a = false) (j : Nat) : dn n T a j = [] := by
  unfold dn
  rw [List.filter_eq_nil_iff]
  intro c _
  simp [belowV, h]

theorem downset_all (lb n : Nat) (T : Nat → Nat → Bool) (a : Int) (w : World) (h : IsLat w lb n T) :
    Calls Try.prog 22 #[.pointer (some ⟨lb, 0, none⟩), .int .i64 a] w fun e w' => ∃ v, e = .returned v ∧ OwnInts w' w.heap.size v (dn n T a n) ∧ Below w.heap.size w w' := by
  cases h1 : isLabel n a
  · refine (downset_none lb n T a w h h1).mono fun e w' ⟨he, hw⟩ => ⟨_, he, ?_, by rw [← hw]; exact Below.refl _ _⟩
    rw [dn_none h1]
    exact ⟨rfl, Or.inl ⟨rfl, rfl⟩⟩
  · obtain ⟨x, hx, rfl⟩ := isLabel_true h1
    refine (downset_any lb n T x w h hx).mono fun e w' ⟨v, he, ho, hb⟩ => ⟨v, he, ?_, hb⟩
    rw [dn_label hx]
    exact ho

set_option maxHeartbeats 1600000 in
theorem tells_any (lb n cap : Nat) (A : Option Addr) (T : Nat → Nat → Bool) (a b : Int) (w : World) (hI : IsLat w lb n T) (hS : ∀ w', Keeps lb w w' → Sq w' w.heap.size A n T) :
    Calls Try.prog 19 #[.pointer (some ⟨lb, 0, none⟩), .slice A n cap, .int .i64 a, .int .i64 b] w fun e w' => e = .returned (.bool true) ∧ Keeps lb w w' := by
  have hle := (hS w (Keeps.refl _ _)).le
  have HI := Lib.hid hI
  have HS := Lib.hid hS
  clear hI hS
  go_enter Try.func19, Try.ntmps19
  go_wp2_with fail
  refine (downset_all lb n T a w HI.out).mono ?_
  rintro e w1 ⟨v, rfl, ho, hB⟩
  obtain ⟨A1, c1, rfl, hcell⟩ := own_shape ho
  have HC := Lib.hid hcell
  have HI1 := Lib.hid (HI.out.below hB (Nat.le_refl _))
  have HK1 := Lib.hid (Keeps.of_below (x := lb) hB)
  have HB := Lib.hid (fun x y => refBelow_any n cap w.heap.size A T x y w1 (HS.out w1 HK1.out))
  have HJ := Lib.hid (fun w' (hk : Keeps lb w w') => refJoin_any n cap w.heap.size A T a b w' (HS.out w' hk))
  have HM := Lib.hid (fun w' (hk : Keeps lb w w') => refMeet_any n cap w.heap.size A T a b w' (HS.out w' hk))
  have hdl : (dn n T a n).length ≤ n := by unfold dn; exact Nat.le_trans (List.length_filter_le _ _) (by simp)
  clear ho hB hcell HI
  generalize hlen : (dn n T a n).length = len at *
  have HL := Lib.hid hlen
  clear hlen
  go_wp2
  go_loop [10, 11] (fun s i => ∃ j : Nat, j ≤ n ∧ i = .int .i64 j ∧ s = .int .i64 (dn n T a j).length) (fun _ i => n - (intOf i).toNat)
  case atStart => exact ⟨0, Nat.zero_le _, rfl, rfl⟩
  case round =>
    obtain ⟨j, hj, rfl, rfl⟩ := hrel
    by_cases hjt : j < n
    · cases hb : belowV n T j a
      · have E := Lib.hid (show dn n T a (j + 1) = dn n T a j by rw [dn_succ, hb]; simp)
        go_wp2_with (go_at_call 35; refine (HB.out _ _).mono ?_; rw [hb]; rintro e w' ⟨rfl, rfl⟩)
        go_round
        case rel => exact ⟨j + 1, by omega, by go_num, by rw [E.out]⟩
        case measure => simp [intOf]; omega
      · have E := Lib.hid (show (dn n T a (j + 1)).length = (dn n T a j).length + 1 by rw [dn_succ, hb]; simp)
        obtain ⟨q1, q2⟩ := dn_at hjt hb
        rw [HL.out] at q1
        obtain ⟨g, rfl, _, hc⟩ := HC.out _ q1
        rw [q2] at hc
        have HQ := Lib.hid q2
        have d1 : decide (len ≤ (dn n T a j).length) = false := by simp; omega
        clear q2
        go_wp2_with (go_at_call 35; refine (HB.out _ _).mono ?_; rw [hb]; rintro e w' ⟨rfl, rfl⟩)
        go_round
        case rel => exact ⟨j + 1, by omega, by go_num, by rw [E.out]; go_num⟩
        case measure => simp [intOf]; omega
    · have hjn : j = n := by omega
      subst hjn
      rw [HL.out]
      go_wp2_with (first | (go_at_call 12; refine (len_any lb j T _ HI1.out).mono ?_; rintro e w' ⟨rfl, rfl⟩) | (go_at_call 21; refine (below_any lb j T a b _ HI1.out).mono ?_; rintro e w' ⟨rfl, rfl⟩) | (go_at_call 35; refine (HB.out _ _).mono ?_; rintro e w' ⟨rfl, rfl⟩))
      refine (join_any lb j T a b _ HI1.out).mono ?_
      rintro e w2 ⟨rfl, hI, hK⟩
      have HI2 := Lib.hid hI
      have HK2 := Lib.hid (HK1.out.trans hK)
      clear hI hK
      go_wp2_with fail
      refine (HJ.out _ HK2.out).mono ?_
      rintro e w' ⟨rfl, rfl⟩
      go_wp2_with fail
      refine (meet_any lb j T a b _ HI2.out).mono ?_
      rintro e w3 ⟨rfl, hI, hK⟩
      have HK3 := Lib.hid (HK2.out.trans hK)
      clear hI hK
      go_wp2_with fail
      refine (HM.out _ HK3.out).mono ?_
      rintro e w' ⟨rfl, rfl⟩
      go_wp2
      go_ret
      exact ⟨rfl, HK3.out⟩
end Go.Proofs.Ytnccnaadhknfbaa
