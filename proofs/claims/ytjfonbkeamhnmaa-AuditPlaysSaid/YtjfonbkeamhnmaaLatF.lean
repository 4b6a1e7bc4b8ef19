/- Layer 1: New. -/
import Derived.Test.YtjfonbkeamhnmaaLatC
import Derived.Test.YtjfonbkeamhnmaaLatE2
namespace Go.Proofs.Ytjfonbkeamhnmaa
open Go.RowKit Lat

/-- All rows have as many columns as there are rows. -/
def square (n : Nat) (L : Nat → Nat) : Bool := (List.range n).all fun r => L r == n
/-- What New answers: the error's number, 0 for none. -/
def newErr (n : Nat) (L : Nat → Nat) (T : Nat → Nat → Bool) : Int := if n < 1 ∨ 64 < n then 3 else if square n L = false then 8 else if (orderT n T && boundedT n T) = false then 1 else 0

theorem err_form {n : Nat} {L : Nat → Nat} (T : Nat → Nat → Bool) {k : Nat} (hn : ¬ (n < 1 ∨ 64 < n)) (hk : k < n) (hL : ¬ L k = n) : newErr n L T = 8 := by
  have hs : square n L = false := all_range_false hk (by simp [hL])
  rw [newErr, if_neg hn, if_pos hs]
theorem err_arg {n : Nat} {L : Nat → Nat} {T : Nat → Nat → Bool} (hn : ¬ (n < 1 ∨ 64 < n)) (hs : square n L = true) (ho : (orderT n T && boundedT n T) = false) : newErr n L T = 1 := by
  rw [newErr, if_neg hn, if_neg (by rw [hs]; simp), if_pos ho]
theorem err_ok {n : Nat} {L : Nat → Nat} {T : Nat → Nat → Bool} (hn : ¬ (n < 1 ∨ 64 < n)) (hs : square n L = true) (ho : orderT n T = true) (hb : boundedT n T = true) : newErr n L T = 0 := by
  rw [newErr, if_neg hn, if_neg (by rw [hs]; simp), if_neg (by rw [ho, hb]; simp)]

def NewPost (w : World) (n : Nat) (L : Nat → Nat) (T : Nat → Nat → Bool) (e : Ending) (w' : World) : Prop :=
  Below w.heap.size w w' ∧ ((newErr n L T ≠ 0 ∧ e = .returned (.tuple #[.pointer none, .int .i64 (newErr n L T)])) ∨
    (newErr n L T = 0 ∧ ∃ lb, e = .returned (.tuple #[.pointer (some ⟨lb, 0, none⟩), .int .i64 0]) ∧ w.heap.size ≤ lb ∧ IsLat w' lb n T))

theorem NewPost.err {w w' : World} {n : Nat} {L : Nat → Nat} {T : Nat → Nat → Bool} {c : Int} (hb : Below w.heap.size w w') (h : newErr n L T = c) (hc : c ≠ 0) : NewPost w n L T (.returned (.tuple #[.pointer none, .int .i64 c])) w' :=
  ⟨hb, Or.inl ⟨by rw [h]; exact hc, by rw [h]⟩⟩

theorem new_long (n cap : Nat) (A : Option Addr) (L : Nat → Nat) (T : Nat → Nat → Bool) (w : World) (hn : n < 1 ∨ 64 < n) (hm : n ≤ 9223372036854775807) :
    Calls Try.prog 16 #[.slice A n cap] w (NewPost w n L T) := by
  have E := Lib.hid (show newErr n L T = 3 by rw [newErr, if_pos hn])
  rcases hn with hn | hn
  · go_enter Try.func16, Try.ntmps16
    go_wp2
    go_ret2
    exact NewPost.err ((Below.refl _ w).alloc (Nat.le_refl _) _) E.out (by decide)
  · have hd : decide ((n : Int) < 1) = false := by simp; omega
    go_enter Try.func16, Try.ntmps16
    go_wp2
    go_ret2
    exact NewPost.err ((Below.refl _ w).alloc (Nat.le_refl _) _) E.out (by decide)

theorem new_any (n cap : Nat) (A : Option Addr) (L : Nat → Nat) (T : Nat → Nat → Bool) (w : World) (hG : Grid w w.heap.size A n L T) (hm : n ≤ 9223372036854775807) :
    Calls Try.prog 16 #[.slice A n cap] w (NewPost w n L T) := by
  by_cases hn : n < 1 ∨ 64 < n
  · exact new_long n cap A L T w hn hm
  have h1 : 1 ≤ n := by omega
  have h2 : n ≤ 64 := by omega
  have d1 : decide ((n : Int) < 1) = false := by simp; omega
  have d2 : decide (64 < (n : Int)) = false := by simp; omega
  have HN := Lib.hid hn
  clear hn
  obtain ⟨a, rfl, ha, hr⟩ := hG (by omega)
  have HR := Lib.hid hr
  have HG := Lib.hid hG
  clear hr hG
  go_enter Try.func16, Try.ntmps16
  go_wp2
  go_loop [18] (fun i => ∃ k : Nat, k ≤ n ∧ i = .int .i64 k ∧ ∀ r, r < k → (L r == n) = true) (fun i => n - (intOf i).toNat)
  case atStart => exact ⟨0, Nat.zero_le _, rfl, fun j hj => by omega⟩
  case round =>
    obtain ⟨k, hk, rfl, hno⟩ := hrel
    have HK := Lib.hid hno; clear hno
    by_cases hlt : k < n
    · obtain ⟨A', C, hc, hl, _⟩ := HR.out k hlt
      have hc1 : (w.alloc (.cells #[.slice (some a) n cap] 36)).cell? (a.add k) = some (.slice A' (L k) C) := by
        rw [World.cell?_alloc_lt _ _ _ (by rw [add_block]; exact ha)]; exact hc
      clear hc
      by_cases hL : L k = n
      · have hd : ((L k : Int) != (n : Int)) = false := by simp [hL]
        have HL := Lib.hid hL; clear hL
        go_wp2
        go_round
        case rel => exact ⟨k + 1, by omega, by go_num, fun r hr => by
          by_cases e : r = k
          · subst e; simp [HL.out]
          · exact HK.out r (by omega)⟩
        case measure => simp [intOf]; omega
      · have hd : ((L k : Int) != (n : Int)) = true := by simp; omega
        have E := Lib.hid (err_form T HN.out hlt hL)
        clear hL
        go_wp2
        go_ret2
        exact NewPost.err ((Below.refl _ w).alloc (Nat.le_refl _) _) E.out (by decide)
    · have hkn : k = n := by omega
      subst hkn
      have HS := Lib.hid (show square k L = true from all_range_true HK.out)
      have HSq := Lib.hid (show ∀ r, r < k → L r = k from fun r hr => by simpa using HK.out r hr)
      have hmf : ∀ (fn : Fn) (first cap : Array Value) (w : World), (Instr.makeFunc fn first cap).run Try.prog w = .ok (.func fn first cap) w := fun _ _ _ _ => rfl
      have HO := Lib.hid (ordered_any k w.heap.size 38 T (w.alloc (.cells #[.slice (some a) k cap] 36)) h2 h1 table_enters (fun W x y hx hy hB => by
        refine (table_any w.heap.size (some a) w.heap.size k cap x y L T W ?_ ?_ hx (by rw [HSq.out x hx]; exact hy)).mono (fun _ _ hh => ⟨hh.1, 0, hh.2.symm⟩)
        · rw [hB.cell (by simp)]; simp
        · exact (HG.out.keep fun p hp => World.cell?_alloc_lt w _ p hp).below (hB.mono (by simp))))
      go_wp2_with fail
      refine HO.out.mono ?_
      rintro e w1 ⟨lb, rfl, hlb, hIs, hB⟩
      have hI := Lib.hid hIs
      have HB := Lib.hid ((((Below.refl w.heap.size w).alloc (Nat.le_refl _) (.cells #[.slice (some a) k cap] 36))).trans (hB.mono (by simp)))
      clear hIs hB
      cases ho : orderT k T
      · have E := Lib.hid (err_arg (L := L) HN.out HS.out (by rw [ho]; rfl))
        go_wp2_with fail
        refine (isOrder_any lb k T _ hI.out).mono ?_
        rw [ho]
        clear ho
        rintro e w2 ⟨rfl, q, rfl⟩
        go_wp2
        go_ret2
        exact NewPost.err (below_drew HB.out _) E.out (by decide)
      · have HO1 := Lib.hid ho; clear ho
        go_wp2_with fail
        refine (isOrder_any lb k T _ hI.out).mono ?_
        rw [HO1.out]
        rintro e w2 ⟨rfl, q, rfl⟩
        go_wp2_with fail
        refine (hasBounds_any lb k T _ (hI.out.drewN q)).mono ?_
        cases hb : boundedT k T
        · have E := Lib.hid (err_arg (L := L) HN.out HS.out (by rw [HO1.out, hb]; rfl))
          clear hb
          rintro e w2 ⟨rfl, q', rfl⟩
          go_wp2
          go_ret2
          exact NewPost.err (below_drew HB.out _) E.out (by decide)
        · have E := Lib.hid (err_ok (L := L) HN.out HS.out HO1.out hb)
          clear hb
          rintro e w2 ⟨rfl, q', rfl⟩
          go_wp2
          go_ret2
          exact ⟨below_drew HB.out _, Or.inr ⟨E.out, lb, rfl, Nat.le_trans (by simp) hlb, hI.out.drewN _⟩⟩
end Go.Proofs.Ytjfonbkeamhnmaa
