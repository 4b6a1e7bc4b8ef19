/- Layer 1: Rank. -/
import Derived.Test.YtbknfbobidgkkaaDoorIdLD
namespace Go.Proofs.YtbknfbobidgkkaaDoor
open Go.RowKit Lat

/-- The order of ranks and sets. -/
def rankT (r : Nat) (a b : Nat) : Bool := decide (a % r ≤ b % r) && (bits .andNot .i64 ((a / r : Nat) : Int) ((b / r : Nat) : Int) == 0)

theorem wrap_div (x r : Nat) (hx : x < 64) : IntKind.i64.wrap ((x : Int) / (r : Int)) = ((x / r : Nat) : Int) := by
  have h : x / r ≤ x := Nat.div_le_self _ _
  rw [← Int.natCast_ediv]
  generalize x / r = q at h
  exact IntWalk.i64_in _ (by omega)

set_option maxHeartbeats 1000000 in
theorem rankfn_any (p r x y : Nat) (w : World) (hr : 1 ≤ r) (hr' : r ≤ 64) (hx : x < 64) (hy : y < 64) (hp : w.cell? ⟨p, 0, none⟩ = some (.int .i64 r)) :
    Calls Tryd.prog 27 #[.int .i64 x, .int .i64 y, .pointer (some ⟨p, 0, none⟩)] w fun e w' => e = .returned (.bool (rankT r x y)) ∧ ∃ k, w' = w.drewN k := by
  have hne : ((r : Int) == 0) = false := by simp; omega
  have hne' : ¬ r = 0 := by omega
  have hm1 : ¬ (r : Int) = -1 := by omega
  by_cases hle : x % r ≤ y % r
  · have E := Lib.hid (show rankT r x y = (bits .andNot .i64 ((x / r : Nat) : Int) ((y / r : Nat) : Int) == 0) by simp [rankT, hle])
    have hd : decide ((x : Int).tmod r ≤ (y : Int).tmod r) = true := by simp [Int.tmod_eq_emod_of_nonneg]; omega
    clear hle
    go_enter Tryd.func27, Tryd.ntmps27
    go_wp2
    go_quiet (fail)
    go_wp2
    go_ret
    exact ⟨ret_bool (by rw [wrap_div x r hx, wrap_div y r hy]; exact E.out.symm), _, rfl⟩
  · have E := Lib.hid (show rankT r x y = false by simp [rankT, hle])
    have hd : decide ((x : Int).tmod r ≤ (y : Int).tmod r) = false := by simp [Int.tmod_eq_emod_of_nonneg]; omega
    have hd2 : decide ((x : Int) % r ≤ (y : Int) % r) = false := by simp; omega
    clear hle
    go_enter Tryd.func27, Tryd.ntmps27
    go_wp2
    go_quiet (fail)
    go_wp2
    go_ret
    exact ⟨ret_bool E.out.symm, _, rfl⟩

/-- What Rank takes. -/
def rankOk (ranks sets : Int) : Prop := 1 ≤ ranks ∧ ranks ≤ 64 ∧ 0 ≤ sets ∧ sets ≤ 6 ∧ ranks * 2 ^ sets.toNat ≤ 64

def RankPost (w : World) (ranks sets : Int) (e : Ending) (w' : World) : Prop :=
  Below w.heap.size w w' ∧ ((¬ rankOk ranks sets ∧ e = .returned (.tuple #[.pointer none, .int .i64 1])) ∨
    (rankOk ranks sets ∧ ∃ lb, e = .returned (.tuple #[.pointer (some ⟨lb, 0, none⟩), .int .i64 0]) ∧ w.heap.size ≤ lb ∧ IsLat w' lb (ranks.toNat * 2 ^ sets.toNat) (rankT ranks.toNat)))

theorem RankPost.err {w w' : World} {ranks sets : Int} (hb : Below w.heap.size w w') (h : ¬ rankOk ranks sets) : RankPost w ranks sets (.returned (.tuple #[.pointer none, .int .i64 1])) w' := ⟨hb, Or.inl ⟨h, rfl⟩⟩

theorem rank_enters (args : Array Value) (W : World) : (callFunc 27 args).run Tryd.prog W = .ok (.enter 27 args) W :=
  enters_of Tryd.func27 (by kernel_rfl) rfl args W

theorem rank_bad (ranks sets : Int) (w : World) (h : ranks < 1 ∨ 64 < ranks ∨ sets < 0 ∨ 6 < sets) : Calls Tryd.prog 14 #[.int .i64 ranks, .int .i64 sets] w (RankPost w ranks sets) := by
  have HN := Lib.hid (show ¬ rankOk ranks sets by intro hh; obtain ⟨h1, h2, h3, h4, _⟩ := hh; omega)
  by_cases h1 : ranks < 1
  · clear h
    go_enter Tryd.func14, Tryd.ntmps14
    go_wp2
    go_ret2
    exact RankPost.err ((Below.refl _ w).alloc (Nat.le_refl _) _) HN.out
  have d1 : decide (ranks < 1) = false := by simpa using h1
  by_cases h2 : 64 < ranks
  · clear h
    go_enter Tryd.func14, Tryd.ntmps14
    go_wp2
    go_ret2
    exact RankPost.err ((Below.refl _ w).alloc (Nat.le_refl _) _) HN.out
  have d2 : decide (64 < ranks) = false := by simpa using h2
  by_cases h3 : sets < 0
  · clear h
    go_enter Tryd.func14, Tryd.ntmps14
    go_wp2
    go_ret2
    exact RankPost.err ((Below.refl _ w).alloc (Nat.le_refl _) _) HN.out
  have d3 : decide (sets < 0) = false := by simpa using h3
  have h4 : 6 < sets := by omega
  clear h
  go_enter Tryd.func14, Tryd.ntmps14
  go_wp2
  go_ret2
  exact RankPost.err ((Below.refl _ w).alloc (Nat.le_refl _) _) HN.out

theorem shl_eq (r s : Nat) (hr : r ≤ 64) (hs : s ≤ 6) : IntKind.i64.wrap ((r : Int) * 2 ^ s) = ((r * 2 ^ s : Nat) : Int) ∧ r * 2 ^ s ≤ 4096 := by
  have h : 2 ^ s ≤ 2 ^ 6 := Nat.pow_le_pow_right (by omega) hs
  have h2 : r * 2 ^ s ≤ 64 * 2 ^ 6 := Nat.mul_le_mul hr h
  refine ⟨?_, by omega⟩
  rw [show ((r : Int) * 2 ^ s) = ((r * 2 ^ s : Nat) : Int) by simp]
  generalize r * 2 ^ s = q at h2
  exact IntWalk.i64_in _ (by omega)

theorem rank_any (ranks sets : Int) (w : World) : Calls Tryd.prog 14 #[.int .i64 ranks, .int .i64 sets] w (RankPost w ranks sets) := by
  by_cases h : ranks < 1 ∨ 64 < ranks ∨ sets < 0 ∨ 6 < sets
  · exact rank_bad ranks sets w h
  obtain ⟨r, rfl⟩ : ∃ r : Nat, ranks = r := ⟨ranks.toNat, by omega⟩
  obtain ⟨s, rfl⟩ : ∃ s : Nat, sets = s := ⟨sets.toNat, by omega⟩
  have h1 : 1 ≤ r := by omega
  have h2 : r ≤ 64 := by omega
  have h3 : s ≤ 6 := by omega
  have d1 : decide ((r : Int) < 1) = false := by simp; omega
  have d2 : decide (64 < (r : Int)) = false := by simp; omega
  have d3 : decide ((s : Int) < 0) = false := by simp
  have d4 : decide (6 < (s : Int)) = false := by simp; omega
  clear h
  obtain ⟨n, hn⟩ : ∃ n, n = r * 2 ^ s := ⟨_, rfl⟩
  have hsh := (shl_eq r s h2 h3).1
  rw [← hn] at hsh
  have hpos : 1 ≤ n := by rw [hn]; exact Nat.mul_le_mul h1 (Nat.one_le_two_pow)
  have hbig : n ≤ 4096 := by rw [hn]; exact (shl_eq r s h2 h3).2
  have hmf : ∀ (fn : Fn) (first cap : Array Value) (w : World), (Instr.makeFunc fn first cap).run Tryd.prog w = .ok (.func fn first cap) w := fun _ _ _ _ => rfl
  have hcast : ((r : Int) * 2 ^ s) = (n : Int) := by rw [hn]; simp
  have HC := Lib.hid hcast
  have HN := Lib.hid hn
  clear hcast hn
  by_cases hb : 64 < n
  · have HN := Lib.hid (show ¬ rankOk r s by
      intro hh
      obtain ⟨_, _, _, _, h5⟩ := hh
      simp only [Int.toNat_natCast] at h5
      rw [HC.out] at h5
      omega)
    go_enter Tryd.func14, Tryd.ntmps14
    go_wp2
    go_ret2
    exact RankPost.err ((Below.refl _ w).alloc (Nat.le_refl _) _) HN.out
  · have d5 : decide (64 < (n : Int)) = false := by simp; omega
    have HO := Lib.hid (ordered_any n w.heap.size 27 (rankT r) (w.alloc (.cells #[.int .i64 r] 3)) (by omega) hpos rank_enters (fun W x y hx hy hB => by
      refine rankfn_any w.heap.size r x y W h1 h2 (by omega) (by omega) ?_
      rw [hB.cell (by simp)]; simp))
    have HK := Lib.hid (show rankOk r s from ⟨by omega, by omega, by omega, by omega, by simp only [Int.toNat_natCast]; rw [HC.out]; omega⟩)
    go_enter Tryd.func14, Tryd.ntmps14
    go_wp2_with fail
    refine HO.out.mono ?_
    rintro e w1 ⟨lb, rfl, hlb, hIs, hB⟩
    have hI := Lib.hid hIs
    have HB := Lib.hid ((((Below.refl w.heap.size w).alloc (Nat.le_refl _) (.cells #[.int .i64 r] 3))).trans (hB.mono (by simp)))
    clear hIs hB
    go_wp2
    go_ret2
    exact ⟨HB.out, Or.inr ⟨HK.out, lb, rfl, Nat.le_trans (by simp) hlb, by simp only [Int.toNat_natCast]; rw [← HN.out]; exact hI.out⟩⟩
end Go.Proofs.YtbknfbobidgkkaaDoor
