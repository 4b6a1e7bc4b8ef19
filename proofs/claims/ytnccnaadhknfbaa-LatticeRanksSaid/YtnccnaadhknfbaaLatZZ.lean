/- Layer 1: LatticeRanks' walk. -/
import Derived.Test.YtnccnaadhknfbaaLatZ
namespace Go.Proofs.Ytnccnaadhknfbaa
open Go.RowKit Lat

theorem rankOk_cases (ranks sets : Int) : (ranks < 1 ∨ 64 < ranks ∨ sets < 0 ∨ 6 < sets) ∨ ∃ r s : Nat, ranks = r ∧ sets = s ∧ 1 ≤ r ∧ r ≤ 64 ∧ s ≤ 6 := by
  by_cases h : ranks < 1 ∨ 64 < ranks ∨ sets < 0 ∨ 6 < sets
  · exact Or.inl h
  · exact Or.inr ⟨ranks.toNat, sets.toNat, by omega, by omega, by omega, by omega, by omega⟩

theorem rankOk_nat {r s : Nat} (h1 : 1 ≤ r) (h2 : r ≤ 64) (h3 : s ≤ 6) : rankOk r s ↔ r * 2 ^ s ≤ 64 := by
  have e : ((r : Int) * 2 ^ s) = ((r * 2 ^ s : Nat) : Int) := by simp
  unfold rankOk
  simp only [Int.toNat_natCast]
  rw [e]
  generalize r * 2 ^ s = q
  omega

/-- The document's Rank where there is no lattice. -/
theorem refRank_none (ranks sets : Int) (w : World) (h : ¬ rankOk ranks sets) : Calls Try.prog 20 #[.int .i64 ranks, .int .i64 sets] w fun e w' => e = .returned (.slice none 0 0) ∧ w = w' := by
  rcases rankOk_cases ranks sets with hb | ⟨r, s, rfl, rfl, h1, h2, h3⟩
  · exact refRank_bad ranks sets w hb
  · refine (refRank_any r s w h1 h2 h3).mono fun e w' hh => ?_
    rcases hh with ⟨_, h4, h5⟩ | ⟨h4, _⟩
    · exact ⟨h4, h5⟩
    · exact absurd ((rankOk_nat h1 h2 h3).2 h4) h

set_option maxHeartbeats 1600000 in
theorem ranks_any (ranks sets a b : Int) (w : World) :
    Calls Try.prog 5 #[.int .i64 ranks, .int .i64 sets, .int .i64 a, .int .i64 b] w fun e w' => e = .returned (.bool true) ∧ Below w.heap.size w w' := by
  go_enter Try.func5, Try.ntmps5
  go_wp2_with fail
  refine (awake_any w).mono ?_
  rintro e w1 ⟨rfl, hB⟩
  have HB1 := Lib.hid hB
  clear hB
  go_wp2_with fail
  refine (rank_any ranks sets w1).mono ?_
  rintro e w2 ⟨hB2, ⟨hno, rfl⟩ | ⟨hok, lb, rfl, hlb, hI⟩⟩
  · have HB2 := Lib.hid (HB1.out.trans (hB2.mono HB1.out.size))
    have HNO := Lib.hid hno
    clear hB2 hno
    go_wp2_with fail
    refine (refRank_none ranks sets _ HNO.out).mono ?_
    rintro e w' ⟨rfl, rfl⟩
    go_wp2
    go_ret
    exact ⟨rfl, HB2.out⟩
  · rcases rankOk_cases ranks sets with hb | ⟨r, s, rfl, rfl, h1, h2, h3⟩
    · obtain ⟨q1, q2, q3, q4, _⟩ := hok
      omega
    have hq := (rankOk_nat h1 h2 h3).1 hok
    have HB2 := Lib.hid (HB1.out.trans (hB2.mono HB1.out.size))
    have HLB := Lib.hid (Nat.le_trans HB1.out.size hlb)
    have HI := Lib.hid (show IsLat w2 lb (r * 2 ^ s) (rankT r) from hI)
    have HLT := Lib.hid HI.out.lt
    have hpos : 1 ≤ r * 2 ^ s := Nat.mul_le_mul h1 Nat.one_le_two_pow
    have HR := Lib.hid (refRank_any r s w2 h1 h2 h3)
    unfold RefRankPost at HR
    clear hB2 hlb hI hok
    generalize r * 2 ^ s = n at *
    go_wp2_with fail
    refine HR.out.mono ?_
    rintro e w3 (⟨hbad, _⟩ | ⟨_, A, cap, rfl, hB3, hG⟩)
    · omega
    · have HT := Lib.hid (tells_any lb n cap A (rankT r) a b w3 (HI.out.below hB3 (Nat.le_refl _)) (hG.sq (by omega) HLT.out))
      have HB3 := Lib.hid (HB2.out.trans (hB3.mono HB2.out.size))
      have hn0 : ((n : Int) == 0) = false := by simp; omega
      clear hB3 hG
      go_wp2_with fail
      refine HT.out.mono ?_
      rintro e w4 ⟨rfl, hk⟩
      have HB4 := Lib.hid (HB3.out.trans (hk.below HLB.out HB3.out.size))
      clear hk
      go_wp2
      go_ret
      exact ⟨rfl, HB4.out⟩
end Go.Proofs.Ytnccnaadhknfbaa
