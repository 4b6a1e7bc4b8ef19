/- Layer 11: the program's part, in place. -/
import Derived.Test.YthpnmhllgjibgaaRwPb
set_option linter.unusedVariables false
namespace Go.Proofs.Ythpnmhllgjibgaa.Rw
open Go.RowKit

theorem own_k {w : World} {base g k c : Nat} {l : List Ce} (h : OwnC w base (.slice (some ⟨g, 0, none⟩) k c) l) : k = l.length ∧ k ≤ c ∧ c ≤ 9223372036854775807 ∧ g < w.heap.size ∧ base ≤ g := by
  obtain ⟨h1, _, ⟨h2, h3⟩, _⟩ := (own_lies h).row
  exact ⟨h1, by omega, h3, own_lt h g rfl, own_ge h g rfl⟩

def PartPost (w : World) (base g k c : Nat) (l : List Ce) (e : Ending) (w' : World) : Prop := e = .returned (.tuple #[]) ∧ OwnC w' base (.slice (some ⟨g, 0, none⟩) k c) l ∧ Turns g w w'

set_option maxRecDepth 100000 in
set_option maxHeartbeats 2000000 in
theorem pin_no {w : World} {base g k c : Nat} {l : List Ce} (hO : OwnC w base (.slice (some ⟨g, 0, none⟩) k c) l) (hk : k ≤ 100000) (x : Int) (hx : x < 1 ∨ (k : Int) ≤ x ∨ wideV l x.toNat ≠ 2) :
    Calls Try.prog 27 #[.slice (some ⟨g, 0, none⟩) k c, .int .i64 x] w (PartPost w base g k c l) := by
  have HO := Lib.hid hO
  by_cases h1 : x < 1
  · have g1 : decide (x < 1) = true := by simpa using h1
    clear hO hx
    go_enter Try.func27, Try.ntmps27
    go_wp2
    refine bodyPost_ret (results_none rfl _ _ _) rfl ?_
    exact ⟨rfl, HO.out, Turns.refl _ _⟩
  have g1 : decide (x < 1) = false := by simpa using h1
  by_cases h2 : (k : Int) ≤ x
  · have g2 : decide (x ≥ (k : Int)) = true := by simpa using h2
    clear hO hx
    go_enter Try.func27, Try.ntmps27
    go_wp2
    refine bodyPost_ret (results_none rfl _ _ _) rfl ?_
    exact ⟨rfl, HO.out, Turns.refl _ _⟩
  have g2 : decide (x ≥ (k : Int)) = false := by simp; omega
  have hw := (hx.resolve_left h1).resolve_left h2
  obtain ⟨y, rfl⟩ : ∃ y : Nat, x = (y : Int) := ⟨x.toNat, by omega⟩
  rw [Int.toNat_natCast] at hw
  obtain ⟨hkl, -⟩ := own_k hO
  obtain ⟨b, o, e, hb, -, k1, -⟩ := (own_row hO).at_ (k := y) (by omega)
  cases e
  have i1 := idx_cell g 0 k c y (by omega)
  have k1 : w.cell? ⟨g, 0 + y * 7 + 1, none⟩ = some (.int .u8 (wideV l y : Int)) := k1
  have g3 : ((wideV l y : Int) != 2) = true := by simp; omega
  rw [Nat.zero_add] at i1 k1
  generalize (wideV l y : Int) = z at *
  clear hO hx hw hkl
  go_enter Try.func27, Try.ntmps27
  go_wp2
  refine bodyPost_ret (results_none rfl _ _ _) rfl ?_
  exact ⟨rfl, HO.out, Turns.refl _ _⟩

set_option maxRecDepth 100000 in
set_option maxHeartbeats 2000000 in
theorem pin_yes {w : World} {base g k c y : Nat} {l : List Ce} (hO : OwnC w base (.slice (some ⟨g, 0, none⟩) k c) l) (hk : k ≤ 100000) (hcut : cutB l (y + 1)) :
    Calls Try.prog 27 #[.slice (some ⟨g, 0, none⟩) k c, .int .i64 ((y + 1 : Nat) : Int)] w (PartPost w base g k c (partC l (y + 1))) := by
  obtain ⟨hkl, -, -, hgl, -⟩ := own_k hO
  have hyk : y + 1 < k := by rw [hkl]; exact hcut.2.1
  obtain ⟨b, o, e, hb, _, _, k2, k3, k4, k5, k6⟩ := (own_row hO).at_ (k := y) (by omega)
  cases e
  obtain ⟨b', o', e, _, m0, m1, m2, m3, m4, m5, m6⟩ := (own_row hO).at_ (k := y + 1) (by omega)
  cases e
  have hw : (cellV l (y + 1)).w = 2 := hcut.2.2
  rw [hw] at m1
  have HP := Lib.hid (part_as l y hcut)
  rw [HP.out]
  have HB1 := Lib.hid (blank_any (cellV l y).a w)
  have HL : Hid (cellV (l.set y (blankC (cellV l y).a)) (y + 1) = cellV l (y + 1)) := Lib.hid (by rw [cell_set, if_neg (fun h => by omega)])
  generalize (cellV l y).a = p at *
  have i1 := idx_cell g 0 k c y (by omega)
  have i2 := idx_cell g 0 k c (y + 1) (by omega)
  have g1 : decide (((y + 1 : Nat) : Int) < 1) = false := by simp; omega
  have g2 : decide (((y + 1 : Nat) : Int) ≥ (k : Int)) = false := by simp; omega
  obtain ⟨X, hX⟩ : ∃ X : Int, X = ((y + 1 : Nat) : Int) := ⟨_, rfl⟩
  have hX1 : X - 1 = (y : Int) := by omega
  rw [← hX] at g1 g2 i2 ⊢
  have hXb : 1 ≤ X ∧ X ≤ 100000 := by omega
  have HX : Hid (((y + 1 : Nat) : Int) = X) := Lib.hid hX.symm
  have HO := Lib.hid hO
  have HK := Lib.hid hkl
  have HY := Lib.hid hyk
  rw [Nat.zero_add] at i1 i2 k2 k3 k4 k5 k6 m1 m2 m3 m4 m5 m6
  clear hcut hw hO hX m0 m2 m3 m4 m5 m6 hkl hyk
  go_enter Try.func27, Try.ntmps27
  go_wp2_with fail
  refine (show Calls _ _ _ _ _ from HB1.out).mono ?_
  rintro e w1 ⟨rfl, b1⟩
  have ho1 := own_below HO.out b1 (Nat.le_refl _)
  have T1 := Lib.hid (Turns.of (g := g) b1)
  obtain ⟨sl1, fz⟩ := own_slots ho1 (k := y) (by have := HK.out; have := HY.out; omega)
  obtain ⟨a0, e0⟩ := sl1 0 (by decide)
  obtain ⟨a1, e1⟩ := sl1 1 (by decide)
  obtain ⟨a2, e2⟩ := sl1 2 (by decide)
  obtain ⟨a3, e3⟩ := sl1 3 (by decide)
  obtain ⟨a4, e4⟩ := sl1 4 (by decide)
  obtain ⟨a5, e5⟩ := sl1 5 (by decide)
  obtain ⟨a6, e6⟩ := sl1 6 (by decide)
  rw [Nat.add_zero] at e0
  have S1 := Lib.hid (own_set ho1 (k := y) (by have := HK.out; have := HY.out; omega) (blankC p))
  have T2 := Lib.hid (T1.out.set y (blankC p))
  clear ho1 b1 sl1 HB1 k2 k3 k4 k5 k6 m1
  go_upto_region 2 with fail
  change Code.wp _ _ _ _ (setCe w1 g y (blankC p))
  generalize setCe w1 g y (blankC p) = w2 at S1 T2 ⊢
  clear fz e0 e1 e2 e3 e4 e5 e6
  have hm : y + 1 < (l.set y (blankC p)).length := by rw [List.length_set]; have := HK.out; have := HY.out; omega
  obtain ⟨b', o', e, _, m0, m1, m2, m3, m4, m5, m6⟩ := (own_row S1.out).at_ (k := y + 1) hm
  cases e
  rw [HL.out] at m0 m1 m2 m3 m4 m5 m6
  rw [Nat.zero_add] at m2 m3 m4 m5 m6
  have HB2 := Lib.hid (blank_any (cellV l (y + 1)).a w2)
  generalize (cellV l (y + 1)).a = q at *
  clear m0 m1 HL
  go_wp2_with fail
  refine (show Calls _ _ _ _ _ from HB2.out).mono ?_
  rintro e w3 ⟨rfl, b3⟩
  have ho3 := own_below S1.out b3 (Nat.le_refl _)
  have T3 := Lib.hid (T2.out.trans (Turns.of b3))
  obtain ⟨sl1, fz⟩ := own_slots ho3 (k := y + 1) hm
  obtain ⟨a0, e0⟩ := sl1 0 (by decide)
  obtain ⟨a1, e1⟩ := sl1 1 (by decide)
  obtain ⟨a2, e2⟩ := sl1 2 (by decide)
  obtain ⟨a3, e3⟩ := sl1 3 (by decide)
  obtain ⟨a4, e4⟩ := sl1 4 (by decide)
  obtain ⟨a5, e5⟩ := sl1 5 (by decide)
  obtain ⟨a6, e6⟩ := sl1 6 (by decide)
  rw [Nat.add_zero] at e0
  have S3 := Lib.hid (own_set ho3 (k := y + 1) hm (blankC q))
  have T4 := Lib.hid (T3.out.set (y + 1) (blankC q))
  clear ho3 b3 sl1 HB2 hm m2 m3 m4 m5 m6
  go_wp2
  go_end0
  exact ⟨rfl, S3.out, T4.out⟩

/-- part, of a row of the call's own. -/
theorem part_in {w : World} {base g k c : Nat} {l : List Ce} (hO : OwnC w base (.slice (some ⟨g, 0, none⟩) k c) l) (hk : k ≤ 100000) (x : Int) :
    Calls Try.prog 27 #[.slice (some ⟨g, 0, none⟩) k c, .int .i64 x] w (PartPost w base g k c (partC l x.toNat)) := by
  obtain ⟨hkl, -⟩ := own_k hO
  by_cases h : x < 1 ∨ (k : Int) ≤ x ∨ wideV l x.toNat ≠ 2
  · rw [not_cut (fun hh => by have h1 := hh.1; have h2 := hh.2.1; rcases h with h | h | h; (· omega); (· omega); exact h hh.2.2)]
    exact pin_no hO hk x h
  · have h1 : ¬ x < 1 := fun e => h (.inl e)
    have h2 : ¬ (k : Int) ≤ x := fun e => h (.inr (.inl e))
    have h3 : wideV l x.toNat = 2 := Classical.byContradiction fun e => h (.inr (.inr e))
    obtain ⟨y, rfl⟩ : ∃ y : Nat, x = ((y + 1 : Nat) : Int) := ⟨x.toNat - 1, by omega⟩
    rw [Int.toNat_natCast] at h3 ⊢
    exact pin_yes hO hk ⟨by omega, by omega, h3⟩
end Go.Proofs.Ythpnmhllgjibgaa.Rw
