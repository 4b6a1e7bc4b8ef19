/- Layer 13: the program's isRegion, within, parts, steps. -/
import Derived.Test.YtomfeehebkknoaaScPb
import Derived.Test.YtomfeehebkknoaaScW
set_option linter.unusedVariables false
namespace Go.Proofs.Ytomfeehebkknoaa.Rw
open Go.RowKit

def regB (len : Nat) (t b : Int) : Bool := decide (0 ≤ t) && decide (t ≤ b) && decide (b < len)
theorem reg_iff {len : Nat} {t b : Int} : regB len t b = true ↔ 0 ≤ t ∧ t ≤ b ∧ b < len := by
  unfold regB; simp [and_assoc]
set_option maxRecDepth 100000 in
theorem region_any (A : Option Addr) (n c : Nat) (t b : Int) (w : World) : Calls Try.prog 24 #[.slice A n c, .int .i64 t, .int .i64 b] w fun e w' => e = .returned (.bool (regB n t b)) ∧ w = w' := by
  unfold regB
  by_cases h1 : 0 ≤ t
  · have g1 : decide (0 ≤ t) = true := by simpa using h1
    rw [g1]
    by_cases h2 : t ≤ b
    · have g2 : decide (t ≤ b) = true := by simpa using h2
      rw [g2]
      by_cases h3 : b < (n : Int)
      · have g3 : decide (b < (n : Int)) = true := by simpa using h3
        rw [g3]
        go_enter Try.func24, Try.ntmps24
        go_wp2
        go_ret
        exact ⟨rfl, rfl⟩
      · have g3 : decide (b < (n : Int)) = false := by simpa using h3
        rw [g3]
        go_enter Try.func24, Try.ntmps24
        go_wp2
        go_ret
        exact ⟨rfl, rfl⟩
    · have g2 : decide (t ≤ b) = false := by simpa using h2
      rw [g2]
      go_enter Try.func24, Try.ntmps24
      go_wp2
      go_ret
      exact ⟨rfl, rfl⟩
  · have g1 : decide (0 ≤ t) = false := by simpa using h1
    rw [g1]
    go_enter Try.func24, Try.ntmps24
    go_wp2
    go_ret
    exact ⟨rfl, rfl⟩

set_option maxRecDepth 100000 in
theorem within_any (A : Option Addr) (n c : Nat) (y t b : Int) (w : World) : Calls Try.prog 22 #[.slice A n c, .int .i64 y, .int .i64 t, .int .i64 b] w fun e w' => e = .returned (.bool (inB n y t b)) ∧ w = w' := by
  have K := Lib.hid (region_any A n c t b w)
  by_cases h : regB n t b = true
  · rw [h] at K
    have hr := reg_iff.1 h
    by_cases h1 : t ≤ y
    · by_cases h2 : y ≤ b
      · have e : inB n y t b = true := by unfold inB; simp; omega
        rw [e]
        have g1 : decide (y ≥ t) = true := by simpa using h1
        have g2 : decide (y ≤ b) = true := by simpa using h2
        clear e hr h h1 h2
        go_enter Try.func22, Try.ntmps22
        go_wp2_with fail
        refine (show Calls _ _ _ _ _ from K.out).mono ?_
        rintro e w1 ⟨rfl, rfl⟩
        go_wp2
        go_ret
        exact ⟨rfl, rfl⟩
      · have e : inB n y t b = false := by unfold inB; simp; omega
        rw [e]
        have g1 : decide (y ≥ t) = true := by simpa using h1
        have g2 : decide (y ≤ b) = false := by simpa using h2
        clear e hr h h1 h2
        go_enter Try.func22, Try.ntmps22
        go_wp2_with fail
        refine (show Calls _ _ _ _ _ from K.out).mono ?_
        rintro e w1 ⟨rfl, rfl⟩
        go_wp2
        go_ret
        exact ⟨rfl, rfl⟩
    · have e : inB n y t b = false := by unfold inB; simp; omega
      rw [e]
      have g1 : decide (y ≥ t) = false := by simpa using h1
      clear e hr h h1
      go_enter Try.func22, Try.ntmps22
      go_wp2_with fail
      refine (show Calls _ _ _ _ _ from K.out).mono ?_
      rintro e w1 ⟨rfl, rfl⟩
      go_wp2
      go_ret
      exact ⟨rfl, rfl⟩
  · have hf : regB n t b = false := by simpa using h
    rw [hf] at K
    have e : inB n y t b = false := by
      rw [reg_iff] at h
      unfold inB
      simp
      omega
    rw [e]
    clear e h hf
    go_enter Try.func22, Try.ntmps22
    go_wp2_with fail
    refine (show Calls _ _ _ _ _ from K.out).mono ?_
    rintro e w1 ⟨rfl, rfl⟩
    go_wp2
    go_ret
    exact ⟨rfl, rfl⟩

def stepN (n : Int) (len : Nat) : Nat := min n.toNat len
set_option maxRecDepth 100000 in
theorem steps_any (A : Option Addr) (m c : Nat) (n : Int) (w : World) : Calls Try.prog 17 #[.int .i64 n, .slice A m c] w fun e w' => e = .returned (.int .i64 ((stepN n m : Nat) : Int)) ∧ w = w' := by
  unfold stepN
  go_enter Try.func17, Try.ntmps17
  go_wp2
  all_goals
    go_ret
    refine ⟨congrArg (fun z : Int => Ending.returned (.int .i64 z)) ?_, rfl⟩
    first | omega | (split at * <;> omega)

/-! ### parts -/
def aheadL (ls : Ls) (t b : Int) : Ls := if regB ls.length t b then ls.take t.toNat else ls
def regL (ls : Ls) (t b : Int) : Ls := if regB ls.length t b then (ls.take (b.toNat + 1)).drop t.toNat else []
def behL (ls : Ls) (t b : Int) : Ls := if regB ls.length t b then ls.drop (b.toNat + 1) else []
/-- Three slices: what is ahead, the region, what is behind. -/
def PartsPost (F : Nat → Prop) (w : World) (ls : Ls) (t b : Int) (e : Ending) (w' : World) : Prop := ∃ A1 n1 c1 A2 n2 c2 A3 n3 c3, e = .returned (.tuple #[.slice A1 n1 c1, .slice A2 n2 c2, .slice A3 n3 c3]) ∧ TabAt F w' (.slice A1 n1 c1) (aheadL ls t b) ∧ TabAt F w' (.slice A2 n2 c2) (regL ls t b) ∧ TabAt F w' (.slice A3 n3 c3) (behL ls t b) ∧ Below w.heap.size w w'
set_option maxRecDepth 100000 in
set_option maxHeartbeats 2000000 in
theorem parts_any {F : Nat → Prop} {w : World} {v : Value} {ls : Ls} (h : TabAt F w v ls) (t b : Int) (ht : IntIn t) (hb : IntIn b) (hl : ls.length ≤ 1000000) : Calls Try.prog 16 #[v, .int .i64 t, .int .i64 b] w (PartsPost F w ls t b) := by
  obtain ⟨A, c, rfl, hA, -⟩ := id h
  obtain ⟨n, hn⟩ : ∃ n, ls.length = n := ⟨_, rfl⟩
  have K := Lib.hid (region_any A n c t b w)
  unfold PartsPost aheadL regL behL
  rw [hn] at h hl ⊢
  by_cases hr : regB n t b = true
  · rw [hr] at K
    rw [if_pos hr, if_pos hr, if_pos hr]
    rw [reg_iff] at hr
    obtain ⟨T, rfl⟩ : ∃ T : Nat, t = (T : Int) := ⟨t.toNat, by omega⟩
    obtain ⟨B, rfl⟩ : ∃ B : Nat, b = (B : Int) := ⟨b.toNat, by omega⟩
    rw [Int.toNat_natCast, Int.toNat_natCast]
    obtain ⟨b0, o0, _, rfl, -⟩ := h.at_ (k := B) (by omega)
    obtain ⟨C, hC⟩ : ∃ C, B + 1 = C := ⟨_, rfl⟩
    have z1 : IntKind.i64.wrap ((B : Int) + 1) = (C : Int) := by rw [IntWalk.i64_in _ (by omega)]; omega
    have z2 : wrap64 ((B : Int) + 1) = (C : Int) := by unfold wrap64; omega
    rw [hC]
    obtain ⟨k1, q1⟩ := to_tab h T (by omega)
    obtain ⟨p2, k2, q2⟩ := win_tab h T C (by omega) (by omega)
    obtain ⟨p3, k3, q3⟩ := from_tab h C (by omega)
    obtain ⟨m2, hm2⟩ : ∃ m2, C - T = m2 := ⟨_, rfl⟩
    obtain ⟨m3, hm3⟩ : ∃ m3, n - C = m3 := ⟨_, rfl⟩
    obtain ⟨c2, hc2⟩ : ∃ c2, c - T = c2 := ⟨_, rfl⟩
    obtain ⟨c3, hc3⟩ : ∃ c3, c - C = c3 := ⟨_, rfl⟩
    rw [hm2, hc2] at k2 q2
    rw [hm3, hc3] at k3 q3
    have HQ := Lib.hid (And.intro q1 (And.intro q2 q3))
    clear q1 q2 q3 h hr hl hn hA ht hb hC hm2 hm3 hc2 hc3
    go_enter Try.func16, Try.ntmps16
    go_wp2_with fail
    refine (show Calls _ _ _ _ _ from K.out).mono ?_
    rintro e w1 ⟨rfl, rfl⟩
    clear K
    go_wp2_with fail
    have kd : Below w.heap.size w w.drew := below_drew (Below.refl _ _) 1
    go_region_held3 (fun V => Below w.heap.size w V) (assumption) (first | fail)
    go_wp2
    go_ret3
    exact ⟨_, _, _, _, _, _, _, _, _, rfl, HQ.out.1 _ kd, HQ.out.2.1 _ kd, HQ.out.2.2 _ kd, kd⟩
  · have hf : regB n t b = false := by simpa using hr
    rw [hf] at K ⊢
    have HT := Lib.hid h
    clear h hl hn hA ht hb hf hr
    go_enter Try.func16, Try.ntmps16
    go_wp2_with fail
    refine (show Calls _ _ _ _ _ from K.out).mono ?_
    rintro e w1 ⟨rfl, rfl⟩
    clear K
    go_wp2
    go_ret3
    exact ⟨_, _, _, _, _, _, _, _, _, rfl, HT.out, tab_nil _ _, tab_nil _ _, Below.refl _ _⟩
end Go.Proofs.Ytomfeehebkknoaa.Rw
