/- Layer 9: WidthTexts' walk. -/
import Derived.Test.YtablkipcngbkjaaDoorWdD
import Derived.Test.YtablkipcngbkjaaDoorWdO
set_option linter.unusedVariables false
namespace Go.Proofs.YtablkipcngbkjaaDoor
open Go.RowKit Wid

theorem texts_big (n cc : Nat) (A : Option Addr) (c : Int) (w : World) (hn : n ≤ 9223372036854775807) (h : 300 < n) (hT : WTab w) :
    Calls Tryd.prog 5 #[.slice A n cc, .int .i64 c] w fun e w' => e = .returned (.bool true) ∧ Below w.heap.size w w' := by
  have HA := Lib.hid (awake_any w hT)
  have g1 : decide ((300 : Int) < n) = true := by simp; omega
  clear hT
  go_enter Tryd.func5, Tryd.ntmps5
  go_wp2_with fail
  refine HA.out.mono ?_
  rintro e w1 ⟨rfl, hb⟩
  have B1 := Lib.hid hb
  clear hb HA
  go_wp2
  go_ret
  exact ⟨rfl, B1.out⟩

set_option maxHeartbeats 1000000 in
theorem texts_low (l : List Int) (n cc : Nat) (A : Option Addr) (c : Int) (w : World) (hR : RunesAt w w.heap.size A l) (hn : n = l.length) (h : n ≤ 300) (hc : c < 0) (hT : WTab w) :
    Calls Tryd.prog 5 #[.slice A n cc, .int .i64 c] w fun e w' => e = .returned (.bool true) ∧ Below w.heap.size w w' := by
  have HA := Lib.hid (awake_any w hT)
  have g1 : decide ((300 : Int) < n) = false := by simp; omega
  have HT := Lib.hid hT
  have HR := Lib.hid hR
  have HN := Lib.hid hn
  have HL := Lib.hid (cut_low A n cc c · hc)
  have HL2 := Lib.hid (ref_low A n cc c · hc)
  clear hT hR hn
  go_enter Tryd.func5, Tryd.ntmps5
  go_wp2_with fail
  refine HA.out.mono ?_
  rintro e w1 ⟨rfl, hb⟩
  have B1 := Lib.hid hb
  clear hb HA
  go_wp2_with fail
  refine (HL.out _).mono ?_
  rintro e w2 ⟨rfl, rfl⟩
  go_wp2_with fail
  refine (HL2.out _).mono ?_
  rintro e w2 ⟨rfl, rfl⟩
  go_wp2_with fail
  refine (text_any l _ _ _ _ (HT.out.below B1.out (Nat.le_refl _)) ((HR.out.below B1.out (Nat.le_refl _)).more B1.out.size) HN.out (by omega)).mono ?_
  rintro e w3 ⟨rfl, hb⟩
  have B3 := Lib.hid (B1.out.trans (hb.mono B1.out.size))
  clear hb B1
  go_wp2_with fail
  refine (ref_text l _ _ _ _ ((HR.out.below B3.out (Nat.le_refl _)).more B3.out.size) HN.out (by omega)).mono ?_
  rintro e w4 ⟨rfl, hb⟩
  have B4 := Lib.hid (B3.out.trans (hb.mono B3.out.size))
  clear hb B3
  go_wp2
  go_ret
  exact ⟨rfl, B4.out⟩

set_option maxHeartbeats 1000000 in
theorem texts_small (l : List Int) (n cc : Nat) (A : Option Addr) (c : Int) (w : World) (hR : RunesAt w w.heap.size A l) (hn : n = l.length) (h : n ≤ 300) (hcc : n ≤ cc) (hc : 0 ≤ c) (hc2 : c ≤ 9223372036854775807) (hT : WTab w) :
    Calls Tryd.prog 5 #[.slice A n cc, .int .i64 c] w fun e w' => e = .returned (.bool true) ∧ Below w.heap.size w w' := by
  have HA := Lib.hid (awake_any w hT)
  have g1 : decide ((300 : Int) < n) = false := by simp; omega
  have HT := Lib.hid hT
  have HR := Lib.hid hR
  have HN := Lib.hid hn
  clear hT hR hn
  go_enter Tryd.func5, Tryd.ntmps5
  go_wp2_with fail
  refine HA.out.mono ?_
  rintro e w1 ⟨rfl, hb⟩
  have B1 := Lib.hid hb
  clear hb HA
  go_wp2_with fail
  refine (cut_any l _ _ _ _ _ (HT.out.below B1.out (Nat.le_refl _)) ((HR.out.below B1.out (Nat.le_refl _)).more B1.out.size) HN.out (by omega) hc hc2).mono ?_
  rintro e w2 ⟨k, hF, rfl, hb⟩
  have B2 := Lib.hid (B1.out.trans (hb.mono B1.out.size))
  have HF := Lib.hid hF
  clear hb B1 hF
  go_wp2_with fail
  refine (ref_cut l _ _ _ _ _ ((HR.out.below B2.out (Nat.le_refl _)).more B2.out.size) HN.out (by omega) hcc hc hc2).mono ?_
  rintro e w3 ⟨j, hG, rfl, hb⟩
  have B3 := Lib.hid (B2.out.trans (hb.mono B2.out.size))
  obtain rfl := hG.one HF.out
  clear hb B2 hG HF
  generalize c - sumV (l.take j) = d
  go_wp2_with fail
  refine (text_any l _ _ _ _ (HT.out.below B3.out (Nat.le_refl _)) ((HR.out.below B3.out (Nat.le_refl _)).more B3.out.size) HN.out (by omega)).mono ?_
  rintro e w4 ⟨rfl, hb⟩
  have B4 := Lib.hid (B3.out.trans (hb.mono B3.out.size))
  clear hb B3
  go_wp2_with fail
  refine (ref_text l _ _ _ _ ((HR.out.below B4.out (Nat.le_refl _)).more B4.out.size) HN.out (by omega)).mono ?_
  rintro e w5 ⟨rfl, hb⟩
  have B5 := Lib.hid (B4.out.trans (hb.mono B4.out.size))
  clear hb B4
  go_wp2
  go_ret
  exact ⟨rfl, B5.out⟩

theorem texts_walk (n cc : Nat) (A : Option Addr) (X : List Int) (c : Int) (w : World) (hR : RunesAt w w.heap.size A X) (hn : n ≤ 9223372036854775807) (hcc : n ≤ cc ∧ (A = none → cc = 0)) (hX : n = X.length) (hw : (Lit.int .i64 c).wf = true) (hT : WTab w) :
    Calls Tryd.prog 5 #[.slice A n cc, .int .i64 c] w fun e w' => e = .returned (.bool true) ∧ Below w.heap.size w w' := by
  have hb : -9223372036854775808 ≤ c ∧ c ≤ 9223372036854775807 := by
    simp [Lit.wf, IntKind.min, IntKind.max, IntKind.signed, IntKind.bits] at hw
    omega
  by_cases h1 : 300 < n
  · exact texts_big n cc A c w hn h1 hT
  by_cases h2 : c < 0
  · exact texts_low X n cc A c w hR hX (by omega) h2 hT
  · exact texts_small X n cc A c w hR hX (by omega) hcc.1 (by omega) hb.2 hT
end Go.Proofs.YtablkipcngbkjaaDoor
