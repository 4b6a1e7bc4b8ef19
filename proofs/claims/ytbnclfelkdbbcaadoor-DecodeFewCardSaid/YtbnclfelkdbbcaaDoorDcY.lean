/- Layer 5: DecodeFew's walk. -/
import Derived.Test.YtbnclfelkdbbcaaDoorDcX
namespace Go.Proofs.YtbnclfelkdbbcaaDoor
open Go.RowKit Go.Lib Dec

theorem u8_byte {a : Int} (h : (Lit.int .u8 a).wf = true) : ∃ b : UInt8, a = (b.toNat : Int) := by
  have hb : 0 ≤ a ∧ a ≤ 255 := by
    simp [Lit.wf] at h
    exact h
  refine ⟨UInt8.ofNat a.toNat, ?_⟩
  have : (UInt8.ofNat a.toNat).toNat = a.toNat := by
    rw [UInt8.toNat_ofNat']
    omega
  rw [this]
  omega

theorem three_text (W : World) (g : Nat) (a b c : UInt8) (h : W.heap[g]? = some (.cells #[.int .u8 a.toNat, .int .u8 b.toNat, .int .u8 c.toNat] 5 (0, 0))) : (convert 41 9 (.slice (some ⟨g, 0, none⟩) 3 3)).run Tryd.prog W = .ok (.string (strK [a, b, c])) W := by
  exact run_convert_bytes_back (P := Tryd.prog) _ 41 9 5 ⟨g, 0, none⟩ 3 [a, b, c] Tryd.underlying41 Tryd.underlying5 Tryd.underlying9 (fun j hj => by
    have hj3 : j < 3 := by simpa using hj
    rw [add_zero, cell_of h]
    obtain rfl | rfl | rfl : j = 0 ∨ j = 1 ∨ j = 2 := by omega
    all_goals rfl)

def TellsTrue (t : ByteArray) : Prop := ∀ W : World, Tabs W → Calls Tryd.prog 4 #[.string t] W fun e w' => e = .returned (.bool true) ∧ Below W.heap.size W w'

theorem few_walk (a0 a1 a2 : Int) (s : ByteArray) (w : World) (h0 : (Lit.int .u8 a0).wf = true) (h1 : (Lit.int .u8 a1).wf = true) (h2 : (Lit.int .u8 a2).wf = true) (_ : s.size ≤ maxLen) (hT : Tabs w) :
    Calls Tryd.prog 5 #[.int .u8 a0, .int .u8 a1, .int .u8 a2, .string s] w fun e w' => e = .returned (.bool true) ∧ Below w.heap.size w w' := by
  obtain ⟨a, rfl⟩ := u8_byte h0
  obtain ⟨b, rfl⟩ := u8_byte h1
  obtain ⟨c, rfl⟩ := u8_byte h2
  have HA := Lib.hid (awake_any w hT)
  have HT := Lib.hid hT
  by_cases h : 200 < s.size
  · have g1 : decide ((200 : Int) < s.size) = true := by simp; omega
    clear hT h0 h1 h2
    go_enter Tryd.func5, Tryd.ntmps5
    go_wp2_with fail
    refine HA.out.mono ?_
    rintro e w1 ⟨rfl, hb⟩
    have B1 := Lib.hid hb
    clear hb HA
    go_wp2
    go_ret
    exact ⟨rfl, B1.out⟩
  · have g1 : decide ((200 : Int) < s.size) = false := by simp; omega
    have hs2 : s.size ≤ 200 := by omega
    have TT : Hid (∀ t : ByteArray, t.size ≤ 5000 → TellsTrue t) := Lib.hid (fun t ht W hW => tells_small t W ht hW)
    clear hT h0 h1 h2 h
    go_enter Tryd.func5, Tryd.ntmps5
    go_wp2_with fail
    refine HA.out.mono ?_
    rintro e w1 ⟨rfl, hb⟩
    have B1 := Lib.hid hb
    have hct := three_text (w1.alloc (.cells #[.int .u8 a.toNat, .int .u8 b.toNat, .int .u8 c.toNat] 5)) w1.heap.size a b c (Deep.blk_alloc_new _ _)
    obtain ⟨X, hX⟩ : ∃ X, X = strK [a, b, c] := ⟨_, rfl⟩
    rw [← hX] at hct
    have hXs : X.size = 3 := by rw [hX]; rfl
    have n1 : ¬ 9223372036854775807 < X.size + s.size := by omega
    have n1' : ¬ 9223372036854775807 < 3 + s.size := by omega
    have B2 := Lib.hid (B1.out.alloc B1.out.size (.cells #[.int .u8 a.toNat, .int .u8 b.toNat, .int .u8 c.toNat] 5))
    clear hb HA hX
    go_wp2_with fail
    refine (TT.out _ (by rw [ByteArray.size_append]; omega) _ (HT.out.below B2.out (Nat.le_refl _))).mono ?_
    rintro e w2 ⟨rfl, hb⟩
    have B3 := Lib.hid (B2.out.trans (hb.mono B2.out.size))
    have hE : (X.extract 0 2).size = 2 := by rw [ByteArray.size_extract]; omega
    have n2 : ¬ 9223372036854775807 < (X.extract 0 2).size + s.size := by omega
    have n2' : ¬ 9223372036854775807 < 2 + s.size := by omega
    have n3 : ¬ 9223372036854775807 < s.size + X.size := by omega
    have n3' : ¬ 9223372036854775807 < s.size + 3 := by omega
    clear hb hct
    go_wp2_with fail
    refine (TT.out _ (by rw [ByteArray.size_append]; omega) _ (HT.out.below B3.out (Nat.le_refl _))).mono ?_
    rintro e w3 ⟨rfl, hb⟩
    have B4 := Lib.hid (B3.out.trans (hb.mono B3.out.size))
    clear hb
    go_wp2_with fail
    refine (TT.out _ (by rw [ByteArray.size_append]; omega) _ (HT.out.below B4.out (Nat.le_refl _))).mono ?_
    rintro e w4 ⟨rfl, hb⟩
    have B5 := Lib.hid (B4.out.trans (hb.mono B4.out.size))
    clear hb
    go_wp2_with fail
    refine (TT.out _ (by rw [ByteArray.size_append, hXs]; decide) _ (HT.out.below B5.out (Nat.le_refl _))).mono ?_
    rintro e w5 ⟨rfl, hb⟩
    have B6 := Lib.hid (B5.out.trans (hb.mono B5.out.size))
    clear hb
    go_wp2
    go_ret
    exact ⟨rfl, B6.out⟩

end Go.Proofs.YtbnclfelkdbbcaaDoor
