/- Layer 12: TabsStays, all its ways. -/
import Derived.Test.YtfkiihddcinckaaTbZ
set_option linter.unusedVariables false
namespace Go.Proofs.Ytfkiihddcinckaa.Tb
open Go.RowKit

set_option maxRecDepth 100000 in
set_option maxHeartbeats 1000000 in
theorem stays_no (W H T B x y : Int) (A : Option Addr) (len cap : Nat) (w : World) (hg : mayB W H T B = false ∨ 60 < len) : Calls Try.prog 7 #[areaV W H T B, .int .i64 x, .int .i64 y, .slice A len cap] w fun e w' => e = .returned (.bool true) ∧ Below w.heap.size w w' := by
  have HWk : Hid (∀ V, Calls Try.prog 9 #[] V fun e w' => e = .returned (.bool true) ∧ Below V.heap.size V w') := Lib.hid fun V => wakes_any V
  obtain ⟨W0, hW0, hB, hlt, hq⟩ := ar_new W H T B w
  have HR := Lib.hid (right_any0 W H T B W0)
  have HQ := Lib.hid hq
  have HWW := Lib.hid hW0
  have HB := Lib.hid hB
  have HR0 := (HQ.out W0 (Below.refl _ _))
  have c0 := cell_of HR0 0
  have c1 := cell_of HR0 1
  have c2 := cell_of HR0 2
  have c3 := cell_of HR0 3
  clear hW0 hB hq hlt HR0
  cases hm : mayB W H T B
  · rw [hm] at HR
    clear hm hg
    go_enter Try.func7, Try.ntmps7
    go_upto_region 1 with fail
    change Code.wp _ _ _ _ (w.alloc (arO W H T B))
    rw [HWW.out]
    clear HWW
    go_wp2_with fail
    refine (show Calls _ _ _ _ _ from HR.out).mono ?_
    rintro e w1 ⟨rfl, j1⟩
    have J1 := Lib.hid (HB.out.trans (j1.mono HB.out.size))
    clear j1 c0 c1 c2 c3 HR
    go_wp2_with fail
    refine (HWk.out _).mono ?_
    rintro e w2 ⟨rfl, j2⟩
    have J2 := Lib.hid (J1.out.trans (j2.mono J1.out.size))
    clear j2
    go_wp2
    go_ret
    exact ⟨rfl, J2.out⟩
  · have hl : 60 < len := by
      rcases hg with h | h
      · rw [hm] at h; cases h
      · exact h
    have g1 : decide ((len : Int) > 60) = true := by simp; omega
    rw [hm] at HR
    clear hm hg hl
    go_enter Try.func7, Try.ntmps7
    go_upto_region 1 with fail
    change Code.wp _ _ _ _ (w.alloc (arO W H T B))
    rw [HWW.out]
    clear HWW
    go_wp2_with fail
    refine (show Calls _ _ _ _ _ from HR.out).mono ?_
    rintro e w1 ⟨rfl, j1⟩
    have J1 := Lib.hid (HB.out.trans (j1.mono HB.out.size))
    clear j1 c0 c1 c2 c3 HR
    go_wp2_with fail
    refine (HWk.out _).mono ?_
    rintro e w2 ⟨rfl, j2⟩
    have J2 := Lib.hid (J1.out.trans (j2.mono J1.out.size))
    clear j2
    go_wp2
    go_ret
    exact ⟨rfl, J2.out⟩
theorem stays_law (W H T B x y : Int) (A : Option Addr) (len cap : Nat) (X : Nat → Tc) (w : World) (hW : IntIn W) (hH : IntIn H) (hT : IntIn T) (hB : IntIn B) (hx : IntIn x) (hy : IntIn y) (hm : len ≤ 9223372036854775807) (hA : ActsT w w.heap.size A len X) : Calls Try.prog 7 #[areaV W H T B, .int .i64 x, .int .i64 y, .slice A len cap] w fun e w' => e = .returned (.bool true) ∧ Below w.heap.size w w' := by
  by_cases h : mayB W H T B = false ∨ 60 < len
  · exact stays_no W H T B x y A len cap w h
  · exact stays_some W H T B x y A len cap X w (by cases hm : mayB W H T B; (· exact absurd (Or.inl hm) h); rfl) hW hH hT hB hx hy hA (by omega)
end Go.Proofs.Ytfkiihddcinckaa.Tb
