/- Layer 13: ScrollBack. -/
import Derived.Test.YtomfeehebkknoaaScZ
import Derived.Test.YtomfeehebkknoaaScX
set_option linter.unusedVariables false
namespace Go.Proofs.Ytomfeehebkknoaa.Rw
open Go.RowKit

theorem back_law (v : Value) (ls : Ls) (Y T B N W : Int) (a : Aa) (w : World) (h : TabAt (fun b => b < w.heap.size) w v ls) (hY : IntIn Y) (hT : IntIn T) (hB : IntIn B) (hN : IntIn N) (hW : IntIn W) : Calls Try.prog 3 #[v, moveV Y T B N W a] w fun e w' => e = .returned (.bool true) ∧ Below w.heap.size w w' := by
  by_cases hg : greatB ls = true ∨ T < 0 ∨ T > B ∨ B ≥ (ls.length : Int) ∨ N < 1 ∨ W > 60
  · exact back_no h Y T B N W a hg
  · simp only [not_or] at hg
    obtain ⟨g1, g2, g3, g4, g5, g6⟩ := hg
    obtain ⟨t, rfl⟩ := Int.eq_ofNat_of_zero_le (by omega : 0 ≤ T)
    obtain ⟨b, rfl⟩ := Int.eq_ofNat_of_zero_le (by omega : 0 ≤ B)
    obtain ⟨n, hn⟩ := Int.eq_ofNat_of_zero_le (by omega : 0 ≤ min N ((b : Int) - t + 1))
    exact back_yes h Y N W t b n a (by simpa using g1) (by omega) (by omega) (by omega) hN (by omega) hW hn.symm
end Go.Proofs.Ytomfeehebkknoaa.Rw
