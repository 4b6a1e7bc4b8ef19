/- Layer 12: TabsPlay, all its ways. -/
import Derived.Test.YtfkiihddcinckaaTbQa
set_option linter.unusedVariables false
namespace Go.Proofs.Ytfkiihddcinckaa.Tb
open Go.RowKit

theorem play_law (W0 : Int) (A : Option Addr) (len cap : Nat) (X : Nat → Tc) (w : World) (hm : len ≤ 9223372036854775807) (hA : ActsT w w.heap.size A len X) : Calls Try.prog 3 #[.int .i64 W0, .slice A len cap] w fun e w' => e = .returned (.bool true) ∧ Below w.heap.size w w' := by
  by_cases h : 80 < len
  · exact play_more W0 A len cap w h
  · exact play_some W0 A len cap X w hA (by omega)
end Go.Proofs.Ytfkiihddcinckaa.Tb
