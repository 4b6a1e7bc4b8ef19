/- Layer 12: TabsBack, all its ways. -/
import Derived.Test.YtfkiihddcinckaaTbW
set_option linter.unusedVariables false
namespace Go.Proofs.Ytfkiihddcinckaa.Tb
open Go.RowKit

theorem back_law (W0 : Int) (A : Option Addr) (len cap : Nat) (X : Nat → Tc) (x n : Int) (w : World) (hW : IntIn W0) (hm : len ≤ 9223372036854775807) (hA : ActsT w w.heap.size A len X) (hx : IntIn x) (hn : IntIn n) : Calls Try.prog 6 #[.int .i64 W0, .slice A len cap, .int .i64 x, .int .i64 n] w fun e w' => e = .returned (.bool true) ∧ Below w.heap.size w w' := by
  by_cases h : 60 < len ∨ n < 1 ∨ 400 < n
  · exact back_more W0 A len cap X x n w h
  · exact back_some W0 A len cap X x n w hA (by omega) (by omega) (by omega) hx
end Go.Proofs.Ytfkiihddcinckaa.Tb
