/- Layer 14: BackLast's walk, as its proof takes it. -/
import Derived.Test.YtpanhkhiomgclaaBaL
set_option linter.unusedVariables false
namespace Go.Proofs.Ytpanhkhiomgclaa.Ba
open Go.RowKit
theorem last_row (m : Int) (v1 : Value) (L1 : List Int) (v2 : Value) (L2 : List Int) (w : World) (H1 : LiesI w v1 L1) (b1 : ∀ k, k < L1.length → IntIn (L1.getD k 0)) (H2 : LiesI w v2 L2) (b2 : ∀ k, k < L2.length → IntIn (L2.getD k 0)) : Calls Try.prog 5 #[.int .i64 m, v1, v2] w fun e w' => e = .returned (.bool true) ∧ Below w.heap.size w w' := last_law H1 H2 m
end Go.Proofs.Ytpanhkhiomgclaa.Ba
