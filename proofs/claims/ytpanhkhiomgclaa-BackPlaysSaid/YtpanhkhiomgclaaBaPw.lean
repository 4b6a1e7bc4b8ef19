/- Layer 14: BackPlays' walk, as its proof takes it. -/
import Derived.Test.YtpanhkhiomgclaaBaP
namespace Go.Proofs.Ytpanhkhiomgclaa.Ba
open Go.RowKit
theorem plays_row (m : Int) (v : Value) (L : List Int) (x : Int) (w : World) (hm : IntIn m) (H : LiesI w v L) (hL : ∀ k, k < L.length → IntIn (L.getD k 0)) (hx : IntIn x) : Calls Try.prog 3 #[.int .i64 m, v, .int .i64 x] w fun e w' => e = .returned (.bool true) ∧ Below w.heap.size w w' := plays_law H m x hm hx hL
end Go.Proofs.Ytpanhkhiomgclaa.Ba
