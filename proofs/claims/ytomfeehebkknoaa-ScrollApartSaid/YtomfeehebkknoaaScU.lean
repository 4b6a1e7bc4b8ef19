/- Layer 13: ScrollApart. -/
import Derived.Test.YtomfeehebkknoaaScR
import Derived.Test.YtomfeehebkknoaaScX
set_option linter.unusedVariables false
namespace Go.Proofs.Ytomfeehebkknoaa.Rw
open Go.RowKit

theorem apart_law (v : Value) (ls : Ls) (Y T B N W : Int) (a : Aa) (w : World) (h : TabAt (fun b => b < w.heap.size) w v ls) (hY : IntIn Y) (hT : IntIn T) (hB : IntIn B) (hN : IntIn N) (hW : IntIn W) : Calls Try.prog 4 #[v, moveV Y T B N W a] w fun e w' => e = .returned (.bool true) ∧ Below w.heap.size w w' := by
  by_cases hg : greatB ls = true ∨ W > 60
  · exact apart_no h Y T B N W a hg
  · simp only [not_or] at hg
    exact apart_yes h Y T B N W a hY hT hB hN hW (by simpa using hg.1) (by omega)
end Go.Proofs.Ytomfeehebkknoaa.Rw
