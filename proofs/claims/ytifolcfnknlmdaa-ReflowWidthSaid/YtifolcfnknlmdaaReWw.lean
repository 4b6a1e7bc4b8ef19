/- Layer 15: ReflowWidth's law. -/
import Derived.Test.YtifolcfnknlmdaaReWb
set_option linter.unusedVariables false
namespace Go.Proofs.Ytifolcfnknlmdaa.Re
open Go.RowKit Go.Proofs.Ytifolcfnknlmdaa.Rw

theorem width_law {F : Nat → Prop} {v : Value} {l : List LnC} {w : World} (h : LinesAt F w v l) (W : Int) (hW : IntIn W) : Calls Try.prog 7 #[v, .int .i64 W] w fun e w' => e = .returned (.bool true) ∧ Below w.heap.size w w' := by
  have KG := Lib.hid (great_any h)
  obtain ⟨A, c, rfl, -⟩ := id h
  obtain ⟨n, hn⟩ : ∃ n, n = l.length := ⟨_, rfl⟩
  rw [← hn] at h KG ⊢
  by_cases hs : smallB l = true
  · rw [hs] at KG
    exact width_good KG (Lib.hid h) (Lib.hid hn) hs W hW
  · have hs : smallB l = false := by simpa using hs
    rw [hs] at KG
    exact width_bad KG W
theorem widthW (v : Value) (l : List LnC) (W : Int) (w : World) (h : LinesAt (fun b => b < w.heap.size) w v l) (hW : IntIn W) : Calls Try.prog 7 #[v, .int .i64 W] w fun e w' => e = .returned (.bool true) ∧ Below w.heap.size w w' := width_law h W hW
end Go.Proofs.Ytifolcfnknlmdaa.Re
