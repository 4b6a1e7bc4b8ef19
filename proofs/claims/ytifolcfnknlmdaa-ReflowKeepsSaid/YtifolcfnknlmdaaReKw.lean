/- Layer 15: ReflowKeeps' law. -/
import Derived.Test.YtifolcfnknlmdaaReKp
set_option linter.unusedVariables false
namespace Go.Proofs.Ytifolcfnknlmdaa.Re
open Go.RowKit Go.Proofs.Ytifolcfnknlmdaa.Rw

theorem keeps_law {F : Nat → Prop} {v : Value} {l : List LnC} {w : World} (h : LinesAt F w v l) (W x y : Int) (hW : IntIn W) (hx : IntIn x) (hy : IntIn y) : Calls Try.prog 3 #[v, .int .i64 W, .int .i64 x, .int .i64 y] w fun e w' => e = .returned (.bool true) ∧ Below w.heap.size w w' := by
  have KG := Lib.hid (great_any h)
  obtain ⟨A, c, rfl, -⟩ := id h
  obtain ⟨n, hn⟩ : ∃ n, n = l.length := ⟨_, rfl⟩
  rw [← hn] at h KG ⊢
  by_cases hs : smallB l = true
  · by_cases t1 : W < 2
    · exact keeps_bad2 (by rw [hs] at KG; exact KG) W x y (decide_eq_true t1)
    by_cases t2 : W > 400
    · exact keeps_bad3 (by rw [hs] at KG; exact KG) W x y (decide_eq_false t1) (decide_eq_true t2)
    by_cases t3 : y < 0
    · exact keeps_bad4 (by rw [hs] at KG; exact KG) W x y (decide_eq_false t1) (decide_eq_false t2) (decide_eq_true t3)
    by_cases t4 : y ≥ (n : Int)
    · exact keeps_bad5 (by rw [hs] at KG; exact KG) W x y (decide_eq_false t1) (decide_eq_false t2) (decide_eq_false t3) (decide_eq_true t4)
    by_cases t5 : x < 0
    · exact keeps_bad6 (by rw [hs] at KG; exact KG) W x y (decide_eq_false t1) (decide_eq_false t2) (decide_eq_false t3) (decide_eq_false t4) (decide_eq_true t5)
    obtain ⟨X, rfl⟩ : ∃ X : Nat, W = (X : Int) := ⟨W.toNat, by omega⟩
    obtain ⟨Y, rfl⟩ : ∃ Y : Nat, y = (Y : Int) := ⟨y.toNat, by omega⟩
    obtain ⟨P, rfl⟩ : ∃ P : Nat, x = (P : Int) := ⟨x.toNat, by omega⟩
    exact keeps_good KG (Lib.hid h) hn hs X P Y (by omega) (by omega) (by omega) (by have := hx.2; omega)
  · have hs : smallB l = false := by simpa using hs
    exact keeps_bad1 (by rw [hs] at KG; exact KG) W x y
theorem keepsW (v : Value) (l : List LnC) (W x y : Int) (w : World) (h : LinesAt (fun b => b < w.heap.size) w v l) (hW : IntIn W) (hx : IntIn x) (hy : IntIn y) : Calls Try.prog 3 #[v, .int .i64 W, .int .i64 x, .int .i64 y] w fun e w' => e = .returned (.bool true) ∧ Below w.heap.size w w' := keeps_law h W x y hW hx hy
end Go.Proofs.Ytifolcfnknlmdaa.Re
