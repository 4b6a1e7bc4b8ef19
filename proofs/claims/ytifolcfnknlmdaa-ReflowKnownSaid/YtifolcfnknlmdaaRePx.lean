/- Layer 15: the program's contracts. -/
import Derived.Test.YtifolcfnknlmdaaRePLX
set_option linter.unusedVariables false
namespace Go.Proofs.Ytifolcfnknlmdaa.Re
open Go.RowKit Go.Proofs.Ytifolcfnknlmdaa.Rw
variable {F : Nat → Prop} {v : Value} {l : List LnC} {w : World} (h : LinesAt F w v l) (hl : l.length ≤ 100000) (hs : sumV l ≤ 100000)
include h hl hs
theorem plines_any (W : Int) (hW : IntIn W) : Calls Try.prog 10 #[v, .int .i64 W] w fun e w' => ∃ u, e = .returned u ∧ LinesAt (fun b => w.heap.size ≤ b) w' u (linesI W l) ∧ Below w.heap.size w w' := by
  unfold linesI
  by_cases hok : 2 ≤ W ∧ W ≤ 400
  · rw [if_pos hok]
    obtain ⟨X, rfl⟩ : ∃ X : Nat, W = (X : Int) := ⟨W.toNat, by omega⟩
    rw [Int.toNat_natCast]
    exact lines_yes h hl hs X (by omega) (by omega)
  · rw [if_neg hok]
    exact (lines_no w W hok).mono fun e w' ⟨he, hb⟩ => ⟨_, he, lines_nil _ _, hb⟩
theorem pplace_any (W x y : Int) (hW : IntIn W) (hx : IntIn x) (hy : IntIn y) : Calls Try.prog 11 #[v, .int .i64 W, .int .i64 x, .int .i64 y] w fun e w' => e = .returned (.tuple #[.int .i64 ((placeI l W x y).1 : Int), .int .i64 ((placeI l W x y).2 : Int)]) ∧ Below w.heap.size w w' := by
  unfold placeI
  by_cases hok : okI l W x y = true
  · rw [if_pos hok]
    unfold okI at hok
    simp only [Bool.and_eq_true, decide_eq_true_eq] at hok
    obtain ⟨X, rfl⟩ : ∃ X : Nat, W = (X : Int) := ⟨W.toNat, by omega⟩
    obtain ⟨a, rfl⟩ : ∃ a : Nat, x = (a : Int) := ⟨x.toNat, by omega⟩
    obtain ⟨b, rfl⟩ : ∃ b : Nat, y = (b : Int) := ⟨y.toNat, by omega⟩
    simp only [Int.toNat_natCast]
    exact place_yes h hl hs X (by omega) (by omega) a (by have := hx.2; omega) b (by omega)
  · rw [if_neg hok]
    exact place_no h W x y hx hy (by simpa using hok)
theorem pparas_any : Calls Try.prog 18 #[v] w fun e w' => ∃ u, e = .returned u ∧ TabR (fun b => w.heap.size ≤ b) w' u (paras blC l) ∧ Below w.heap.size w w' := paras_prog h hl hs
/-- Each paragraph's text (layer 11's textV), where all characters are such. -/
theorem ptexts_any (hr : (paras blC l).all runesB = true) : Calls Try.prog 15 #[v] w fun e w' => ∃ u, e = .returned u ∧ TextsAt w' u ((paras blC l).map textV) ∧ Below w.heap.size w w' := texts_prog h hl hs (List.all_eq_true.1 hr)
end Go.Proofs.Ytifolcfnknlmdaa.Re
