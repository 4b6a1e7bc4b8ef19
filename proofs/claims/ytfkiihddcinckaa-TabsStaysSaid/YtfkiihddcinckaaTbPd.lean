/- Layer 12: the program's change, Set, Clear. -/
import Derived.Test.YtfkiihddcinckaaTbPc
set_option linter.unusedVariables false
namespace Go.Proofs.Ytfkiihddcinckaa.Tb
open Go.RowKit

theorem change_nil (x : Int) (b : Bool) (w : World) : Calls Try.prog 38 #[.pointer none, .int .i64 x, .bool b] w fun e w' => e = .returned (.bool false) ∧ w = w' := by
  go_enter Try.func38, Try.ntmps38
  go_wp2
  go_ret
  exact ⟨rfl, rfl⟩
theorem change_neg (g n : Nat) (on : List Bool) (x : Int) (b : Bool) (w : World) (h : StAt w g n on) (hx : x < 0) : Calls Try.prog 38 #[.pointer (some ⟨g, 0, none⟩), .int .i64 x, .bool b] w fun e w' => e = .returned (.bool false) ∧ w = w' := by
  have c0 := h.cell0
  have g1 : decide (x < 0) = true := by simpa using hx
  clear h
  go_enter Try.func38, Try.ntmps38
  go_wp2
  go_ret
  exact ⟨rfl, rfl⟩
theorem change_out (g n : Nat) (on : List Bool) (x : Int) (b : Bool) (w : World) (h : StAt w g n on) (h0 : 0 ≤ x) (hx : x ≥ n) : Calls Try.prog 38 #[.pointer (some ⟨g, 0, none⟩), .int .i64 x, .bool b] w fun e w' => e = .returned (.bool false) ∧ w = w' := by
  have c0 := h.cell0
  have g1 : decide (x < 0) = false := by simpa using h0
  have g2 : decide (x ≥ (n : Int)) = true := by simpa using hx
  clear h
  go_enter Try.func38, Try.ntmps38
  go_wp2
  go_ret
  exact ⟨rfl, rfl⟩
theorem change_same (g n : Nat) (on : List Bool) (k : Nat) (b : Bool) (w : World) (h : StAt w g n on) (hk : k < n) (hn : n ≤ 400) (hb : on.getD k false = b) : Calls Try.prog 38 #[.pointer (some ⟨g, 0, none⟩), .int .i64 (k : Int), .bool b] w fun e w' => e = .returned (.bool false) ∧ w = w' := by
  have c0 := h.cell0
  have ck := h.cellk (k := k) (by omega)
  have i1 := idx_on g k (by omega)
  have g1 : decide ((k : Int) < 0) = false := by simp
  have g2 : decide ((k : Int) ≥ (n : Int)) = false := by simp; omega
  rw [hb] at ck
  clear h hb
  cases b
  all_goals
    go_enter Try.func38, Try.ntmps38
    go_wp2
    go_ret
    exact ⟨rfl, rfl⟩
theorem change_yes (g n : Nat) (on : List Bool) (k : Nat) (b : Bool) (w : World) (h : StAt w g n on) (hk : k < n) (hn : n ≤ 400) (hb : on.getD k false = !b) : Calls Try.prog 38 #[.pointer (some ⟨g, 0, none⟩), .int .i64 (k : Int), .bool b] w fun e w' => e = .returned (.bool true) ∧ StAt w' g n (on.set k b) ∧ TurnG g w w' := by
  have c0 := h.cell0
  have ck := h.cellk (k := k) (by omega)
  have fk := h.free (k + 1)
  have i1 := idx_on g k (by omega)
  have g1 : decide ((k : Int) < 0) = false := by simp
  have g2 : decide ((k : Int) ≥ (n : Int)) = false := by simp; omega
  have HP : Hid (StAt (w.setCell ⟨g, k + 1, none⟩ (.bool b)) g n (on.set k b) ∧ TurnG g w (w.setCell ⟨g, k + 1, none⟩ (.bool b))) := Lib.hid ⟨h.setk (by omega) b, turn_set w g (k + 1) (.bool b)⟩
  rw [hb] at ck
  clear h hb
  cases b
  all_goals
    go_enter Try.func38, Try.ntmps38
    go_wp2
    go_ret
    exact ⟨rfl, HP.out⟩
end Go.Proofs.Ytfkiihddcinckaa.Tb
