/- Layer 1: has; small lemmas that all texts use. -/
import Derived.Test.YtjfonbkeamhnmaaProg
import Derived.Test.YtjfonbkeamhnmaaLatM
import Derived.WalkKit
import Derived.KernelRfl
import Derived.Lib.Hide
import Derived.Deep.QuietTactic
import Derived.BigQuiet
namespace Go.Proofs.Ytjfonbkeamhnmaa
open Go.RowKit Lat

theorem ret_bool {a b : Bool} (h : a = b) : Ending.returned (.bool a) = .returned (.bool b) := by rw [h]
theorem ret_int {k : IntKind} {a b : Int} (h : a = b) : Ending.returned (.int k a) = .returned (.int k b) := by rw [h]

theorem has_any (s : Nat) (a : Nat) (hs : s < 18446744073709551616) (ha : a < 64) (w : World) :
    Calls Try.prog 45 #[.int .u64 s, .int .i64 a] w fun e w' => e = .returned (.bool (s.testBit a)) ∧ w = w' := by
  go_enter Try.func45, Try.ntmps45
  go_wp2
  go_ret
  exact ⟨ret_bool (has_eq s a hs), rfl⟩

/-- A slice of n words in a block of its own: the cells. -/
def Words (w : World) (b n : Nat) (U : Nat → Nat) : Prop := ∀ i, i < n → w.cell? ⟨b, i, none⟩ = some (.int .u64 (U i))

/-- A callee that leaves its world, met within a region whose order is open. -/
theorem still_left {P : Program} {f : FuncId} {args : Array Value} {w : World} {n : Nat} {v : Value} (h : Calls P f args (w.drewN n) fun e w' => e = .returned v ∧ w.drewN n = w') :
    Calls P f args (w.drewN n) fun e w'' => e = .returned v ∧ ∃ m, w'' = w.drewN m := h.mono fun _ _ hh => ⟨hh.1, n, hh.2.symm⟩

theorem below_drew {B : Nat} {a w : World} (h : Below B a w) (n : Nat) : Below B a (w.drewN n) := ⟨h.os, h.tape, h.output, h.size, h.block⟩

end Go.Proofs.Ytjfonbkeamhnmaa
