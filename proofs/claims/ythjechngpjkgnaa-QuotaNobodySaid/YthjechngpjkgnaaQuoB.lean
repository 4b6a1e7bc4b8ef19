/- Layer 3: the methods of a quota with keys of type string. -/
import Derived.Test.YthjechngpjkgnaaQuoA
import Derived.Defers
import Derived.Recover
namespace Go.Proofs.Ythjechngpjkgnaa
open Go.RowKit Go.Maps Go.ChangeMaps

theorem keyedS : Keyed Try.prog 9 := string_keyed Try.underlying9
abbrev QS := IsQ 51 9

theorem load_any (c : Nat) (x : Int) (w : World) (hc : w.heap[c]? = some (.cells #[.int .i64 x] 75 (0, 0))) :
    Calls Try.prog 28 #[.pointer (some ⟨c, 0, none⟩)] w fun e w' => e = .returned (.int .i64 x) ∧ w = w' := by
  have c0 : w.cell? ⟨c, 0, none⟩ = some (.int .i64 x) := by rw [cell_of hc]; rfl
  have hl := run_call_load (P := Try.prog) Try.func33 (by kernel_rfl) (by kernel_rfl) (by kernel_rfl) .i64 (by kernel_rfl) c0
  clear hc
  go_enter Try.func28, Try.ntmps28
  go_wp2
  go_ret
  exact ⟨rfl, rfl⟩

theorem add_any (c : Nat) (x y : Int) (w : World) (hc : w.heap[c]? = some (.cells #[.int .i64 x] 75 (0, 0))) (hx : 0 ≤ x ∧ x ≤ 1099511627776) (hy : 0 ≤ y ∧ y ≤ 1099511627776) :
    Calls Try.prog 30 #[.pointer (some ⟨c, 0, none⟩), .int .i64 y] w fun e w' => e = .returned (.int .i64 (x + y)) ∧ w' = w.setCell ⟨c, 0, none⟩ (.int .i64 (x + y)) := by
  have c0 : w.cell? ⟨c, 0, none⟩ = some (.int .i64 x) := by rw [cell_of hc]; rfl
  have f0 := frozen_of hc 0
  have hl := run_call_add (P := Try.prog) Try.func35 (by kernel_rfl) (by kernel_rfl) (by kernel_rfl) .i64 (by kernel_rfl) (y := y) (s := x + y) c0 f0 (by simp [go_sem, IntWalk.i64_in (x + y) (by omega)])
  clear hc
  go_enter Try.func30, Try.ntmps30
  go_wp2
  go_ret
  exact ⟨rfl, rfl⟩

theorem caught (w : World) :
    CallsD Try.prog 32 #[] .returning w fun e u' w' => e = .returned (.tuple #[]) ∧ u' = .returning ∧ w' = w := by
  refine callsD_of_wpS Try.func32 rfl fun c₀ cs hu => ?_
  apply wpS_region
  cases c₀
  simp_all [wpOpsS, go_sem, recoverD, Try.ntmps32, bodyPostS, results, Try.results32]

theorem find_at (q m : Nat) (key : ByteArray) (v : Value) (w : World) (c1 : w.cell? ⟨q, 1, none⟩ = some (.map (some m))) (hl : (Instr.lookup 49 (.map (some m)) (.string key) false).run Try.prog w = .ok v w) :
    Calls Try.prog 27 #[.pointer (some ⟨q, 0, none⟩), .string key] w fun e w' => e = .returned (.tuple #[v, .bool true]) ∧ w = w' := by
  have hmf : ∀ (fn : Fn) (first cap : Array Value) (w : World), (Instr.makeFunc fn first cap).run Try.prog w = .ok (.func fn first cap) w := fun _ _ _ _ => rfl
  go_enter_defers Try.func27, Try.ntmps27
  go_wp2
  refine leaves_cons (f := 32) (args := #[]) (by simp) (by simp [go_sem]) ?_
  refine (caught _).mono ?_
  rintro e u' w'' ⟨rfl, rfl, rfl⟩
  simp [Leaves, settle, results, Try.results27, go_sem]

end Go.Proofs.Ythjechngpjkgnaa
