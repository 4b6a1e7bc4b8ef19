/- Layer 3: the methods of a quota with keys of type string. -/
import Derived.Test.YthjechngpjkgnaaQuoD
import Derived.Defers
import Derived.Recover
namespace Go.Proofs.Ythjechngpjkgnaa
open Go.RowKit Go.Maps Go.ChangeMaps

theorem keyedS : Keyed Try.prog 9 := string_keyed Try.underlying9
abbrev QS := IsQ 51 9

theorem caught (w : World) :
    CallsD Try.prog 32 #[] .returning w fun e u' w' => e = .returned (.tuple #[]) ∧ u' = .returning ∧ w' = w := by
  refine callsD_of_wpS Try.func32 rfl fun c₀ cs hu => ?_
  apply wpS_region
  cases c₀
  simp_all [wpOpsS, go_sem, recoverD, Try.ntmps32, bodyPostS, results, Try.results32]

theorem find_at (q m : Nat) (key : ByteArray) (v : Value) (w : World) (c1 : w.cell? ⟨q, 1, none⟩ = some (.map (some m))) (hl : (Instr.lookup 49 (.map (some m)) (.string key) false).run Try.prog w = .ok v w) :
    Calls Try.prog 27 #[.pointer (some ⟨q, 0, none⟩), .string key] w fun e w' => e = .returned (.tuple #[v, .bool true]) ∧ w = w' := by
  have hmf : ∀ (fn : Fn) (first cap : Array Value) (w : World), (Instr.makeFunc fn first cap).run Try.prog w = .ok (.func fn first cap) w := fun _ _ _ _ => rfl
  go_enter_defers Try.func27, Try.ntmps27
  go_wp2
  refine leaves_cons (f := 32) (args := #[]) (by simp) (by simp [go_sem]) ?_
  refine (caught _).mono ?_
  rintro e u' w'' ⟨rfl, rfl, rfl⟩
  simp [Leaves, settle, results, Try.results27, go_sem]

end Go.Proofs.Ythjechngpjkgnaa
