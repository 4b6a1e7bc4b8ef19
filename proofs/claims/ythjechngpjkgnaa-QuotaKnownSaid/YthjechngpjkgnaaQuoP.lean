/- Layer 3: the methods of a quota with keys of type api.Pane: find, Left. -/
import Derived.Test.YthjechngpjkgnaaQuoD
import Derived.Defers
import Derived.Recover
import Derived.DeepKeys4
namespace Go.Proofs.Ythjechngpjkgnaa.OfPane
open Go.RowKit Go.Maps Go.ChangeMaps

theorem laidOut : laidOutB Try.prog = true := by kernel_rfl
theorem row : (27 : TypeId) < Try.prog.types.size := of_decide_eq_true (by kernel_rfl)
theorem wide : (match Try.prog.underlying 27 with | some (.array _ _) | some (.struct _) => true | _ => false) = true := by rw [Try.underlying27]
theorem keyedP : Keyed Try.prog 27 := Keyed.of_law (deep_law_laid laidOut (m := 2) (by omega) row (by kernel_rfl) wide)
abbrev QP := IsQ 55 27

theorem caught (w : World) :
    CallsD Try.prog 34 #[] .returning w fun e u' w' => e = .returned (.tuple #[]) ∧ u' = .returning ∧ w' = w := by
  refine callsD_of_wpS Try.func34 rfl fun c₀ cs hu => ?_
  apply wpS_region
  cases c₀
  simp_all [wpOpsS, go_sem, recoverD, Try.ntmps34, bodyPostS, results, Try.results34]

abbrev box (a b c : Int) : Obj := .cells #[.int .i64 a, .int .i64 b, .int .i64 c] 27 (0, 0)

theorem find_at (q m : Nat) (a b c : Int) (v : Value) (w : World) (hq : q < w.heap.size) (c1 : w.cell? ⟨q, 1, none⟩ = some (.map (some m)))
    (hl : ∀ j, (Instr.lookup 53 (.map (some m)) (.agg #[.int .i64 a, .int .i64 b, .int .i64 c]) false).run Try.prog ((w.alloc (box a b c)).drewN j) = .ok v ((w.alloc (box a b c)).drewN j)) :
    Calls Try.prog 29 #[.pointer (some ⟨q, 0, none⟩), .agg #[.int .i64 a, .int .i64 b, .int .i64 c]] w fun e w' => e = .returned (.tuple #[v, .bool true]) ∧ Below w.heap.size w w' := by
  have hmf : ∀ (fn : Fn) (first cap : Array Value) (w : World), (Instr.makeFunc fn first cap).run Try.prog w = .ok (.func fn first cap) w := fun _ _ _ _ => rfl
  have c1' : (w.alloc (box a b c)).cell? ⟨q, 1, none⟩ = some (.map (some m)) := by
    rw [World.cell?_alloc_past _ _ _ hq]; exact c1
  clear c1
  go_enter_defers Try.func29, Try.ntmps29
  go_wp2
  go_quiet (fail)
  go_wp2
  refine leaves_cons (f := 34) (args := #[]) (by simp) (by simp [go_sem]) ?_
  refine (caught _).mono ?_
  rintro e u' w'' ⟨rfl, rfl, rfl⟩
  simp [Leaves, settle, results, Try.results29, go_sem]
  exact below_drew ((Below.refl _ _).alloc (Nat.le_refl _) _) _

end Go.Proofs.Ythjechngpjkgnaa.OfPane
