/- Tables of bools in memory. -/
import Derived.Test.YtjfonbkeamhnmaaLatA
import Derived.Laws.NewBlocks
namespace Go.Proofs.Ytjfonbkeamhnmaa
open Go.RowKit Lat

/-- The slice at A of n slices reads as a table: row r has L r bools, T r c. All of it lies below block B. -/
def Grid (w : World) (B : Nat) (A : Option Addr) (n : Nat) (L : Nat → Nat) (T : Nat → Nat → Bool) : Prop :=
  0 < n → ∃ a, A = some a ∧ a.block < B ∧ ∀ r, r < n → ∃ A' C, w.cell? (a.add r) = some (.slice A' (L r) C) ∧ L r ≤ 9223372036854775807 ∧ ∀ c, c < L r → ∃ a', A' = some a' ∧ a'.block < B ∧ w.cell? (a'.add c) = some (.bool (T r c))

theorem add_block (a : Addr) (n : Nat) : (a.add n).block = a.block := by unfold Addr.add; split <;> rfl

theorem Grid.keep {w w' : World} {B n : Nat} {A : Option Addr} {L : Nat → Nat} {T : Nat → Nat → Bool} (h : Grid w B A n L T) (hk : ∀ p : Addr, p.block < B → w'.cell? p = w.cell? p) : Grid w' B A n L T := fun hn => by
  obtain ⟨a, e, hb, hr⟩ := h hn
  refine ⟨a, e, hb, fun r hlt => ?_⟩
  obtain ⟨A', C, hc, hl, hx⟩ := hr r hlt
  refine ⟨A', C, (hk _ (by rw [add_block]; exact hb)).trans hc, hl, fun c hcl => ?_⟩
  obtain ⟨a', e', hb', hc'⟩ := hx c hcl
  exact ⟨a', e', hb', (hk _ (by rw [add_block]; exact hb')).trans hc'⟩

theorem Grid.below {w w' : World} {B n : Nat} {A : Option Addr} {L : Nat → Nat} {T : Nat → Nat → Bool} (h : Grid w B A n L T) (hb : Below B w w') : Grid w' B A n L T := h.keep fun _ hp => hb.cell hp
theorem Grid.drewN {w : World} {B n : Nat} {A : Option Addr} {L : Nat → Nat} {T : Nat → Nat → Bool} (h : Grid w B A n L T) (k : Nat) : Grid (w.drewN k) B A n L T := h.keep fun _ _ => rfl
theorem Grid.at_ {w : World} {B n : Nat} {A : Option Addr} {L : Nat → Nat} {T : Nat → Nat → Bool} (h : Grid w B A n L T) {r : Nat} (hr : r < n) : ∃ a A' C, A = some a ∧ a.block < B ∧ w.cell? (a.add r) = some (.slice A' (L r) C) ∧ L r ≤ 9223372036854775807 ∧
    ∀ c, c < L r → ∃ a', A' = some a' ∧ a'.block < B ∧ w.cell? (a'.add c) = some (.bool (T r c)) := by
  obtain ⟨a, e, hb, hx⟩ := h (by omega)
  obtain ⟨A', C, hc, hl, hy⟩ := hx r hr
  exact ⟨a, A', C, e, hb, hc, hl, hy⟩

theorem enters_of {P : Program} {f : FuncId} {fn : Func} {b : Code} (hf : P.funcs[f]? = some fn) (hname : (fn.name == "runtime.NumGoroutine") = false) (hb : fn.body = some b) (args : Array Value) (W : World) : (callFunc f args).run P W = .ok (.enter f args) W := by
  have h1 : fn.name ≠ "runtime.NumGoroutine" := by simpa using hname
  simp [callFunc, hf, h1, hb]

end Go.Proofs.Ytjfonbkeamhnmaa
