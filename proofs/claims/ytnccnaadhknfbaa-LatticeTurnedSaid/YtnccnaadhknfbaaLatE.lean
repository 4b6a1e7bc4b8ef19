/- Layer 1: tables of bools in memory; the functions that read them: New's closure, wide, the document's Below, Join, Meet. -/
import Derived.Test.YtnccnaadhknfbaaLatD
import Derived.Laws.NewBlocks
namespace Go.Proofs.Ytnccnaadhknfbaa
open Go.RowKit Lat

/-- The slice at A of n slices reads as a table: row r has L r bools, T r c. All of it lies below block B. -/
def Grid (w : World) (B : Nat) (A : Option Addr) (n : Nat) (L : Nat → Nat) (T : Nat → Nat → Bool) : Prop :=
  0 < n → ∃ a, A = some a ∧ a.block < B ∧ ∀ r, r < n → ∃ A' C, w.cell? (a.add r) = some (.slice A' (L r) C) ∧ L r ≤ 9223372036854775807 ∧ ∀ c, c < L r → ∃ a', A' = some a' ∧ a'.block < B ∧ w.cell? (a'.add c) = some (.bool (T r c))

theorem add_block (a : Addr) (n : Nat) : (a.add n).block = a.block := by unfold Addr.add; split <;> rfl

theorem Grid.keep {w w' : World} {B n : Nat} {A : Option Addr} {L : Nat → Nat} {T : Nat → Nat → Bool} (h : Grid w B A n L T) (hk : ∀ p : Addr, p.block < B → w'.cell? p = w.cell? p) : Grid w' B A n L T := fun hn => by
  obtain ⟨a, e, hb, hr⟩ := h hn
  refine ⟨a, e, hb, fun r hlt => ?_⟩
  obtain ⟨A', C, hc, hl, hx⟩ := hr r hlt
  refine ⟨A', C, (hk _ (by rw [add_block]; exact hb)).trans hc, hl, fun c hcl => ?_⟩
  obtain ⟨a', e', hb', hc'⟩ := hx c hcl
  exact ⟨a', e', hb', (hk _ (by rw [add_block]; exact hb')).trans hc'⟩

theorem Grid.below {w w' : World} {B n : Nat} {A : Option Addr} {L : Nat → Nat} {T : Nat → Nat → Bool} (h : Grid w B A n L T) (hb : Below B w w') : Grid w' B A n L T := h.keep fun _ hp => hb.cell hp
theorem Grid.drewN {w : World} {B n : Nat} {A : Option Addr} {L : Nat → Nat} {T : Nat → Nat → Bool} (h : Grid w B A n L T) (k : Nat) : Grid (w.drewN k) B A n L T := h.keep fun _ _ => rfl
theorem Grid.at_ {w : World} {B n : Nat} {A : Option Addr} {L : Nat → Nat} {T : Nat → Nat → Bool} (h : Grid w B A n L T) {r : Nat} (hr : r < n) : ∃ a A' C, A = some a ∧ a.block < B ∧ w.cell? (a.add r) = some (.slice A' (L r) C) ∧ L r ≤ 9223372036854775807 ∧
    ∀ c, c < L r → ∃ a', A' = some a' ∧ a'.block < B ∧ w.cell? (a'.add c) = some (.bool (T r c)) := by
  obtain ⟨a, e, hb, hx⟩ := h (by omega)
  obtain ⟨A', C, hc, hl, hy⟩ := hx r hr
  exact ⟨a, A', C, e, hb, hc, hl, hy⟩

/-- New's closure: what the table says of a and b. -/
theorem table_any (p : Nat) (A : Option Addr) (B n cap x y : Nat) (L : Nat → Nat) (T : Nat → Nat → Bool) (w : World) (hp : w.cell? ⟨p, 0, none⟩ = some (.slice A n cap)) (hG : Grid w B A n L T) (hx : x < n) (hy : y < L x) :
    Calls Try.prog 24 #[.int .i64 x, .int .i64 y, .pointer (some ⟨p, 0, none⟩)] w fun e w' => e = .returned (.bool (T x y)) ∧ w = w' := by
  obtain ⟨a, A', C, rfl, _, hc, hl, hr⟩ := hG.at_ hx
  obtain ⟨a', rfl, _, hc'⟩ := hr y hy
  clear hr hG
  go_enter Try.func24, Try.ntmps24
  go_wp2
  go_ret
  exact ⟨rfl, rfl⟩

theorem enters_of {P : Program} {f : FuncId} {fn : Func} {b : Code} (hf : P.funcs[f]? = some fn) (hname : (fn.name == "runtime.NumGoroutine") = false) (hb : fn.body = some b) (args : Array Value) (W : World) : (callFunc f args).run P W = .ok (.enter f args) W := by
  have h1 : fn.name ≠ "runtime.NumGoroutine" := by simpa using hname
  simp [callFunc, hf, h1, hb]

theorem table_enters (args : Array Value) (W : World) : (callFunc 24 args).run Try.prog W = .ok (.enter 24 args) W :=
  enters_of Try.func24 (by kernel_rfl) rfl args W
end Go.Proofs.Ytnccnaadhknfbaa
