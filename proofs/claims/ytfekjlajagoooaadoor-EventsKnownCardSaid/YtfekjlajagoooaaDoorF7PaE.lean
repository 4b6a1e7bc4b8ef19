/- Layer 7: tables of numbers in memory; same, One. -/
import Derived.Test.YtfekjlajagoooaaDoorF7PaD
namespace Go.Proofs.YtfekjlajagoooaaDoor.P7
open Go.RowKit Par

/-- The slice at A of n slices reads as a table: row r has L r numbers, T r c. All of it lies below block B. -/
def Grid (w : World) (B : Nat) (A : Option Addr) (n : Nat) (L : Nat → Nat) (T : Nat → Nat → Int) : Prop :=
  0 < n → ∃ a, A = some a ∧ a.block < B ∧ ∀ r, r < n → ∃ A' C, w.cell? (a.add r) = some (.slice A' (L r) C) ∧ L r ≤ 9223372036854775807 ∧ ∀ c, c < L r → ∃ a', A' = some a' ∧ a'.block < B ∧ w.cell? (a'.add c) = some (.int .i64 (T r c))

theorem add_block (a : Addr) (n : Nat) : (a.add n).block = a.block := by unfold Addr.add; split <;> rfl

theorem Grid.keep {w w' : World} {B n : Nat} {A : Option Addr} {L : Nat → Nat} {T : Nat → Nat → Int} (h : Grid w B A n L T) (hk : ∀ p : Addr, p.block < B → w'.cell? p = w.cell? p) : Grid w' B A n L T := fun hn => by
  obtain ⟨a, e, hb, hr⟩ := h hn
  refine ⟨a, e, hb, fun r hlt => ?_⟩
  obtain ⟨A', C, hc, hl, hx⟩ := hr r hlt
  refine ⟨A', C, (hk _ (by rw [add_block]; exact hb)).trans hc, hl, fun c hcl => ?_⟩
  obtain ⟨a', e', hb', hc'⟩ := hx c hcl
  exact ⟨a', e', hb', (hk _ (by rw [add_block]; exact hb')).trans hc'⟩
theorem Grid.below {w w' : World} {B n : Nat} {A : Option Addr} {L : Nat → Nat} {T : Nat → Nat → Int} (h : Grid w B A n L T) (hb : Below B w w') : Grid w' B A n L T := h.keep fun _ hp => hb.cell hp
theorem Grid.drewN {w : World} {B n : Nat} {A : Option Addr} {L : Nat → Nat} {T : Nat → Nat → Int} (h : Grid w B A n L T) (k : Nat) : Grid (w.drewN k) B A n L T := h.keep fun _ _ => rfl
theorem Grid.more {w : World} {B B' n : Nat} {A : Option Addr} {L : Nat → Nat} {T : Nat → Nat → Int} (h : Grid w B A n L T) (hB : B ≤ B') : Grid w B' A n L T := fun hn => by
  obtain ⟨a, e, hb, hr⟩ := h hn
  refine ⟨a, e, by omega, fun r hlt => ?_⟩
  obtain ⟨A', C, hc, hl, hx⟩ := hr r hlt
  refine ⟨A', C, hc, hl, fun c hcl => ?_⟩
  obtain ⟨a', e', hb', hc'⟩ := hx c hcl
  exact ⟨a', e', by omega, hc'⟩
theorem Grid.at_ {w : World} {B n : Nat} {A : Option Addr} {L : Nat → Nat} {T : Nat → Nat → Int} (h : Grid w B A n L T) {r : Nat} (hr : r < n) : ∃ a A' C, A = some a ∧ a.block < B ∧ w.cell? (a.add r) = some (.slice A' (L r) C) ∧ L r ≤ 9223372036854775807 ∧
    ∀ c, c < L r → ∃ a', A' = some a' ∧ a'.block < B ∧ w.cell? (a'.add c) = some (.int .i64 (T r c)) := by
  obtain ⟨a, e, hb, hx⟩ := h (by omega)
  obtain ⟨A', C, hc, hl, hy⟩ := hx r hr
  exact ⟨a, A', C, e, hb, hc, hl, hy⟩

/-- A slice of slices that reads as these lists. -/
def Tab (w : World) (B : Nat) (A : Option Addr) (l : List (List Nat)) : Prop := Grid w B A l.length (fun r => (l.getD r []).length) (fun r c => ((l.getD r []).getD c 0 : Nat))

/-- What One answers. -/
def oneV (n : Nat) (L : Nat → Nat) (T : Nat → Nat → Int) (i x : Int) : Int := if i < 0 ∨ (n : Int) ≤ i then x else if L i.toNat = 0 ∨ T i.toNat 0 = 0 then x else T i.toNat 0

end Go.Proofs.YtfekjlajagoooaaDoor.P7
