/- Layer 1: New's closure. -/
import Derived.Test.YtjfonbkeamhnmaaLatD
import Derived.Test.YtjfonbkeamhnmaaLatE
namespace Go.Proofs.Ytjfonbkeamhnmaa
open Go.RowKit Lat

/-- New's closure: what the table says of a and b. -/
theorem table_any (p : Nat) (A : Option Addr) (B n cap x y : Nat) (L : Nat → Nat) (T : Nat → Nat → Bool) (w : World) (hp : w.cell? ⟨p, 0, none⟩ = some (.slice A n cap)) (hG : Grid w B A n L T) (hx : x < n) (hy : y < L x) :
    Calls Try.prog 38 #[.int .i64 x, .int .i64 y, .pointer (some ⟨p, 0, none⟩)] w fun e w' => e = .returned (.bool (T x y)) ∧ w = w' := by
  obtain ⟨a, A', C, rfl, _, hc, hl, hr⟩ := hG.at_ hx
  obtain ⟨a', rfl, _, hc'⟩ := hr y hy
  clear hr hG
  go_enter Try.func38, Try.ntmps38
  go_wp2
  go_ret
  exact ⟨rfl, rfl⟩

theorem table_enters (args : Array Value) (W : World) : (callFunc 38 args).run Try.prog W = .ok (.enter 38 args) W :=
  enters_of Try.func38 (by kernel_rfl) rfl args W
end Go.Proofs.Ytjfonbkeamhnmaa
