/- Layer 14: BackStill's walk, as its proof takes it. -/
import Derived.Test.YtpanhkhiomgclaaBaQ
import Derived.OpenShut
set_option linter.unusedVariables false
namespace Go.Proofs.Ytpanhkhiomgclaa.Ba
open Go.RowKit Go.ChangeShapes Go.WideShapes
theorem u8_of {a : Int} (h : (Lit.int .u8 a).wf = true) : ∃ n : Nat, a = (n : Int) ∧ n < 256 := by
  simp [Lit.wf, IntKind.min, IntKind.max, IntKind.signed, IntKind.bits] at h
  exact ⟨a.toNat, by omega, by omega⟩
theorem still_row (m : Int) (v : Value) (L : List Int) (a b c d : Int) (w : World) (H : LiesI w v L) (hL : ∀ k, k < L.length → IntIn (L.getD k 0)) (ha : (Lit.int .u8 a).wf = true) (hb : (Lit.int .u8 b).wf = true) (hc : (Lit.int .u8 c).wf = true) (hd : (Lit.int .u8 d).wf = true) : Calls Try.prog 6 #[.int .i64 m, v, .int .u8 a, .int .u8 b, .int .u8 c, .int .u8 d] w fun e w' => e = .returned (.bool true) ∧ Below w.heap.size w w' := by
  obtain ⟨A, cc, rfl, -⟩ := id H
  by_cases h : m < 0 ∨ m > 500 ∨ L.length > 60
  · exact still_no m a b c d h
  · obtain ⟨M, rfl⟩ : ∃ M : Nat, m = (M : Int) := ⟨m.toNat, by omega⟩
    obtain ⟨a', rfl, ka⟩ := u8_of ha
    obtain ⟨b', rfl, kb⟩ := u8_of hb
    obtain ⟨c', rfl, kc⟩ := u8_of hc
    obtain ⟨d', rfl, kd⟩ := u8_of hd
    exact still_yes H M a' b' c' d' (by omega) (by omega) ka kb kc kd
end Go.Proofs.Ytpanhkhiomgclaa.Ba
