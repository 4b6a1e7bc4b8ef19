/- Layer 3: a nil quota, and one that nobody made. -/
import Derived.Test.YthjechngpjkgnaaQuoE
namespace Go.Proofs.Ythjechngpjkgnaa
open Go.RowKit Go.Maps Go.ChangeMaps

theorem left_nil (key : ByteArray) (w : World) : Calls Try.prog 18 #[.pointer none, .string key] w fun e w' => e = .returned (.int .i64 0) ∧ w = w' := by
  go_enter Try.func18, Try.ntmps18
  go_wp2_with fail
  go_ret
  exact ⟨rfl, rfl⟩

theorem keys_nil (w : World) : Calls Try.prog 20 #[.pointer none] w fun e w' => e = .returned (.int .i64 0) ∧ w = w' := by
  go_enter Try.func20, Try.ntmps20
  go_wp2_with fail
  go_ret
  exact ⟨rfl, rfl⟩

theorem tick_nil (w : World) : Calls Try.prog 17 #[.pointer none] w fun e w' => e = .returned (.tuple #[]) ∧ w = w' := by
  go_enter Try.func17, Try.ntmps17
  go_wp2_with fail
  go_end0
  exact ⟨rfl, rfl⟩

/-- A quota that nobody made. -/
def Bare (w : World) (q : Nat) : Prop := w.heap[q]? = some (.cells #[.int .i64 0, .map none] 51 (0, 0))

theorem Bare.cells {w : World} {q : Nat} (h : Bare w q) : w.cell? ⟨q, 0, none⟩ = some (.int .i64 0) ∧ w.cell? ⟨q, 1, none⟩ = some (.map none) := by
  refine ⟨?_, ?_⟩ <;> rw [cell_of h] <;> rfl

theorem find_bare (q : Nat) (key : ByteArray) (w : World) (h : Bare w q) (hk : key.size ≤ maxLen) :
    Calls Try.prog 27 #[.pointer (some ⟨q, 0, none⟩), .string key] w fun e w' => e = .returned (.tuple #[.pointer none, .bool true]) ∧ w = w' := by
  have c1 := h.cells.2
  have hl := look_nil (w := w) (P := Try.prog) (z := .pointer none) false keyedS Try.underlying49 (by kernel_rfl) (WideMaps.keyOf_string_mk Try.underlying9 hk)
  simp only [Bool.false_eq_true, if_false] at hl
  go_enter_defers Try.func27, Try.ntmps27
  go_wp2
  refine leaves_cons (f := 32) (args := #[]) (by simp) (by simp [go_sem]) ?_
  refine (caught _).mono ?_
  rintro e u' w'' ⟨rfl, rfl, rfl⟩
  simp [Leaves, settle, results, Try.results27, go_sem]

theorem left_bare (q : Nat) (key : ByteArray) (w : World) (h : Bare w q) (hk : key.size ≤ maxLen) :
    Calls Try.prog 18 #[.pointer (some ⟨q, 0, none⟩), .string key] w fun e w' => e = .returned (.int .i64 0) ∧ w = w' := by
  have hnot : ∀ (x : Bool) (w : World), (Op.unary .not (.bool x)).run Try.prog w = .ok (.bool (!x)) w := fun _ _ => rfl
  have HF := Lib.hid (find_bare q key w h hk)
  have c0 := h.cells.1
  clear h
  go_enter Try.func18, Try.ntmps18
  go_wp2_with fail
  refine HF.out.mono ?_
  rintro e w' ⟨rfl, rfl⟩
  go_wp2
  go_ret
  exact ⟨rfl, rfl⟩

theorem keys_bare (q : Nat) (w : World) (h : Bare w q) : Calls Try.prog 20 #[.pointer (some ⟨q, 0, none⟩)] w fun e w' => e = .returned (.int .i64 0) ∧ w = w' := by
  have c1 := h.cells.2
  have hl := fun ty => Maps.len_nil (P := Try.prog) (w := w) Try.underlying49 ty
  clear h
  go_enter Try.func20, Try.ntmps20
  go_wp2_with fail
  go_ret
  exact ⟨rfl, rfl⟩

theorem tick_bare (q : Nat) (w : World) (h : Bare w q) : Calls Try.prog 17 #[.pointer (some ⟨q, 0, none⟩)] w fun e w' => e = .returned (.tuple #[]) ∧ w = w' := by
  have c1 := h.cells.2
  have hl := fun ty => clear_none (P := Try.prog) Try.underlying49 w ty
  clear h
  go_enter Try.func17, Try.ntmps17
  go_wp2_with fail
  go_end0
  exact ⟨rfl, rfl⟩

/-- Take, where nothing is left. -/
theorem take_no (p : Option Addr) (key : ByteArray) (x : Int) (w : World) (hL : Calls Try.prog 18 #[.pointer p, .string key] w fun e w' => e = .returned (.int .i64 0) ∧ w = w') :
    Calls Try.prog 15 #[.pointer p, .string key, .int .i64 x] w fun e w' => e = .returned (.bool (x == 0)) ∧ w = w' := by
  have HL := Lib.hid hL
  clear hL
  by_cases hx0 : x < 0
  · go_enter Try.func15, Try.ntmps15
    go_wp2_with fail
    go_ret
    exact ⟨ret_bool (by simp; omega), rfl⟩
  by_cases hx1 : 0 < x
  · go_enter Try.func15, Try.ntmps15
    go_wp2_with fail
    refine HL.out.mono ?_
    rintro e w' ⟨rfl, rfl⟩
    go_wp2_with fail
    go_ret
    exact ⟨ret_bool (by simp; omega), rfl⟩
  · go_enter Try.func15, Try.ntmps15
    go_wp2_with fail
    refine HL.out.mono ?_
    rintro e w' ⟨rfl, rfl⟩
    go_wp2_with fail
    go_ret
    exact ⟨ret_bool (by simp; omega), rfl⟩

end Go.Proofs.Ythjechngpjkgnaa
