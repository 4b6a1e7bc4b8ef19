/- Layer 6: Clears, Ends; leads, awake and run. -/
import Derived.Test.YtkenaccnmmmooaaDoorE6StB
namespace Go.Proofs.YtkenaccnmmmooaaDoor.S6
open Go.RowKit Sta

namespace Sta
def clearB (a b : Int) : Bool := (b == 1 || b == 3 || b == 7 || b == 12) && !(b == a)
def endB (a b : Int) : Bool := (a == 10 || a == 12) && !(b == a)
end Sta

theorem clears_any (a b : Int) (w : World) : Calls Tryd.prog 33 #[.int .i64 a, .int .i64 b] w fun e w' => e = .returned (.bool (clearB a b)) ∧ w = w' := by
  by_cases h1 : b = 1
  · subst h1
    go_enter Tryd.func33, Tryd.ntmps33
    go_wp2
    go_ret
    exact ⟨ret_bool (by simp [clearB]; rfl), rfl⟩
  by_cases h3 : b = 3
  · subst h3
    go_enter Tryd.func33, Tryd.ntmps33
    go_wp2
    go_ret
    exact ⟨ret_bool (by simp [clearB]; rfl), rfl⟩
  by_cases h7 : b = 7
  · subst h7
    go_enter Tryd.func33, Tryd.ntmps33
    go_wp2
    go_ret
    exact ⟨ret_bool (by simp [clearB]; rfl), rfl⟩
  by_cases h12 : b = 12
  · subst h12
    go_enter Tryd.func33, Tryd.ntmps33
    go_wp2
    go_ret
    exact ⟨ret_bool (by simp [clearB]; rfl), rfl⟩
  have d1 : (b == 1) = false := by simpa using h1
  have d3 : (b == 3) = false := by simpa using h3
  have d7 : (b == 7) = false := by simpa using h7
  have d12 : (b == 12) = false := by simpa using h12
  have E := Lib.hid (show clearB a b = false by simp [clearB, h1, h3, h7, h12])
  clear h1 h3 h7 h12
  go_enter Tryd.func33, Tryd.ntmps33
  go_wp2
  go_ret
  exact ⟨ret_bool E.out.symm, rfl⟩

theorem ends_any (a b : Int) (w : World) : Calls Tryd.prog 31 #[.int .i64 a, .int .i64 b] w fun e w' => e = .returned (.bool (endB a b)) ∧ w = w' := by
  by_cases h1 : a = 10
  · subst h1
    go_enter Tryd.func31, Tryd.ntmps31
    go_wp2
    go_ret
    exact ⟨ret_bool (by simp [endB]; rfl), rfl⟩
  by_cases h3 : a = 12
  · subst h3
    go_enter Tryd.func31, Tryd.ntmps31
    go_wp2
    go_ret
    exact ⟨ret_bool (by simp [endB]; rfl), rfl⟩
  have d1 : (a == 10) = false := by simpa using h1
  have d3 : (a == 12) = false := by simpa using h3
  have E := Lib.hid (show endB a b = false by simp [endB, h1, h3])
  clear h1 h3
  go_enter Tryd.func31, Tryd.ntmps31
  go_wp2
  go_ret
  exact ⟨ret_bool E.out.symm, rfl⟩

end Go.Proofs.YtkenaccnmmmooaaDoor.S6
