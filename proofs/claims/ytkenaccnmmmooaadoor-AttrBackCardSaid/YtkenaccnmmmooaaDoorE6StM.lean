/- Layer 6: what a byte does in a state, as numbers. Plain mathematics, nothing of the program. -/
import Derived.Lib.Hide
set_option linter.unusedVariables false
namespace Go.Proofs.YtkenaccnmmmooaaDoor.S6.Sta

def groundV (c : Int) : Int × Int := if c < 32 then (2, 0) else if c = 127 then (0, 0) else (1, 0)
def escV (c : Int) : Int × Int :=
  if c < 32 then (2, 1) else if c < 48 then (3, 2) else if 127 ≤ c then (0, 1) else if c = 80 then (0, 7) else if c = 88 then (0, 13) else if c = 94 then (0, 13)
  else if c = 95 then (0, 13) else if c = 91 then (0, 3) else if c = 93 then (0, 12) else (5, 0)
def interV (c : Int) : Int × Int := if c < 32 then (2, 2) else if c < 48 then (3, 2) else if c < 127 then (5, 0) else (0, 2)
def headV (e p i g s c : Int) : Int × Int := if c < 48 then (3, i) else if s = i then (0, g) else if c < 60 then (4, p) else if s = e then (3, p) else (0, g)
def csiV (s c : Int) : Int × Int := if c < 32 then (2, s) else if c < 64 then headV 3 4 5 6 s c else if c < 127 then (6, 0) else (0, s)
def ignV (c : Int) : Int × Int := if c < 32 then (2, 6) else if 64 ≤ c then (if c < 127 then (0, 0) else (0, 6)) else (0, 6)
def dcsV (s c : Int) : Int × Int := if c < 32 then (0, s) else if 127 ≤ c then (0, s) else if c < 64 then headV 7 8 9 11 s c else (7, 10)
def passV (c : Int) : Int × Int := if c = 127 then (0, 10) else (8, 10)
def oscV (c : Int) : Int × Int := if c = 7 then (0, 0) else if c < 32 then (0, 12) else (8, 12)

/-- What a byte does in a state, but for those that do the same in all. -/
def inV (s c : Int) : Int × Int :=
  if s = 1 then escV c else if s = 2 then interV c else if s = 3 then csiV 3 c else if s = 4 then csiV 4 c else if s = 5 then csiV 5 c else if s = 6 then ignV c
  else if s = 7 then dcsV 7 c else if s = 8 then dcsV 8 c else if s = 9 then dcsV 9 c else if s = 10 then passV c else if s = 12 then oscV c
  else if s = 11 then (0, 11) else if s = 13 then (0, 13) else groundV c
def nextV (s c : Int) : Int × Int := if c = 24 then (2, 0) else if c = 26 then (2, 0) else if c = 27 then (0, 1) else inV s c

/-- The document's table: state, bytes from one to another, action, the state behind. -/
def tab : List (Int × Int × Int × Int × Int) := [
  (0, 0, 23, 2, 0), (0, 25, 25, 2, 0), (0, 28, 31, 2, 0), (0, 32, 126, 1, 0), (0, 127, 127, 0, 0), (0, 128, 255, 1, 0),
  (1, 0, 23, 2, 1), (1, 25, 25, 2, 1), (1, 28, 31, 2, 1), (1, 32, 47, 3, 2), (1, 48, 79, 5, 0), (1, 80, 80, 0, 7),
  (1, 81, 87, 5, 0), (1, 88, 88, 0, 13), (1, 89, 90, 5, 0), (1, 91, 91, 0, 3), (1, 92, 92, 5, 0), (1, 93, 93, 0, 12),
  (1, 94, 95, 0, 13), (1, 96, 126, 5, 0), (1, 127, 255, 0, 1), (2, 0, 23, 2, 2), (2, 25, 25, 2, 2), (2, 28, 31, 2, 2),
  (2, 32, 47, 3, 2), (2, 48, 126, 5, 0), (2, 127, 255, 0, 2), (3, 0, 23, 2, 3), (3, 25, 25, 2, 3), (3, 28, 31, 2, 3),
  (3, 32, 47, 3, 5), (3, 48, 59, 4, 4), (3, 60, 63, 3, 4), (3, 64, 126, 6, 0), (3, 127, 255, 0, 3), (4, 0, 23, 2, 4),
  (4, 25, 25, 2, 4), (4, 28, 31, 2, 4), (4, 32, 47, 3, 5), (4, 48, 59, 4, 4), (4, 60, 63, 0, 6), (4, 64, 126, 6, 0),
  (4, 127, 255, 0, 4), (5, 0, 23, 2, 5), (5, 25, 25, 2, 5), (5, 28, 31, 2, 5), (5, 32, 47, 3, 5), (5, 48, 63, 0, 6),
  (5, 64, 126, 6, 0), (5, 127, 255, 0, 5), (6, 0, 23, 2, 6), (6, 25, 25, 2, 6), (6, 28, 31, 2, 6), (6, 32, 63, 0, 6),
  (6, 64, 126, 0, 0), (6, 127, 255, 0, 6), (7, 0, 23, 0, 7), (7, 25, 25, 0, 7), (7, 28, 31, 0, 7), (7, 32, 47, 3, 9),
  (7, 48, 59, 4, 8), (7, 60, 63, 3, 8), (7, 64, 126, 7, 10), (7, 127, 255, 0, 7), (8, 0, 23, 0, 8), (8, 25, 25, 0, 8),
  (8, 28, 31, 0, 8), (8, 32, 47, 3, 9), (8, 48, 59, 4, 8), (8, 60, 63, 0, 11), (8, 64, 126, 7, 10), (8, 127, 255, 0, 8),
  (9, 0, 23, 0, 9), (9, 25, 25, 0, 9), (9, 28, 31, 0, 9), (9, 32, 47, 3, 9), (9, 48, 63, 0, 11), (9, 64, 126, 7, 10),
  (9, 127, 255, 0, 9), (10, 0, 23, 8, 10), (10, 25, 25, 8, 10), (10, 28, 126, 8, 10), (10, 127, 127, 0, 10), (10, 128, 255, 8, 10),
  (11, 0, 23, 0, 11), (11, 25, 25, 0, 11), (11, 28, 255, 0, 11), (12, 0, 6, 0, 12), (12, 7, 7, 0, 0), (12, 8, 23, 0, 12),
  (12, 25, 25, 0, 12), (12, 28, 31, 0, 12), (12, 32, 255, 8, 12), (13, 0, 23, 0, 13), (13, 25, 25, 0, 13), (13, 28, 255, 0, 13)]

def fitsR (s c : Int) (r : Int × Int × Int × Int × Int) : Bool := r.1 == s && decide (r.2.1 ≤ c) && decide (c ≤ r.2.2.1)
/-- The first row that fits, from a place on. -/
def findV (s c : Int) : List (Int × Int × Int × Int × Int) → Int × Int
  | [] => (0, 0)
  | r :: l => if fitsR s c r then (r.2.2.2.1, r.2.2.2.2) else findV s c l
def clampV (s : Int) : Int := if s < 0 then 0 else if 13 < s then 0 else s
def refV (s c : Int) : Int × Int := if c = 24 then (2, 0) else if c = 26 then (2, 0) else if c = 27 then (0, 1) else findV (clampV s) c tab

theorem nat_of {x : Int} {n : Nat} (h0 : 0 ≤ x) (h : x < n) : ∃ k : Nat, k < n ∧ x = k := ⟨x.toNat, by omega, by omega⟩

set_option maxRecDepth 100000 in
theorem grid_ref : ∀ s, s < 14 → ∀ c, c < 256 → refV ((s : Nat) : Int) ((c : Nat) : Int) = nextV s c := by decide +kernel

theorem inV_out {s : Int} (h : s < 0 ∨ 13 < s) (c : Int) : inV s c = inV 0 c := by
  unfold inV
  rw [if_neg (by omega), if_neg (by omega), if_neg (by omega), if_neg (by omega), if_neg (by omega), if_neg (by omega), if_neg (by omega), if_neg (by omega), if_neg (by omega), if_neg (by omega), if_neg (by omega), if_neg (by omega), if_neg (by omega)]
  rfl
theorem nextV_out {s : Int} (h : s < 0 ∨ 13 < s) (c : Int) : nextV s c = nextV 0 c := by
  unfold nextV
  rw [inV_out h]
theorem refV_clamp (s c : Int) : refV s c = refV (clampV s) c := by
  have : clampV (clampV s) = clampV s := by unfold clampV; split <;> rename_i h <;> (try rfl); split <;> rename_i h2; · rfl
                                            simp
  unfold refV
  rw [this]
theorem ref_next (s c : Int) (c0 : 0 ≤ c) (c1 : c < 256) : refV s c = nextV s c := by
  obtain ⟨b, hb, rfl⟩ := nat_of (n := 256) c0 c1
  by_cases h : s < 0 ∨ 13 < s
  · rw [refV_clamp, nextV_out h, show clampV s = ((0 : Nat) : Int) by unfold clampV; rcases h with h | h <;> simp [h]]
    exact grid_ref 0 (by omega) b hb
  · obtain ⟨k, hk, rfl⟩ := nat_of (x := s) (n := 14) (by omega) (by omega)
    exact grid_ref k hk b hb

set_option maxRecDepth 100000 in
theorem grid_in : ∀ s, s < 14 → ∀ c, c < 256 → 0 ≤ (nextV ((s : Nat) : Int) ((c : Nat) : Int)).2 ∧ (nextV s c).2 ≤ 13 := by decide +kernel
theorem next_in {s c : Int} (s0 : 0 ≤ s) (s1 : s ≤ 13) (c0 : 0 ≤ c) (c1 : c < 256) : 0 ≤ (nextV s c).2 ∧ (nextV s c).2 ≤ 13 := by
  obtain ⟨b, hb, rfl⟩ := nat_of (n := 256) c0 c1
  obtain ⟨k, hk, rfl⟩ := nat_of (x := s) (n := 14) s0 (by omega)
  exact grid_in k hk b hb

/-- What StatesOver says of one byte. -/
def overB (s c a n : Int) : Bool :=
  (!(decide (2 ≤ s) && decide (s ≤ 6) && decide (64 ≤ c) && decide (c < 127)) || n == 0) && (!(a == 1) || (s == 0 && n == 0)) && (!(a == 8) || ((s == 10 || s == 12) && n == s)) &&
  (!(a == 6 || a == 5) || (n == 0 && decide (48 ≤ c) && decide (c < 127)))
set_option maxRecDepth 100000 in
theorem grid_over : ∀ s, s < 14 → ∀ c, c < 256 → overB ((s : Nat) : Int) ((c : Nat) : Int) (nextV s c).1 (nextV s c).2 = true := by decide +kernel
theorem over_all {s c : Int} (s0 : 0 ≤ s) (s1 : s ≤ 13) (c0 : 0 ≤ c) (c1 : c < 256) : overB s c (nextV s c).1 (nextV s c).2 = true := by
  obtain ⟨b, hb, rfl⟩ := nat_of (n := 256) c0 c1
  obtain ⟨k, hk, rfl⟩ := nat_of (x := s) (n := 14) s0 (by omega)
  exact grid_over k hk b hb

/-- The state behind bytes. -/
def runV : Int → List UInt8 → Int
  | s, [] => s
  | s, b :: l => runV (nextV s b.toNat).2 l
theorem runV_append (s : Int) (l m : List UInt8) : runV s (l ++ m) = runV (runV s l) m := by
  induction l generalizing s with
  | nil => rfl
  | cons b l ih => exact ih _
theorem runV_in {s : Int} (s0 : 0 ≤ s) (s1 : s ≤ 13) (l : List UInt8) : 0 ≤ runV s l ∧ runV s l ≤ 13 := by
  induction l generalizing s with
  | nil => exact ⟨s0, s1⟩
  | cons b l ih =>
    have h := next_in s0 s1 (c := b.toNat) (by omega) (by have := b.toNat_lt; omega)
    exact ih h.1 h.2
theorem runV_24 (s : Int) (l : List UInt8) : runV s (24 :: l) = runV 0 l := rfl
theorem runV_27 (s : Int) (l : List UInt8) : runV s (27 :: l) = runV 1 l := rfl
theorem runV_26 (s : Int) : runV s [26] = 0 := rfl

end Go.Proofs.YtkenaccnmmmooaaDoor.S6.Sta
