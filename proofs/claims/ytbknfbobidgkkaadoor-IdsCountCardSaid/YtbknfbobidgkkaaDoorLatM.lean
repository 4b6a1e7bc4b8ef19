/- Layer 1, plain mathematics: sets of labels as the bits of a word; the first label that fits; joins of an order table. Nothing of the program. -/
import Derived.Laws.BitsAllLaws
namespace Go.Proofs.YtbknfbobidgkkaaDoor.Lat

/-- The first number below n of which p holds; -1, if there is none. -/
def first (n : Nat) (p : Nat → Bool) : Int := match (List.range n).find? p with | some x => (x : Int) | none => -1

theorem first_of {n : Nat} {p : Nat → Bool} {k : Nat} (hk : k < n) (hp : p k = true) (hn : ∀ j, j < k → p j = false) : first n p = k := by
  have h : (List.range n).find? p = some k := by
    rw [List.find?_range_eq_some]
    exact ⟨hp, List.mem_range.2 hk, fun j hj => by simp [hn j hj]⟩
  simp [first, h]

theorem first_none {n : Nat} {p : Nat → Bool} (hn : ∀ j, j < n → p j = false) : first n p = -1 := by
  have h : (List.range n).find? p = none := by
    rw [List.find?_eq_none]
    intro x hx
    simp [hn x (List.mem_range.1 hx)]
  simp [first, h]

theorem first_cases (n : Nat) (p : Nat → Bool) : (first n p = -1 ∧ ∀ j, j < n → p j = false) ∨ ∃ k, k < n ∧ first n p = (k : Int) ∧ p k = true ∧ ∀ j, j < k → p j = false := by
  cases h : (List.range n).find? p with
  | none =>
    left
    rw [List.find?_eq_none] at h
    exact ⟨by simp [first, List.find?_eq_none.2 h], fun j hj => by simpa using h j (List.mem_range.2 hj)⟩
  | some k =>
    right
    have h' := h
    rw [List.find?_range_eq_some] at h
    refine ⟨k, List.mem_range.1 h.2.1, by simp [first, h'], h.1, fun j hj => by simpa using h.2.2 j hj⟩

theorem first_congr {n : Nat} {p q : Nat → Bool} (h : ∀ j, j < n → p j = q j) : first n p = first n q := by
  rcases first_cases n p with ⟨e, hp⟩ | ⟨k, hk, e, hp, hn⟩
  · rw [e, first_none fun j hj => by rw [← h j hj]; exact hp j hj]
  · rw [e, first_of hk (by rw [← h k hk]; exact hp) fun j hj => by rw [← h j (by omega)]; exact hn j hj]

theorem first_bd (n : Nat) (p : Nat → Bool) : -1 ≤ first n p ∧ first n p < n := by
  rcases first_cases n p with ⟨e, _⟩ | ⟨k, hk, e, _, _⟩ <;> rw [e] <;> omega

/-- All of S lies on x's side. -/
def onSide (n : Nat) (S : Nat → Bool) (R : Nat → Bool) : Bool := (List.range n).all fun y => !S y || R y

theorem onSide_iff (n : Nat) (S R : Nat → Bool) : onSide n S R = true ↔ ∀ y, y < n → S y = true → R y = true := by
  simp only [onSide, List.all_eq_true, List.mem_range, Bool.or_eq_true, Bool.not_eq_true']
  constructor
  · intro h y hy hs
    rcases h y hy with h | h
    · rw [h] at hs; cases hs
    · exact h
  · intro h y hy
    cases hs : S y
    · exact Or.inl rfl
    · exact Or.inr (h y hy hs)

/-- The first label of S on whose side all of S lies; -1, if there is none. -/
def near (n : Nat) (S : Nat → Bool) (T : Nat → Nat → Bool) : Int := first n fun x => S x && onSide n S (T x)

/-- The join of a and b in the order T of n labels; -1, if there is none. -/
def joinT (n : Nat) (T : Nat → Nat → Bool) (a b : Nat) : Int := near n (fun x => T a x && T b x) T

/-- The order turned over. -/
def flipT (T : Nat → Nat → Bool) : Nat → Nat → Bool := fun a b => T b a

/-- u's bits are those of S below n. -/
structure BitsOf (n : Nat) (u : Nat) (S : Nat → Bool) : Prop where
  lt : u < 18446744073709551616
  bit : ∀ j, u.testBit j = (decide (j < n) && S j)

theorem BitsOf.and {n u v : Nat} {S R : Nat → Bool} (h : BitsOf n u S) (k : BitsOf n v R) : BitsOf n (u &&& v) (fun x => S x && R x) := by
  refine ⟨?_, fun j => ?_⟩
  · have := Nat.and_lt_two_pow u (y := v) (n := 64) (by have := k.lt; omega)
    omega
  · rw [Nat.testBit_and, h.bit, k.bit]
    cases decide (j < n) <;> simp

theorem BitsOf.bits_and {n u v : Nat} {S R : Nat → Bool} (h : BitsOf n u S) (k : BitsOf n v R) : bits .and .u64 (u : Int) (v : Int) = ((u &&& v : Nat) : Int) := u64_and_nat u v h.lt k.lt

theorem BitsOf.or_one {n u b : Nat} {S : Nat → Bool} (h : BitsOf n u S) (hb : b < n) (hn : n ≤ 64) : BitsOf n (u ||| 2 ^ b) (fun x => S x || x == b) := by
  have h1 : 2 ^ b < 2 ^ 64 := Nat.pow_lt_pow_right (by omega) (by omega)
  refine ⟨?_, fun j => ?_⟩
  · have := Nat.or_lt_two_pow (x := u) (y := 2 ^ b) (n := 64) (by have := h.lt; omega) h1
    omega
  · rw [Nat.testBit_or, h.bit, Nat.testBit_two_pow]
    by_cases e : b = j
    · subst e; simp [hb]
    · have e' : (j == b) = false := by simp; omega
      simp [e, e']

theorem BitsOf.congr {n u : Nat} {S R : Nat → Bool} (h : BitsOf n u S) (e : ∀ j, j < n → S j = R j) : BitsOf n u R :=
  ⟨h.lt, fun j => by
    rw [h.bit]
    by_cases hj : j < n
    · rw [e j hj]
    · simp [hj]⟩

theorem BitsOf.zero (n : Nat) : BitsOf n 0 (fun _ => false) := ⟨by omega, fun j => by simp⟩

theorem and_zero_iff (s u : Nat) (hu : u < 2 ^ 64) (hs : s < 2 ^ 64) : s &&& (18446744073709551615 - u) = 0 ↔ ∀ j, s.testBit j = true → u.testBit j = true := by
  have hm : ∀ j, (18446744073709551615 - u).testBit j = (decide (j < 64) && !u.testBit j) := fun j => by
    have := Nat.testBit_two_pow_sub_succ hu j
    rw [show 2 ^ 64 - (u + 1) = 18446744073709551615 - u from by omega] at this
    exact this
  constructor
  · intro h j hj
    have h1 : (s &&& (18446744073709551615 - u)).testBit j = false := by rw [h]; simp
    rw [Nat.testBit_and, hm, hj] at h1
    have h64 : j < 64 := by
      by_cases hlt : j < 64
      · exact hlt
      · have : s < 2 ^ j := Nat.lt_of_lt_of_le hs (Nat.pow_le_pow_right (by omega) (by omega))
        rw [Nat.testBit_lt_two_pow this] at hj
        cases hj
    simpa [h64] using h1
  · intro h
    apply Nat.eq_of_testBit_eq
    intro j
    rw [Nat.testBit_and, hm, Nat.zero_testBit]
    cases hj : s.testBit j
    · simp
    · simp [h j hj]

theorem BitsOf.andNot {n s u : Nat} {S R : Nat → Bool} (h : BitsOf n s S) (k : BitsOf n u R) : (bits .andNot .u64 (s : Int) (u : Int) == 0) = onSide n S R := by
  rw [u64_andNot_nat s u h.lt k.lt, Bool.eq_iff_iff, onSide_iff, beq_iff_eq]
  have e : (((s &&& (18446744073709551615 - u) : Nat) : Int) = 0) ↔ s &&& (18446744073709551615 - u) = 0 := by omega
  rw [e, and_zero_iff s u (by have := k.lt; omega) (by have := h.lt; omega)]
  constructor
  · intro hh y hy hs
    have := hh y (by rw [h.bit]; simp [hy, hs])
    rw [k.bit] at this
    simpa [hy] using this
  · intro hh j hj
    rw [h.bit] at hj
    simp only [Bool.and_eq_true, decide_eq_true_eq] at hj
    rw [k.bit]
    simp [hj.1, hh j hj.1 hj.2]

theorem has_eq (s a : Nat) (hs : s < 18446744073709551616) : (bits BinOp.and IntKind.u64 ((s : Int) / 2 ^ a) 1 == 1) = s.testBit a := by
  have e : ((s : Int) / 2 ^ a) = ((s / 2 ^ a : Nat) : Int) := by simp
  have h1 : s / 2 ^ a ≤ s := Nat.div_le_self _ _
  have := u64_and_nat (s / 2 ^ a) 1 (by omega) (by omega)
  rw [e]
  rw [show (1 : Int) = ((1 : Nat) : Int) from rfl, this, Nat.testBit_eq_decide_div_mod_eq, Nat.and_one_is_mod, Bool.eq_iff_iff, beq_iff_eq, decide_eq_true_eq]
  omega

theorem all_eq (n : Nat) (hn : n ≤ 64) : (18446744073709551615 : Int) / 2 ^ (64 - n) = ((2 ^ n - 1 : Nat) : Int) := by
  have h : (2 ^ (64 - n) * 2 ^ n - (0 + 1)) / 2 ^ (64 - n) = 2 ^ n - (0 / 2 ^ (64 - n) + 1) := Nat.mul_sub_div 0 (2 ^ (64 - n)) (2 ^ n) (by
    rw [← Nat.pow_add]; exact Nat.two_pow_pos _)
  rw [← Nat.pow_add, show 64 - n + n = 64 from by omega, Nat.zero_div] at h
  have h2 : (18446744073709551615 : Int) = ((2 ^ 64 - (0 + 1) : Nat) : Int) := by decide
  rw [h2, show (2 : Int) ^ (64 - n) = ((2 ^ (64 - n) : Nat) : Int) by simp, ← Int.natCast_ediv, h]

theorem BitsOf.all (n : Nat) (hn : n ≤ 64) : BitsOf n (2 ^ n - 1) (fun _ => true) := by
  refine ⟨?_, fun j => ?_⟩
  · have : 2 ^ n ≤ 2 ^ 64 := Nat.pow_le_pow_right (by omega) hn
    have := Nat.two_pow_pos n
    omega
  · rw [Nat.testBit_two_pow_sub_one]; simp

theorem wrap_pow (k : Nat) (hk : k < 64) : IntKind.u64.wrap (2 ^ k) = ((2 ^ k : Nat) : Int) := by
  have h : 2 ^ k < 2 ^ 64 := Nat.pow_lt_pow_right (by omega) hk
  rw [IntKind.wrap_u64, show (2 : Int) ^ k = ((2 ^ k : Nat) : Int) by simp]
  generalize 2 ^ k = q at h
  omega

theorem BitsOf.ne_one {n u v k : Nat} {S R : Nat → Bool} (h : BitsOf n u S) (h' : BitsOf n v R) (hk : k < n) (hn : n ≤ 64) :
    (((u &&& v : Nat) : Int) != IntKind.u64.wrap (2 ^ k)) = !((List.range n).all fun x => (S x && R x) == (x == k)) := by
  rw [wrap_pow k (by omega)]
  have e : (((u &&& v : Nat) : Int) == ((2 ^ k : Nat) : Int)) = (List.range n).all fun x => (S x && R x) == (x == k) := by
    rw [Bool.eq_iff_iff, beq_iff_eq, List.all_eq_true]
    have e2 : (((u &&& v : Nat) : Int) = ((2 ^ k : Nat) : Int)) ↔ u &&& v = 2 ^ k := by omega
    rw [e2]
    have hb := (h.and h').bit
    constructor
    · intro hh x hx
      have := hb x
      rw [hh, Nat.testBit_two_pow] at this
      simp only [List.mem_range.1 hx, decide_true, Bool.true_and] at this
      rw [← this, beq_iff_eq]
      by_cases e : k = x <;> simp [e]
      omega
    · intro hh
      apply Nat.eq_of_testBit_eq
      intro j
      rw [hb j, Nat.testBit_two_pow]
      by_cases hj : j < n
      · have := hh j (List.mem_range.2 hj)
        rw [beq_iff_eq] at this
        rw [this]
        by_cases e : k = j <;> simp [e, hj]
        omega
      · have : ¬ k = j := by omega
        simp [hj, this]
  rw [bne, e]

theorem all_range_true {n : Nat} {p : Nat → Bool} (h : ∀ j, j < n → p j = true) : (List.range n).all p = true := by
  rw [List.all_eq_true]
  exact fun x hx => h x (List.mem_range.1 hx)
theorem all_range_false {n : Nat} {p : Nat → Bool} {k : Nat} (hk : k < n) (h : p k = false) : (List.range n).all p = false := by
  rw [List.all_eq_false]
  exact ⟨k, List.mem_range.2 hk, by simp [h]⟩

end Go.Proofs.YtbknfbobidgkkaaDoor.Lat
