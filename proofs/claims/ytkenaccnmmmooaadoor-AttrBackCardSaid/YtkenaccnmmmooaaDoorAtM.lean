/- Layer 10: attributes, what parameters say, and how one is said, as numbers and lists. Plain mathematics, nothing of the program. -/
import Derived.Lib.ItoaNum
import Derived.Lib.Hide
import Derived.Laws.BitsAllLaws
set_option linter.unusedVariables false
namespace Go.Proofs.YtkenaccnmmmooaaDoor.Sgr

structure Co where
  kind : Nat
  n : Nat
deriving DecidableEq
structure At where
  fl : Nat
  fg : Co
  bg : Co
deriving DecidableEq
def zeroC : Co := ⟨0, 0⟩
def zeroA : At := ⟨0, zeroC, zeroC⟩
/-- In their types' bounds. -/
def CoOk (c : Co) : Prop := c.kind < 256 ∧ c.n < 4294967296
def AtOk (a : At) : Prop := a.fl < 65536 ∧ CoOk a.fg ∧ CoOk a.bg
theorem zero_cok : CoOk zeroC := ⟨by decide, by decide⟩
theorem zero_ok : AtOk zeroA := ⟨by decide, zero_cok, zero_cok⟩

def colB (c : Co) : Bool := if c.kind = 0 then decide (c.n = 0) else if c.kind = 1 then decide (c.n ≤ 255) else if c.kind = 2 then decide (c.n ≤ 16777215) else false
def rightB (a : At) : Bool := decide (a.fl ≤ 255) && colB a.fg && colB a.bg
theorem zero_right : rightB zeroA = true := by decide

/-- The flag that a number sets. -/
def bitV (n : Int) : Nat := if n = 1 then 1 else if n = 2 then 2 else if n = 3 then 4 else if n = 4 then 8 else if n = 5 then 16 else if n = 7 then 32 else if n = 8 then 64 else if n = 9 then 128 else 0
theorem bit_le (n : Int) : bitV n ≤ 128 := by
  unfold bitV
  repeat' split
  all_goals omega
def partV (p : List Int) (i : Nat) : Int := p.getD i 0
def fitsB (n : Int) : Bool := decide (0 ≤ n) && decide (n ≤ 255)
theorem fits_iff {n : Int} : fitsB n = true ↔ 0 ≤ n ∧ n ≤ 255 := by simp [fitsB]
def rgbV (r g b : Int) : Co := ⟨2, 65536 * r.toNat + 256 * g.toNat + b.toNat⟩
def tabV (n : Int) : Co := ⟨1, n.toNat⟩
/-- A color that 38 or 48 says: the color, how many parameters behind are taken, whether it is one. -/
def partsV (p : List Int) : Co × Nat × Bool :=
  if partV p 1 = 5 ∧ 2 < p.length ∧ fitsB (partV p 2) = true then (tabV (partV p 2), 0, true)
  else if partV p 1 = 2 ∧ 4 < p.length ∧ fitsB (partV p (if 5 < p.length then 3 else 2)) = true ∧ fitsB (partV p ((if 5 < p.length then 3 else 2) + 1)) = true ∧ fitsB (partV p ((if 5 < p.length then 3 else 2) + 2)) = true then
    (rgbV (partV p (if 5 < p.length then 3 else 2)) (partV p ((if 5 < p.length then 3 else 2) + 1)) (partV p ((if 5 < p.length then 3 else 2) + 2)), 0, true)
  else (zeroC, 0, false)
def headV (l : List (List Int)) (i : Nat) : Int := partV (l.getD i []) 0
/-- How many are taken behind a 38 or 48 whose next one is neither 5 nor 2. -/
def otherT : Nat := 1
def behindV (l : List (List Int)) : Co × Nat × Bool :=
  if l.length = 0 then (zeroC, 0, false)
  else if headV l 0 = 5 then
    (if l.length < 2 then (zeroC, l.length, false) else if fitsB (headV l 1) = true then (tabV (headV l 1), 2, true) else (zeroC, 2, false))
  else if headV l 0 = 2 then
    (if l.length < 4 then (zeroC, l.length, false) else if fitsB (headV l 1) = true ∧ fitsB (headV l 2) = true ∧ fitsB (headV l 3) = true then (rgbV (headV l 1) (headV l 2) (headV l 3), 4, true) else (zeroC, 4, false))
  else (zeroC, otherT, false)
def longV (p : List Int) (l : List (List Int)) : Co × Nat × Bool := if 1 < p.length then partsV p else behindV l
/-- A color that one number says of the foreground. -/
def shortV (n : Int) : Co × Bool := if 30 ≤ n ∧ n ≤ 37 then (tabV (n - 30), true) else if 90 ≤ n ∧ n ≤ 97 then (tabV (n - 82), true) else (zeroC, decide (n = 39))
/-- The number that counts: 4 with a second part 0 is 24. -/
def firstV (p : List Int) : Int := if partV p 0 = 4 ∧ 1 < p.length ∧ partV p 1 = 0 then 24 else partV p 0
def flagV (f : Nat) (n : Int) : Nat :=
  if 21 < n ∧ n < 30 then (if n = 22 then (f ||| bitV n) &&& 65534 else f ||| bitV n) &&& (65535 - bitV (n - 20)) else f ||| bitV n
def upV (a : At) (n : Int) : At := ⟨flagV a.fl n, if (shortV n).2 = true then (shortV n).1 else a.fg, if (shortV (n - 10)).2 = true then (shortV (n - 10)).1 else a.bg⟩
def stepV (a : At) (p : List Int) (l : List (List Int)) : At × Nat :=
  if partV p 0 = 38 then (if (longV p l).2.2 = true then { a with fg := (longV p l).1 } else a, (longV p l).2.1)
  else if partV p 0 = 48 then (if (longV p l).2.2 = true then { a with bg := (longV p l).1 } else a, (longV p l).2.1)
  else (upV (if partV p 0 = 0 then zeroA else a) (firstV p), 0)
def goV : At → Nat → List (List Int) → At
  | a, _, [] => a
  | a, s + 1, _ :: l => goV a s l
  | a, 0, p :: l => goV (stepV a p l).1 (stepV a p l).2 l
def applyV (a : At) (l : List (List Int)) : At := if l = [] then zeroA else goV a 0 l

theorem go_skip (a : At) : ∀ (s : Nat) (l : List (List Int)), goV a s l = goV a 0 (l.drop s)
  | 0, l => rfl
  | s + 1, [] => rfl
  | s + 1, p :: l => go_skip a s l
theorem go_cons (a : At) (p : List Int) (l : List (List Int)) : goV a 0 (p :: l) = goV (stepV a p l).1 0 (l.drop (stepV a p l).2) := by
  rw [← go_skip]
  rfl
/-- The walk's own form: from place k on. -/
theorem go_at (a : At) (l : List (List Int)) (k : Nat) (hk : k < l.length) : goV a 0 (l.drop k) = goV (stepV a l[k] (l.drop (k + 1))).1 0 (l.drop (k + 1 + (stepV a l[k] (l.drop (k + 1))).2)) := by
  rw [List.drop_eq_getElem_cons hk, go_cons, List.drop_drop]

/-! ### bounds -/
theorem or_lt {a b : Nat} (k : Nat) (ha : a < 2 ^ k) (hb : b < 2 ^ k) : a ||| b < 2 ^ k := Nat.or_lt_two_pow ha hb
theorem flag_lt {f : Nat} (h : f < 65536) (n : Int) : flagV f n < 65536 := by
  have h1 : f ||| bitV n < 65536 := or_lt 16 h (by have := bit_le n; omega)
  unfold flagV
  split
  · exact Nat.lt_of_le_of_lt Nat.and_le_right (by omega)
  · exact h1
theorem flag_le {f : Nat} (h : f ≤ 255) (n : Int) : flagV f n ≤ 255 := by
  have h1 : f ||| bitV n < 256 := or_lt 8 (by omega) (by have := bit_le n; omega)
  unfold flagV
  split
  · refine Nat.le_trans Nat.and_le_left ?_
    split
    · exact Nat.le_trans Nat.and_le_left (by omega)
    · omega
  · omega
theorem tab_ok {n : Int} (h : fitsB n = true) : CoOk (tabV n) ∧ colB (tabV n) = true := by
  have := fits_iff.1 h
  refine ⟨⟨show (1 : Nat) < 256 by decide, by show n.toNat < _; omega⟩, ?_⟩
  show decide (n.toNat ≤ 255) = true
  simp; omega
theorem rgb_ok {r g b : Int} (hr : fitsB r = true) (hg : fitsB g = true) (hb : fitsB b = true) : CoOk (rgbV r g b) ∧ colB (rgbV r g b) = true := by
  have := fits_iff.1 hr
  have := fits_iff.1 hg
  have := fits_iff.1 hb
  refine ⟨⟨show (2 : Nat) < 256 by decide, by show 65536 * r.toNat + 256 * g.toNat + b.toNat < _; omega⟩, ?_⟩
  show decide (65536 * r.toNat + 256 * g.toNat + b.toNat ≤ 16777215) = true
  simp; omega
theorem zero_col : CoOk zeroC ∧ colB zeroC = true := ⟨zero_cok, by decide⟩
theorem long_ok (p : List Int) (l : List (List Int)) : CoOk (longV p l).1 ∧ colB (longV p l).1 = true := by
  unfold longV partsV behindV
  repeat' split
  all_goals first
    | exact zero_col
    | exact tab_ok (by assumption)
    | exact tab_ok (‹_ ∧ _ ∧ fitsB _ = true›.2.2)
    | exact rgb_ok (‹_ ∧ _ ∧ fitsB _ = true ∧ _ ∧ _›.2.2.1) (‹_ ∧ _ ∧ fitsB _ = true ∧ _ ∧ _›.2.2.2.1) (‹_ ∧ _ ∧ fitsB _ = true ∧ _ ∧ _›.2.2.2.2)
    | exact rgb_ok (‹fitsB _ = true ∧ _ ∧ _›.1) (‹fitsB _ = true ∧ _ ∧ _›.2.1) (‹fitsB _ = true ∧ _ ∧ _›.2.2)
theorem long_taken (p : List Int) (l : List (List Int)) : (longV p l).2.1 ≤ l.length := by
  unfold longV partsV behindV
  repeat' split
  all_goals (dsimp only [otherT] <;> omega)
theorem short_ok (n : Int) : CoOk (shortV n).1 ∧ colB (shortV n).1 = true := by
  unfold shortV
  split
  · exact tab_ok (fits_iff.2 (by omega))
  split
  · exact tab_ok (fits_iff.2 (by omega))
  · exact zero_col
theorem step_ok {a : At} (h : AtOk a) (p : List Int) (l : List (List Int)) : AtOk (stepV a p l).1 := by
  have hL := (long_ok p l).1
  unfold stepV
  split
  · show AtOk (if _ then _ else _)
    split
    · exact ⟨h.1, hL, h.2.2⟩
    · exact h
  split
  · show AtOk (if _ then _ else _)
    split
    · exact ⟨h.1, h.2.1, hL⟩
    · exact h
  · have hz : AtOk (if partV p 0 = 0 then zeroA else a) := by split; exact zero_ok; exact h
    generalize (if partV p 0 = 0 then zeroA else a) = x at hz
    refine ⟨flag_lt hz.1 _, ?_, ?_⟩
    · show CoOk (if _ then _ else _)
      split
      · exact (short_ok _).1
      · exact hz.2.1
    · show CoOk (if _ then _ else _)
      split
      · exact (short_ok _).1
      · exact hz.2.2
theorem step_taken (a : At) (p : List Int) (l : List (List Int)) : (stepV a p l).2 ≤ l.length := by
  unfold stepV
  split
  · exact long_taken p l
  split
  · exact long_taken p l
  · exact Nat.zero_le _
theorem right_iff {a : At} : rightB a = true ↔ a.fl ≤ 255 ∧ colB a.fg = true ∧ colB a.bg = true := by simp [rightB, and_assoc]
theorem step_right {a : At} (h : rightB a = true) (p : List Int) (l : List (List Int)) : rightB (stepV a p l).1 = true := by
  have hL := (long_ok p l).2
  have ha := right_iff.1 h
  unfold stepV
  split
  · show rightB (if _ then _ else _) = true
    split
    · exact right_iff.2 ⟨ha.1, hL, ha.2.2⟩
    · exact h
  split
  · show rightB (if _ then _ else _) = true
    split
    · exact right_iff.2 ⟨ha.1, ha.2.1, hL⟩
    · exact h
  · have hz : rightB (if partV p 0 = 0 then zeroA else a) = true := by split; exact zero_right; exact h
    generalize (if partV p 0 = 0 then zeroA else a) = x at hz
    have hx := right_iff.1 hz
    refine right_iff.2 ⟨flag_le hx.1 _, ?_, ?_⟩
    · show colB (if _ then _ else _) = true
      split
      · exact (short_ok _).2
      · exact hx.2.1
    · show colB (if _ then _ else _) = true
      split
      · exact (short_ok _).2
      · exact hx.2.2
theorem go_right : ∀ (l : List (List Int)) {a : At} (s : Nat), rightB a = true → rightB (goV a s l) = true
  | [], a, s, h => by cases s <;> exact h
  | p :: l, a, s + 1, h => go_right l s h
  | p :: l, a, 0, h => go_right l _ (step_right h p l)
theorem apply_right {a : At} (h : rightB a = true) (l : List (List Int)) : rightB (applyV a l) = true := by
  unfold applyV
  split
  · exact zero_right
  · exact go_right l 0 h

/-! ### parted in two -/
/-- It takes nothing of what is behind. -/
def aloneB (p : List Int) : Bool := (decide (partV p 0 ≠ 38) && decide (partV p 0 ≠ 48)) || decide (1 < p.length)
theorem step_alone {p : List Int} (h : aloneB p = true) (a : At) (l m : List (List Int)) : (stepV a p l).2 = 0 ∧ stepV a p m = stepV a p l := by
  have hp : 1 < p.length → (partsV p).2.1 = 0 := fun _ => by
    unfold partsV
    repeat' split
    all_goals rfl
  unfold stepV
  by_cases h1 : 1 < p.length
  · have e : ∀ m, longV p m = partsV p := fun m => by unfold longV; rw [if_pos h1]
    rw [e, e]
    refine ⟨?_, rfl⟩
    split
    · exact hp h1
    split
    · exact hp h1
    · rfl
  · have h2 : partV p 0 ≠ 38 ∧ partV p 0 ≠ 48 := by simpa [aloneB, h1] using h
    rw [if_neg h2.1, if_neg h2.2, if_neg h2.1, if_neg h2.2]
    exact ⟨rfl, rfl⟩
theorem go_append : ∀ (l : List (List Int)) (m : List (List Int)) (a : At), (∀ p ∈ l, aloneB p = true) → goV a 0 (l ++ m) = goV (goV a 0 l) 0 m
  | [], m, a, _ => rfl
  | p :: l, m, a, h => by
    have hs := step_alone (h p (List.mem_cons_self ..)) a l (l ++ m)
    show goV (stepV a p (l ++ m)).1 (stepV a p (l ++ m)).2 (l ++ m) = goV (goV (stepV a p l).1 (stepV a p l).2 l) 0 m
    rw [hs.2, hs.1]
    exact go_append l m _ fun x hx => h x (List.mem_cons_of_mem _ hx)
theorem apply_parts (a : At) (l m : List (List Int)) (hl : l ≠ []) (hm : m ≠ []) (h : ∀ p ∈ l, aloneB p = true) : applyV (applyV a l) m = applyV a (l ++ m) := by
  unfold applyV
  rw [if_neg hl, if_neg hm, if_neg (by simp [hl]), go_append l m a h]

/-! ### how one is said -/
def flagsN : List Nat := [1, 2, 3, 4, 5, 7, 8, 9]
def setsV (f : Nat) : List Nat := flagsN.filter fun n => f &&& bitV (n : Int) != 0
def colT (n : Nat) (c : Co) : List UInt8 :=
  if c.kind = 1 then 59 :: Lib.decDigits n ++ [58, 53, 58] ++ Lib.decDigits c.n
  else if c.kind = 2 then 59 :: Lib.decDigits n ++ [58, 50, 58, 58] ++ Lib.decDigits (c.n / 65536) ++ [58] ++ Lib.decDigits (c.n / 256 % 256) ++ [58] ++ Lib.decDigits (c.n % 256)
  else []
def flagT (l : List Nat) : List UInt8 := l.flatMap fun n => 59 :: Lib.decDigits n
def saysT (b : At) : List UInt8 := [27, 91, 48] ++ flagT (setsV b.fl) ++ colT 38 b.fg ++ colT 48 b.bg ++ [109]
def betweenV (a b : At) : List UInt8 := if a = b ∨ rightB b = false then [] else saysT b
def colP (n : Nat) (c : Co) : List (List Nat) :=
  if c.kind = 1 then [[n, 5, c.n]] else if c.kind = 2 then [[n, 2, 0, c.n / 65536, c.n / 256 % 256, c.n % 256]] else []
def saysP (b : At) : List (List Nat) := [0] :: ((setsV b.fl).map fun n => [n]) ++ colP 38 b.fg ++ colP 48 b.bg
def intL (l : List (List Nat)) : List (List Int) := l.map fun p => p.map fun (x : Nat) => (x : Int)
theorem int_append (l m : List (List Nat)) : intL (l ++ m) = intL l ++ intL m := by simp [intL]

set_option maxRecDepth 100000 in
theorem flags_all : ∀ f, f < 256 → (setsV f).foldl (fun (x n : Nat) => flagV x (n : Int)) 0 = f := by decide +kernel
set_option maxRecDepth 100000 in
theorem sets_le (f : Nat) : ∀ n ∈ setsV f, 1 ≤ n ∧ n ≤ 9 := by
  intro n hn
  have := List.mem_filter.1 hn
  simp [flagsN] at this
  omega
theorem up_low {n : Nat} (h1 : 1 ≤ n) (h9 : n ≤ 9) (a : At) : stepV a [(n : Int)] = fun _ => (⟨flagV a.fl (n : Int), a.fg, a.bg⟩, 0) := by
  funext l
  have e : partV [(n : Int)] 0 = n := rfl
  have e2 : firstV [(n : Int)] = n := by unfold firstV; rw [e]; simp
  have s1 : shortV (n : Int) = (zeroC, false) := by unfold shortV; rw [if_neg (by omega), if_neg (by omega)]; simp; omega
  have s2 : shortV ((n : Int) - 10) = (zeroC, false) := by unfold shortV; rw [if_neg (by omega), if_neg (by omega)]; simp; omega
  unfold stepV
  rw [e, if_neg (by omega), if_neg (by omega), if_neg (by omega), e2]
  unfold upV
  rw [s1, s2]
  rfl
theorem go_flags : ∀ (l : List Nat), (∀ n ∈ l, 1 ≤ n ∧ n ≤ 9) → ∀ (a : At), goV a 0 (intL (l.map fun n => [n])) = ⟨l.foldl (fun (x n : Nat) => flagV x (n : Int)) a.fl, a.fg, a.bg⟩
  | [], _, a => rfl
  | n :: l, h, a => by
    have hn := h n (List.mem_cons_self ..)
    show goV (stepV a [(n : Int)] _).1 (stepV a [(n : Int)] _).2 (intL (l.map fun n => [n])) = _
    rw [up_low hn.1 hn.2]
    exact go_flags l (fun x hx => h x (List.mem_cons_of_mem _ hx)) _
theorem alone_flags (l : List Nat) (h : ∀ n ∈ l, 1 ≤ n ∧ n ≤ 9) : ∀ p ∈ intL (l.map fun n => [n]), aloneB p = true := by
  intro p hp
  simp only [intL, List.map_map, List.mem_map] at hp
  obtain ⟨n, hn, rfl⟩ := hp
  have := h n hn
  have e : partV ((List.map (fun x : Nat => (x : Int)) ∘ fun n => [n]) n) 0 = (n : Int) := rfl
  unfold aloneB
  rw [e]
  simp
  omega
theorem alone_col (n : Nat) (c : Co) : ∀ p ∈ intL (colP n c), aloneB p = true := by
  intro p hp
  have h : 1 < p.length := by
    unfold colP at hp
    split at hp
    · simp only [intL, List.map_cons, List.map_nil, List.mem_singleton] at hp
      rw [hp]; simp
    split at hp
    · simp only [intL, List.map_cons, List.map_nil, List.mem_singleton] at hp
      rw [hp]; simp
    · cases hp
  simp [aloneB, h]
theorem parts_col (n : Nat) (c : Co) (h : colB c = true) (hk : c.kind ≠ 0) : ∃ p, intL (colP n c) = [p] ∧ partV p 0 = n ∧ 1 < p.length ∧ partsV p = (c, 0, true) := by
  obtain ⟨k, m⟩ := c
  unfold colB at h
  dsimp only at h hk
  rw [if_neg hk] at h
  by_cases h1 : k = 1
  · subst h1
    rw [if_pos rfl] at h
    have hm : m ≤ 255 := of_decide_eq_true h
    refine ⟨[(n : Int), 5, (m : Int)], by simp [colP, intL], rfl, by simp, ?_⟩
    unfold partsV
    have e1 : partV [(n : Int), 5, (m : Int)] 1 = 5 := rfl
    have e2 : partV [(n : Int), 5, (m : Int)] 2 = m := rfl
    rw [e1, e2, if_pos ⟨rfl, by simp, fits_iff.2 (by omega)⟩]
    simp [tabV]
  · rw [if_neg h1] at h
    by_cases h2 : k = 2
    · subst h2
      rw [if_pos rfl] at h
      have hm : m ≤ 16777215 := of_decide_eq_true h
      obtain ⟨p, hp⟩ : ∃ p : List Int, p = [(n : Int), 2, 0, ((m / 65536 : Nat) : Int), ((m / 256 % 256 : Nat) : Int), ((m % 256 : Nat) : Int)] := ⟨_, rfl⟩
      refine ⟨p, by rw [hp]; simp [colP, intL], by rw [hp]; rfl, by rw [hp]; simp, ?_⟩
      have e1 : partV p 1 = 2 := by rw [hp]; rfl
      have e3 : partV p 3 = ((m / 65536 : Nat) : Int) := by rw [hp]; rfl
      have e4 : partV p 4 = ((m / 256 % 256 : Nat) : Int) := by rw [hp]; rfl
      have e5 : partV p 5 = ((m % 256 : Nat) : Int) := by rw [hp]; rfl
      have hl : p.length = 6 := by rw [hp]; rfl
      unfold partsV
      have e6 : (if 5 < 6 then 3 else 2) = 3 := rfl
      rw [e1, hl, if_neg (by omega), e6]
      show (if (2 : Int) = 2 ∧ 4 < 6 ∧ fitsB (partV p 3) = true ∧ fitsB (partV p 4) = true ∧ fitsB (partV p 5) = true then (rgbV (partV p 3) (partV p 4) (partV p 5), 0, true) else (zeroC, 0, false)) = _
      rw [e3, e4, e5, if_pos ⟨rfl, by decide, fits_iff.2 (by omega), fits_iff.2 (by omega), fits_iff.2 (by omega)⟩]
      unfold rgbV
      simp only [Int.toNat_natCast]
      congr 2
      omega
    · rw [if_neg h2] at h
      cases h
theorem go_col38 (a : At) (c : Co) (h : colB c = true) (ha : a.fg = zeroC) : goV a 0 (intL (colP 38 c)) = { a with fg := c } := by
  by_cases hk : c.kind = 0
  · have hc : c = zeroC := by
      obtain ⟨k, m⟩ := c
      unfold colB at h
      dsimp only at h hk
      rw [if_pos hk] at h
      rw [hk, of_decide_eq_true h]
      rfl
    subst hc
    have e : intL (colP 38 zeroC) = [] := rfl
    rw [e, ← ha]
    rfl
  · obtain ⟨p, e, h0, h1, h2⟩ := parts_col 38 c h hk
    rw [e]
    show goV (stepV a p []).1 (stepV a p []).2 [] = _
    have e3 : stepV a p [] = ({ a with fg := c }, 0) := by
      unfold stepV
      rw [h0, if_pos (by decide)]
      unfold longV
      rw [if_pos h1, h2]
      rfl
    rw [e3]
    rfl
theorem go_col48 (a : At) (c : Co) (h : colB c = true) (ha : a.bg = zeroC) : goV a 0 (intL (colP 48 c)) = { a with bg := c } := by
  by_cases hk : c.kind = 0
  · have hc : c = zeroC := by
      obtain ⟨k, m⟩ := c
      unfold colB at h
      dsimp only at h hk
      rw [if_pos hk] at h
      rw [hk, of_decide_eq_true h]
      rfl
    subst hc
    have e : intL (colP 48 zeroC) = [] := rfl
    rw [e, ← ha]
    rfl
  · obtain ⟨p, e, h0, h1, h2⟩ := parts_col 48 c h hk
    rw [e]
    show goV (stepV a p []).1 (stepV a p []).2 [] = _
    have e3 : stepV a p [] = ({ a with bg := c }, 0) := by
      unfold stepV
      rw [h0, if_neg (by decide), if_pos (by decide)]
      unfold longV
      rw [if_pos h1, h2]
      rfl
    rw [e3]
    rfl
/-- P10.3: what is said, applied to whatever attribute, is it. -/
theorem says_back (x b : At) (h : rightB b = true) : applyV x (intL (saysP b)) = b := by
  have hb := right_iff.1 h
  have hz : stepV x [(0 : Int)] = fun _ => (zeroA, 0) := by
    funext l
    have e0 : partV [(0 : Int)] 0 = 0 := rfl
    unfold stepV
    rw [e0, if_neg (by decide), if_neg (by decide), if_pos rfl, show upV zeroA (firstV [(0 : Int)]) = zeroA by decide +kernel]
  have e : intL (saysP b) = [(0 : Int)] :: (intL ((setsV b.fl).map fun n => [n]) ++ (intL (colP 38 b.fg) ++ intL (colP 48 b.bg))) := by
    unfold saysP
    rw [int_append, int_append, List.append_assoc]
    rfl
  unfold applyV
  rw [e, if_neg (by simp)]
  show goV (stepV x [(0 : Int)] _).1 (stepV x [(0 : Int)] _).2 _ = b
  rw [hz]
  show goV zeroA 0 _ = b
  rw [go_append _ _ _ (alone_flags _ (sets_le _)), go_flags _ (sets_le _), go_append _ _ _ (alone_col 38 _)]
  rw [show zeroA.fl = 0 from rfl, flags_all b.fl (by omega), go_col38 _ _ hb.2.1 rfl, go_col48 _ _ hb.2.2 rfl]
end Go.Proofs.YtkenaccnmmmooaaDoor.Sgr
