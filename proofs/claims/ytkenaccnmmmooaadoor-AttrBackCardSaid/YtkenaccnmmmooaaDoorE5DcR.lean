/- Layer 5, plain mathematics: the document's shapes, and that its decoder is the one over lists. -/
import Derived.Test.YtkenaccnmmmooaaDoorE5DcP
set_option linter.unusedVariables false
namespace Go.Proofs.YtkenaccnmmmooaaDoor.D5.Dec
open Go.Lib

/-- The bounds of characters' bytes. -/
def tab : List (List (Nat × Nat)) := [[(0, 127)], [(194, 223), (128, 191)], [(224, 224), (160, 191), (128, 191)], [(225, 236), (128, 191), (128, 191)], [(237, 237), (128, 159), (128, 191)], [(238, 239), (128, 191), (128, 191)], [(240, 240), (144, 191), (128, 191), (128, 191)], [(241, 243), (128, 191), (128, 191), (128, 191)], [(244, 244), (128, 143), (128, 191), (128, 191)]]
def lenI (i : Nat) : Nat := (tab.getD i []).length
def loI (i k : Nat) : Nat := ((tab.getD i []).getD k (0, 0)).1
def hiI (i k : Nat) : Nat := ((tab.getD i []).getD k (0, 0)).2

/-- Do the first k bytes fit shape i? -/
def okK (i : Nat) (l : List UInt8) : Nat → Bool
  | 0 => decide (l.length ≤ lenI i)
  | k + 1 => okK i l k && (decide (loI i k ≤ bt l k) && decide (bt l k ≤ hiI i k))
def fitsI (i : Nat) (l : List UInt8) : Bool := okK i l l.length

theorem okK_false {i : Nat} {l : List UInt8} {k : Nat} (h : okK i l k = false) : ∀ m, k ≤ m → okK i l m = false
  | 0, hm => by obtain rfl : k = 0 := by omega
                exact h
  | m + 1, hm => by
    by_cases e : k = m + 1
    · subst e; exact h
    · simp [okK, okK_false h m (by omega)]
theorem okK_len {i : Nat} {l : List UInt8} {k : Nat} (h : okK i l k = true) : l.length ≤ lenI i := by
  induction k with
  | zero => simpa [okK] using h
  | succ k ih => exact ih (by simp only [okK, Bool.and_eq_true] at h; exact h.1)

def begI (l : List UInt8) : Nat → Nat → Nat
  | 0, _ => 0
  | f + 1, i => if fitsI i l then (if l.length = lenI i then 2 else 1) else begI l f (i + 1)
/-- Do bytes begin a character (1), are they one (2), or neither (0)? -/
def begV (l : List UInt8) : Nat := begI l 9 0

/-- Shape i as its first byte says: the bytes fit no other one. -/
theorem other {i : Nat} {l : List UInt8} (hl : 1 ≤ l.length) (h : bt l 0 < loI i 0 ∨ hiI i 0 < bt l 0) : fitsI i l = false := by
  refine okK_false (k := 1) ?_ _ hl
  simp only [okK]
  rcases h with h | h
  · rw [decide_eq_false (p := loI i 0 ≤ bt l 0) (by omega)]; simp
  · rw [decide_eq_false (p := bt l 0 ≤ hiI i 0) (by omega)]; simp

theorem beg_at {l : List UInt8} (hl : 1 ≤ l.length) (j : Nat) (hj : j < 9) (h : ∀ i, i < 9 → i ≠ j → bt l 0 < loI i 0 ∨ hiI i 0 < bt l 0) : begV l = if fitsI j l then (if l.length = lenI j then 2 else 1) else 0 := by
  have ho : ∀ i, i < 9 → i ≠ j → fitsI i l = false := fun i hi hn => other hl (h i hi hn)
  have hs : ∀ f i, i + f = 9 → i ≤ j → begI l f i = if fitsI j l then (if l.length = lenI j then 2 else 1) else 0 := by
    intro f
    induction f with
    | zero => intro i h1 h2; omega
    | succ f ih =>
      intro i h1 h2
      simp only [begI]
      by_cases e : i = j
      · subst e
        have ht : ∀ f' i', i < i' → i' + f' = 9 → begI l f' i' = 0 := by
          intro f'
          induction f' with
          | zero => intros; rfl
          | succ f' ih' =>
            intro i' h3 h4
            simp only [begI]
            rw [ho i' (by omega) (by omega)]
            simpa using ih' (i' + 1) (by omega) (by omega)
        rw [ht f (i + 1) (by omega) (by omega)]
      · rw [ho i (by omega) e]
        simpa using ih (i + 1) (by omega) (by omega)
  exact hs 9 0 rfl (Nat.zero_le _)

theorem beg_none {l : List UInt8} (hl : 1 ≤ l.length) (h : ∀ i, i < 9 → bt l 0 < loI i 0 ∨ hiI i 0 < bt l 0) : begV l = 0 := by
  have ho : ∀ i, i < 9 → fitsI i l = false := fun i hi => other hl (h i hi)
  simp [begV, begI, ho]

/-- Which shape a lead byte has. -/
theorem lead_shape {x : Nat} (h : firstT x < 240) : ∃ j, j < 9 ∧ lenI j = firstT x % 8 ∧ loI j 1 = accLo (firstT x / 16) ∧ hiI j 1 = accHi (firstT x / 16) ∧ (loI j 0 ≤ x ∧ x ≤ hiI j 0) ∧
    (∀ i, i < 9 → i ≠ j → x < loI i 0 ∨ hiI i 0 < x) ∧ (2 < firstT x % 8 → loI j 2 = 128 ∧ hiI j 2 = 191) ∧ (3 < firstT x % 8 → loI j 3 = 128 ∧ hiI j 3 = 191) := by
  have hall : ∀ j, (∀ i, i < 9 → i ≠ j → x < loI i 0 ∨ hiI i 0 < x) ↔ ((0 ≠ j → 127 < x) ∧ (1 ≠ j → x < 194 ∨ 223 < x) ∧ (2 ≠ j → x < 224 ∨ 224 < x) ∧ (3 ≠ j → x < 225 ∨ 236 < x) ∧ (4 ≠ j → x < 237 ∨ 237 < x) ∧ (5 ≠ j → x < 238 ∨ 239 < x) ∧ (6 ≠ j → x < 240 ∨ 240 < x) ∧ (7 ≠ j → x < 241 ∨ 243 < x) ∧ (8 ≠ j → x < 244 ∨ 244 < x)) := by
    intro j
    constructor
    · intro h
      refine ⟨fun e => ?_, fun e => h 1 (by omega) e, fun e => h 2 (by omega) e, fun e => h 3 (by omega) e, fun e => h 4 (by omega) e, fun e => h 5 (by omega) e, fun e => h 6 (by omega) e, fun e => h 7 (by omega) e, fun e => h 8 (by omega) e⟩
      rcases h 0 (by omega) e with h | h
      · exact absurd h (by simp [loI, tab])
      · exact h
    · rintro ⟨h0, h1, h2, h3, h4, h5, h6, h7, h8⟩ i hi hn
      obtain rfl | rfl | rfl | rfl | rfl | rfl | rfl | rfl | rfl : i = 0 ∨ i = 1 ∨ i = 2 ∨ i = 3 ∨ i = 4 ∨ i = 5 ∨ i = 6 ∨ i = 7 ∨ i = 8 := by omega
      · exact Or.inr (h0 hn)
      · exact h1 hn
      · exact h2 hn
      · exact h3 hn
      · exact h4 hn
      · exact h5 hn
      · exact h6 hn
      · exact h7 hn
      · exact h8 hn
  rcases firstT_low h with e | e | e | e | e | e | e
  · exact ⟨1, by omega, by rw [firstT_C2 e]; rfl, by rw [firstT_C2 e]; rfl, by rw [firstT_C2 e]; rfl, ⟨by show 194 ≤ x; omega, by show x ≤ 223; omega⟩, (hall 1).2 (by omega), by rw [firstT_C2 e]; omega, by rw [firstT_C2 e]; omega⟩
  · exact ⟨2, by omega, by rw [firstT_E0 e]; rfl, by rw [firstT_E0 e]; rfl, by rw [firstT_E0 e]; rfl, ⟨by show 224 ≤ x; omega, by show x ≤ 224; omega⟩, (hall 2).2 (by omega), fun _ => ⟨rfl, rfl⟩, by rw [firstT_E0 e]; omega⟩
  · have e0 := e
    rcases e0 with e' | e'
    · exact ⟨3, by omega, by rw [firstT_E1 e]; rfl, by rw [firstT_E1 e]; rfl, by rw [firstT_E1 e]; rfl, ⟨by show 225 ≤ x; omega, by show x ≤ 236; omega⟩, (hall 3).2 (by omega), fun _ => ⟨rfl, rfl⟩, by rw [firstT_E1 e]; omega⟩
    · exact ⟨5, by omega, by rw [firstT_E1 e]; rfl, by rw [firstT_E1 e]; rfl, by rw [firstT_E1 e]; rfl, ⟨by show 238 ≤ x; omega, by show x ≤ 239; omega⟩, (hall 5).2 (by omega), fun _ => ⟨rfl, rfl⟩, by rw [firstT_E1 e]; omega⟩
  · exact ⟨4, by omega, by rw [firstT_ED e]; rfl, by rw [firstT_ED e]; rfl, by rw [firstT_ED e]; rfl, ⟨by show 237 ≤ x; omega, by show x ≤ 237; omega⟩, (hall 4).2 (by omega), fun _ => ⟨rfl, rfl⟩, by rw [firstT_ED e]; omega⟩
  · exact ⟨6, by omega, by rw [firstT_F0 e]; rfl, by rw [firstT_F0 e]; rfl, by rw [firstT_F0 e]; rfl, ⟨by show 240 ≤ x; omega, by show x ≤ 240; omega⟩, (hall 6).2 (by omega), fun _ => ⟨rfl, rfl⟩, fun _ => ⟨rfl, rfl⟩⟩
  · exact ⟨7, by omega, by rw [firstT_F1 e]; rfl, by rw [firstT_F1 e]; rfl, by rw [firstT_F1 e]; rfl, ⟨by show 241 ≤ x; omega, by show x ≤ 243; omega⟩, (hall 7).2 (by omega), fun _ => ⟨rfl, rfl⟩, fun _ => ⟨rfl, rfl⟩⟩
  · exact ⟨8, by omega, by rw [firstT_F4 e]; rfl, by rw [firstT_F4 e]; rfl, by rw [firstT_F4 e]; rfl, ⟨by show 244 ≤ x; omega, by show x ≤ 244; omega⟩, (hall 8).2 (by omega), fun _ => ⟨rfl, rfl⟩, fun _ => ⟨rfl, rfl⟩⟩

theorem fits_1 (j : Nat) (x : UInt8) : fitsI j [x] = (decide (1 ≤ lenI j) && (decide (loI j 0 ≤ x.toNat) && decide (x.toNat ≤ hiI j 0))) := rfl
theorem fits_2 (j : Nat) (x y : UInt8) : fitsI j [x, y] = (decide (2 ≤ lenI j) && (decide (loI j 0 ≤ x.toNat) && decide (x.toNat ≤ hiI j 0)) && (decide (loI j 1 ≤ y.toNat) && decide (y.toNat ≤ hiI j 1))) := rfl
theorem fits_3 (j : Nat) (x y z : UInt8) : fitsI j [x, y, z] = (decide (3 ≤ lenI j) && (decide (loI j 0 ≤ x.toNat) && decide (x.toNat ≤ hiI j 0)) && (decide (loI j 1 ≤ y.toNat) && decide (y.toNat ≤ hiI j 1)) && (decide (loI j 2 ≤ z.toNat) && decide (z.toNat ≤ hiI j 2))) := rfl
theorem fits_4 (j : Nat) (x y z u : UInt8) : fitsI j [x, y, z, u] = (decide (4 ≤ lenI j) && (decide (loI j 0 ≤ x.toNat) && decide (x.toNat ≤ hiI j 0)) && (decide (loI j 1 ≤ y.toNat) && decide (y.toNat ≤ hiI j 1)) && (decide (loI j 2 ≤ z.toNat) && decide (z.toNat ≤ hiI j 2)) && (decide (loI j 3 ≤ u.toNat) && decide (u.toNat ≤ hiI j 3))) := rfl

/-- The number of a character's bytes. -/
def headN (l : List UInt8) : Nat := if l.length = 2 then bt l 0 % 32 else if l.length = 3 then bt l 0 % 16 else if l.length = 4 then bt l 0 % 8 else bt l 0
def numK (l : List UInt8) : Nat → Nat
  | 0 => headN l
  | k + 1 => 64 * numK l k + bt l (k + 1) % 64
def numV (l : List UInt8) : Nat := numK l (l.length - 1)

theorem numK_lt (l : List UInt8) (k : Nat) : numK l k < 256 * 64 ^ k := by
  induction k with
  | zero =>
    have := bt_lt l 0
    simp only [numK, headN]
    repeat' split
    all_goals omega
  | succ k ih =>
    simp only [numK, Nat.pow_succ]
    omega

theorem beg_ascii {x : UInt8} (h : firstT x.toNat = 240) (r : List UInt8) : begV (x :: r) = if r = [] then 2 else 0 := by
  have hx := ascii_lt h
  rw [beg_at (l := x :: r) (by simp) 0 (by omega)]
  · cases r with
    | nil =>
      rw [fits_1]
      have h1 : loI 0 0 ≤ x.toNat := Nat.zero_le _
      have h2 : x.toNat ≤ hiI 0 0 := by show _ ≤ 127; omega
      simp [h1, h2]
      decide
    | cons y r =>
      have : fitsI 0 (x :: y :: r) = false := by
        cases hf : fitsI 0 (x :: y :: r) with
        | false => rfl
        | true => have := okK_len hf; simp [lenI, tab] at this
      rw [this]
      simp
  · intro i hi hn
    have hb : bt (x :: r) 0 = x.toNat := rfl
    rw [hb]
    left
    obtain rfl | rfl | rfl | rfl | rfl | rfl | rfl | rfl : i = 1 ∨ i = 2 ∨ i = 3 ∨ i = 4 ∨ i = 5 ∨ i = 6 ∨ i = 7 ∨ i = 8 := by omega
    · show _ < 194; omega
    · show _ < 224; omega
    · show _ < 225; omega
    · show _ < 237; omega
    · show _ < 238; omega
    · show _ < 240; omega
    · show _ < 241; omega
    · show _ < 244; omega

theorem bad_range {x : Nat} (h : firstT x = 241) : 128 ≤ x ∧ (x < 194 ∨ 244 < x) := by
  unfold firstT at h
  repeat' split at h
  all_goals omega

theorem beg_bad {x : UInt8} (h : firstT x.toNat = 241) (r : List UInt8) : begV (x :: r) = 0 := by
  have hx := bad_range h
  refine beg_none (l := x :: r) (by simp) fun i hi => ?_
  have hb : bt (x :: r) 0 = x.toNat := rfl
  rw [hb]
  obtain rfl | rfl | rfl | rfl | rfl | rfl | rfl | rfl | rfl : i = 0 ∨ i = 1 ∨ i = 2 ∨ i = 3 ∨ i = 4 ∨ i = 5 ∨ i = 6 ∨ i = 7 ∨ i = 8 := by omega
  · right; show 127 < _; omega
  · show _ < 194 ∨ 223 < _; omega
  · show _ < 224 ∨ 224 < _; omega
  · show _ < 225 ∨ 236 < _; omega
  · show _ < 237 ∨ 237 < _; omega
  · show _ < 238 ∨ 239 < _; omega
  · show _ < 240 ∨ 240 < _; omega
  · show _ < 241 ∨ 243 < _; omega
  · show _ < 244 ∨ 244 < _; omega

/-- Behind a lead byte. -/
theorem beg_low {x : UInt8} (h : firstT x.toNat < 240) (r : List UInt8) : ∃ j, begV (x :: r) = (if fitsI j (x :: r) then (if r.length + 1 = firstT x.toNat % 8 then 2 else 1) else 0) ∧ lenI j = firstT x.toNat % 8 ∧ loI j 1 = accLo (firstT x.toNat / 16) ∧ hiI j 1 = accHi (firstT x.toNat / 16) ∧
    loI j 0 ≤ x.toNat ∧ x.toNat ≤ hiI j 0 ∧ (2 < firstT x.toNat % 8 → loI j 2 = 128 ∧ hiI j 2 = 191) ∧ (3 < firstT x.toNat % 8 → loI j 3 = 128 ∧ hiI j 3 = 191) := by
  obtain ⟨j, hj, h1, h2, h3, ⟨h4, h5⟩, h6, h7, h8⟩ := lead_shape h
  refine ⟨j, ?_, h1, h2, h3, h4, h5, h7, h8⟩
  rw [beg_at (l := x :: r) (by simp) j hj h6, h1]
  rfl

/-- A byte behind what is kept: the document's answer is the decoder's. -/
theorem beg_one (b : UInt8) : (begV [b] = 0 ∧ anew b = ([65533], [])) ∨ (begV [b] = 1 ∧ anew b = ([], [b])) ∨ (begV [b] = 2 ∧ anew b = ([numV [b]], [])) := by
  rcases first_kinds b.toNat with e | e | e
  · right; right
    refine ⟨by rw [beg_ascii e]; simp, ?_⟩
    have d := dec_ascii (l := [b]) e
    unfold anew
    rw [full_1, e, if_pos (by simp), d]
    rfl
  · left
    refine ⟨beg_bad e [], ?_⟩
    have d := dec_bad (l := [b]) e
    unfold anew
    rw [full_1, e, if_pos (by simp), d]
  · right; left
    obtain ⟨r1, r2, _⟩ := low_range e
    obtain ⟨j, hb, h1, h2, h3, h4, h5, _⟩ := beg_low e []
    refine ⟨?_, ?_⟩
    · rw [hb, fits_1, h1, decide_eq_true h4, decide_eq_true h5, decide_eq_true (p := 1 ≤ _) (by omega)]
      simp
      omega
    · unfold anew
      rw [full_1, decide_eq_false (by omega), if_neg (by simp)]

theorem beg_more {k : List UInt8} (hk : fullB k = false) (hn : k ≠ []) (b : UInt8) :
    (begV (k ++ [b]) = 0 ∧ comes k b = (65533 :: (anew b).1, (anew b).2)) ∨ (begV (k ++ [b]) = 1 ∧ comes k b = ([], k ++ [b])) ∨ (begV (k ++ [b]) = 2 ∧ comes k b = ([numV (k ++ [b])], [])) := by
  have h3 := full_length hk
  match k, hn, h3 with
  | [x], _, _ =>
    have hl := kept_low hk
    obtain ⟨r1, r2, r3, r4, r5⟩ := low_range hl
    have d := dec_low (l := [x, b]) (by simp) hl
    have d' : dec [x, b] = slowN 2 x.toNat b.toNat 0 0 (firstT x.toNat % 8) (accLo (firstT x.toNat / 16)) (accHi (firstT x.toNat / 16)) := d
    obtain ⟨j, hb, h1, h2, h3, h4, h5, _⟩ := beg_low hl [b]
    show (begV [x, b] = 0 ∧ _) ∨ (begV [x, b] = 1 ∧ comes [x] b = ([], [x, b])) ∨ (begV [x, b] = 2 ∧ comes [x] b = ([numV [x, b]], []))
    rw [hb, fits_2, h1, h2, h3, decide_eq_true h4, decide_eq_true h5, decide_eq_true (p := 2 ≤ _) (by omega)]
    have hc : comes [x] b = if fullB [x, b] = false then ([], [x, b]) else if (dec [x, b]).2 = 2 then ([(dec [x, b]).1], []) else (65533 :: (anew b).1, (anew b).2) := rfl
    rw [hc, full_2]
    by_cases g1 : b.toNat < accLo (firstT x.toNat / 16)
    · left
      have hd : (dec [x, b]).2 ≠ 2 := by rw [d']; unfold slowN; rw [if_pos (c := b.toNat < _ ∨ _) (Or.inl g1)]; split <;> simp
      rw [decide_eq_false (p := _ ≤ b.toNat) (by omega), decide_eq_true g1]
      simp [hd]
    · by_cases g2 : accHi (firstT x.toNat / 16) < b.toNat
      · left
        have hd : (dec [x, b]).2 ≠ 2 := by rw [d']; unfold slowN; rw [if_pos (c := b.toNat < _ ∨ _) (Or.inr g2)]; split <;> simp
        rw [decide_eq_false (p := b.toNat ≤ _) (by omega), decide_eq_true g2]
        simp [hd]
      · right
        rw [decide_eq_true (p := _ ≤ b.toNat) (by omega), decide_eq_true (p := b.toNat ≤ _) (by omega), decide_eq_false g1, decide_eq_false g2]
        by_cases g3 : firstT x.toNat % 8 ≤ 2
        · right
          have hd : dec [x, b] = (x.toNat % 32 * 64 + b.toNat % 64, 2) := by
            rw [d']; unfold slowN
            rw [if_neg (by omega), if_neg (by omega), if_pos g3]
          have hv : numV [x, b] = 64 * (x.toNat % 32) + b.toNat % 64 := rfl
          have e2 : 2 = firstT x.toNat % 8 := by omega
          rw [hd, hv, decide_eq_true g3]
          refine ⟨by simp [← e2], ?_⟩
          simp
          omega
        · left
          rw [decide_eq_false g3]
          refine ⟨?_, by simp⟩
          simp
          omega
  | [x, y], _, _ =>
    have hl := kept_low hk
    obtain ⟨r1, r2, r3, r4, r5⟩ := low_range hl
    rw [full_2] at hk
    simp only [Bool.or_eq_false_iff, decide_eq_false_iff_not] at hk
    obtain ⟨k1, k2, k3⟩ := hk
    have d := dec_low (l := [x, y, b]) (by simp) hl
    have d' : dec [x, y, b] = slowN 3 x.toNat y.toNat b.toNat 0 (firstT x.toNat % 8) (accLo (firstT x.toNat / 16)) (accHi (firstT x.toNat / 16)) := d
    obtain ⟨j, hb, h1, h2, h3, h4, h5, h6, _⟩ := beg_low hl [y, b]
    obtain ⟨h6, h7⟩ := h6 (by omega)
    show (begV [x, y, b] = 0 ∧ _) ∨ (begV [x, y, b] = 1 ∧ comes [x, y] b = ([], [x, y, b])) ∨ (begV [x, y, b] = 2 ∧ comes [x, y] b = ([numV [x, y, b]], []))
    rw [hb, fits_3, h1, h2, h3, h6, h7, decide_eq_true h4, decide_eq_true h5, decide_eq_true (p := 3 ≤ _) (by omega), decide_eq_true (p := _ ≤ y.toNat) (by omega), decide_eq_true (p := y.toNat ≤ _) (by omega)]
    have hc : comes [x, y] b = if fullB [x, y, b] = false then ([], [x, y, b]) else if (dec [x, y, b]).2 = 3 then ([(dec [x, y, b]).1], []) else (65533 :: (anew b).1, (anew b).2) := rfl
    rw [hc, full_3, decide_eq_false k2, decide_eq_false k3]
    by_cases g1 : b.toNat < 128 ∨ 191 < b.toNat
    · left
      have hd : (dec [x, y, b]).2 ≠ 3 := by rw [d']; unfold slowN; rw [if_pos (c := b.toNat < 128 ∨ _) g1]; repeat' split
                                            all_goals simp
      refine ⟨?_, ?_⟩
      · rcases g1 with g | g
        · rw [decide_eq_false (p := 128 ≤ b.toNat) (by omega)]; simp
        · rw [decide_eq_false (p := b.toNat ≤ 191) (by omega)]; simp
      · rcases g1 with g | g
        · rw [decide_eq_true g]; simp [hd]
        · rw [decide_eq_true g]; simp [hd]
    · right
      rw [decide_eq_true (p := 128 ≤ b.toNat) (by omega), decide_eq_true (p := b.toNat ≤ 191) (by omega), decide_eq_false (p := b.toNat < 128) (by omega), decide_eq_false (p := 191 < b.toNat) (by omega)]
      by_cases g3 : firstT x.toNat % 8 ≤ 3
      · right
        have hd : dec [x, y, b] = (x.toNat % 16 * 4096 + y.toNat % 64 * 64 + b.toNat % 64, 3) := by
          rw [d']; unfold slowN
          rw [if_neg (by omega), if_neg (by omega), if_neg (by omega), if_neg (by omega), if_pos g3]
        have hv : numV [x, y, b] = 64 * (64 * (x.toNat % 16) + y.toNat % 64) + b.toNat % 64 := rfl
        have e2 : 3 = firstT x.toNat % 8 := by omega
        rw [hd, hv, decide_eq_true g3]
        refine ⟨by simp [← e2], ?_⟩
        simp
        omega
      · left
        rw [decide_eq_false g3]
        refine ⟨?_, by simp⟩
        simp
        omega
  | [x, y, z], _, _ =>
    have hl := kept_low hk
    obtain ⟨r1, r2, r3, r4, r5⟩ := low_range hl
    rw [full_3] at hk
    simp only [Bool.or_eq_false_iff, decide_eq_false_iff_not] at hk
    obtain ⟨⟨k1, k2, k3⟩, k4, k5⟩ := hk
    have d := dec_low (l := [x, y, z, b]) (by simp) hl
    have d' : dec [x, y, z, b] = slowN 4 x.toNat y.toNat z.toNat b.toNat (firstT x.toNat % 8) (accLo (firstT x.toNat / 16)) (accHi (firstT x.toNat / 16)) := d
    obtain ⟨j, hb, h1, h2, h3, h4, h5, h6, h8⟩ := beg_low hl [y, z, b]
    obtain ⟨h6, h7⟩ := h6 (by omega)
    obtain ⟨h8, h9⟩ := h8 (by omega)
    have e4 : firstT x.toNat % 8 = 4 := by omega
    show (begV [x, y, z, b] = 0 ∧ _) ∨ (begV [x, y, z, b] = 1 ∧ comes [x, y, z] b = ([], [x, y, z, b])) ∨ (begV [x, y, z, b] = 2 ∧ comes [x, y, z] b = ([numV [x, y, z, b]], []))
    rw [hb, fits_4, h1, h2, h3, h6, h7, h8, h9, decide_eq_true h4, decide_eq_true h5, decide_eq_true (p := 4 ≤ _) (by omega), decide_eq_true (p := _ ≤ y.toNat) (by omega), decide_eq_true (p := y.toNat ≤ _) (by omega), decide_eq_true (p := 128 ≤ z.toNat) (by omega), decide_eq_true (p := z.toNat ≤ 191) (by omega)]
    have hc : comes [x, y, z] b = if fullB [x, y, z, b] = false then ([], [x, y, z, b]) else if (dec [x, y, z, b]).2 = 4 then ([(dec [x, y, z, b]).1], []) else (65533 :: (anew b).1, (anew b).2) := rfl
    rw [hc, full_4]
    by_cases g1 : b.toNat < 128 ∨ 191 < b.toNat
    · left
      have hd : (dec [x, y, z, b]).2 ≠ 4 := by rw [d']; unfold slowN; rw [if_pos (c := b.toNat < 128 ∨ _) g1]; repeat' split
                                               all_goals simp
      refine ⟨?_, by simp [hd]⟩
      rcases g1 with g | g
      · rw [decide_eq_false (p := 128 ≤ b.toNat) (by omega)]; simp
      · rw [decide_eq_false (p := b.toNat ≤ 191) (by omega)]; simp
    · right; right
      rw [decide_eq_true (p := 128 ≤ b.toNat) (by omega), decide_eq_true (p := b.toNat ≤ 191) (by omega)]
      have hd : dec [x, y, z, b] = (x.toNat % 8 * 262144 + y.toNat % 64 * 4096 + z.toNat % 64 * 64 + b.toNat % 64, 4) := by
        rw [d']; unfold slowN
        rw [if_neg (by omega), if_neg (by omega), if_neg (by omega), if_neg (by omega), if_neg (by omega), if_neg (by omega)]
      have hv : numV [x, y, z, b] = 64 * (64 * (64 * (x.toNat % 8) + y.toNat % 64) + z.toNat % 64) + b.toNat % 64 := rfl
      rw [hd, hv]
      refine ⟨by simp [e4], ?_⟩
      simp
      omega

end Go.Proofs.YtkenaccnmmmooaaDoor.D5.Dec
