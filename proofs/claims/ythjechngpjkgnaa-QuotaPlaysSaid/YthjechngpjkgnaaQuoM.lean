/- Layer 3: the document's takes, as a list: what was taken for a key, and for how many keys (plain). -/
import Derived.Test.YthjechngpjkgnaaProg
namespace Go.Proofs.Ythjechngpjkgnaa

/-- A take. -/
structure Tk where
  k : ByteArray
  n : Int

def tk (key : ByteArray) : List Tk → Int
  | [] => 0
  | x :: l => (if x.k = key then x.n else 0) + tk key l

theorem tk_snoc (key : ByteArray) (l : List Tk) (x : Tk) : tk key (l ++ [x]) = tk key l + if x.k = key then x.n else 0 := by
  induction l with
  | nil => simp [tk]
  | cons y l ih => simp only [List.cons_append, tk, ih]; omega

def Good (l : List Tk) : Prop := ∀ x ∈ l, 0 ≤ x.n

theorem Good.nil : Good [] := fun _ h => by cases h
theorem Good.snoc {l : List Tk} {x : Tk} (h : Good l) (hx : 0 ≤ x.n) : Good (l ++ [x]) := fun y hy => by
  rcases List.mem_append.1 hy with hy | hy
  · exact h y hy
  · rw [List.mem_singleton.1 hy]; exact hx

theorem tk_nonneg (key : ByteArray) : ∀ (l : List Tk), Good l → 0 ≤ tk key l
  | [], _ => by simp [tk]
  | x :: l, h => by
    have h1 := h x (by simp)
    have h2 := tk_nonneg key l (fun y hy => h y (by simp [hy]))
    simp only [tk]
    split <;> omega

theorem tk_take (key : ByteArray) : ∀ (l : List Tk) (i : Nat), Good l → 0 ≤ tk key (l.take i) ∧ tk key (l.take i) ≤ tk key l
  | [], i, _ => by simp [tk]
  | x :: l, 0, h => by
    have := tk_nonneg key (x :: l) h
    simp [tk] at this ⊢
    exact this
  | x :: l, i + 1, h => by
    have h1 := h x (by simp)
    have h2 := tk_take key l i (fun y hy => h y (by simp [hy]))
    simp only [List.take_succ_cons, tk]
    split <;> omega

theorem tk_at (key : ByteArray) (l : List Tk) (i : Nat) (hi : i < l.length) : tk key (l.take (i + 1)) = tk key (l.take i) + if (l[i]).k = key then (l[i]).n else 0 := by
  rw [List.take_succ_eq_append_getElem hi]
  exact tk_snoc key _ _

/-- Whether more than 0 was taken for the key. -/
def had (key : ByteArray) (l : List Tk) : Bool := l.any fun y => decide (y.k = key) && decide (0 < y.n)

theorem had_at (key : ByteArray) (l : List Tk) (i : Nat) (hi : i < l.length) : had key (l.take (i + 1)) = (had key (l.take i) || (decide ((l[i]).k = key) && decide (0 < (l[i]).n))) := by
  rw [List.take_succ_eq_append_getElem hi]
  unfold had
  rw [List.any_append]
  simp only [List.any_cons, List.any_nil, Bool.or_false]

theorem had_iff (key : ByteArray) : ∀ (l : List Tk), Good l → (had key l = false ↔ tk key l = 0)
  | [], _ => by simp [had, tk]
  | x :: l, h => by
    have h1 := h x (by simp)
    have g : Good l := fun y hy => h y (by simp [hy])
    have h2 := had_iff key l g
    have h3 := tk_nonneg key l g
    have e : had key (x :: l) = ((decide (x.k = key) && decide (0 < x.n)) || had key l) := by simp [had]
    rw [e]
    simp only [tk]
    by_cases hk : x.k = key
    · by_cases hn : 0 < x.n
      · simp [hk, hn]; omega
      · have : x.n = 0 := by omega
        simp [hk, this, h2]
    · simp [hk, h2]

/-- Whether the take at i is its key's first one of more than 0. -/
def firstAt (l : List Tk) (i : Nat) : Bool := match l[i]? with
  | some x => decide (0 < x.n) && !had x.k (l.take i)
  | none => false

def nkTo (l : List Tk) : Nat → Nat
  | 0 => 0
  | i + 1 => nkTo l i + if firstAt l i then 1 else 0

def nk (l : List Tk) : Nat := nkTo l l.length

theorem nkTo_le (l : List Tk) : ∀ i, nkTo l i ≤ i
  | 0 => Nat.le_refl _
  | i + 1 => by
    have := nkTo_le l i
    simp only [nkTo]
    split <;> omega

theorem nkTo_app (l : List Tk) (x : Tk) : ∀ i, i ≤ l.length → nkTo (l ++ [x]) i = nkTo l i
  | 0, _ => rfl
  | i + 1, h => by
    have ih := nkTo_app l x i (by omega)
    have e : firstAt (l ++ [x]) i = firstAt l i := by
      unfold firstAt
      rw [List.getElem?_append_left (by omega), List.take_append_of_le_length (by omega)]
    simp only [nkTo, ih, e]

theorem nk_snoc (l : List Tk) (x : Tk) : nk (l ++ [x]) = nk l + if decide (0 < x.n) && !had x.k l then 1 else 0 := by
  unfold nk
  rw [show (l ++ [x]).length = l.length + 1 by simp]
  simp only [nkTo]
  rw [nkTo_app l x _ (Nat.le_refl _)]
  have e : firstAt (l ++ [x]) l.length = (decide (0 < x.n) && !had x.k l) := by
    unfold firstAt
    simp
  rw [e]

theorem first_at (l : List Tk) (i : Nat) (hi : i < l.length) : firstAt l i = (decide (0 < (l[i]).n) && !had (l[i]).k (l.take i)) := by
  unfold firstAt
  rw [List.getElem?_eq_getElem hi]

end Go.Proofs.Ythjechngpjkgnaa
