/- Layer 7: what ParamsBack puts into digits, step by step. Plain mathematics. -/
import Derived.Test.YtjeonnlcajlghaaDoorPaM
import Derived.Lib.ItoaMem
namespace Go.Proofs.YtjeonnlcajlghaaDoor.Par

theorem part_snoc (b : Bool) (p : List Nat) (x : Nat) : partT b (p ++ [x]) = partT b p ++ (if b && p.isEmpty then [] else [58]) ++ Lib.decDigits x := by
  induction p generalizing b with
  | nil => cases b <;> simp [partT]
  | cons y p ih =>
    show (if b then [] else [58]) ++ Lib.decDigits y ++ partT false (p ++ [x]) = (if b then [] else [58]) ++ Lib.decDigits y ++ partT false p ++ (if b && false then [] else [58]) ++ Lib.decDigits x
    rw [ih false]
    simp
theorem list_snoc (b : Bool) (l : List (List Nat)) (p : List Nat) : listT b (l ++ [p]) = listT b l ++ (if b && l.isEmpty then [] else [59]) ++ partT true p := by
  induction l generalizing b with
  | nil => cases b <;> simp [listT]
  | cons q l ih =>
    show (if b then [] else [59]) ++ partT true q ++ listT false (l ++ [p]) = (if b then [] else [59]) ++ partT true q ++ listT false l ++ (if b && false then [] else [59]) ++ partT true p
    rw [ih false]
    simp

theorem digits_le (k : Nat) : ∀ n, n < 10 ^ (k + 1) → (Lib.decDigits n).length ≤ k + 1 := by
  induction k with
  | zero => intro n hn; rw [dec_small' (by simpa using hn)]; simp
  | succ k ih =>
    intro n hn
    by_cases h : n < 10
    · rw [dec_small' h]; simp
    · rw [dec_great' h, List.length_append, dec_small' (Nat.mod_lt _ (by omega))]
      have := ih (n / 10) (by rw [Nat.pow_succ] at hn; exact Nat.div_lt_of_lt_mul (by rw [Nat.mul_comm]; exact hn))
      simp
      omega

/-- The parameters brought to what may be. -/
def rowB (T : Nat → Nat → Int) (r m : Nat) : List Nat := (List.range m).map fun c => (T r c).toNat % 10000
def backB (L : Nat → Nat) (T : Nat → Nat → Int) (n : Nat) : List (List Nat) := (List.range n).map fun r => rowB T r (L r)
theorem row_succ (T : Nat → Nat → Int) (r m : Nat) : rowB T r (m + 1) = rowB T r m ++ [(T r m).toNat % 10000] := by
  unfold rowB
  rw [List.range_succ, List.map_append]
  rfl
theorem back_succ (L : Nat → Nat) (T : Nat → Nat → Int) (n : Nat) : backB L T (n + 1) = backB L T n ++ [rowB T n (L n)] := by
  unfold backB
  rw [List.range_succ, List.map_append]
  rfl
theorem row_len (T : Nat → Nat → Int) (r m : Nat) : (rowB T r m).length = m := by simp [rowB]
theorem back_len (L : Nat → Nat) (T : Nat → Nat → Int) (n : Nat) : (backB L T n).length = n := by simp [backB]

/-- The text ahead of part m of parameter k. -/
def textB (L : Nat → Nat) (T : Nat → Nat → Int) (k m : Nat) : List UInt8 := listT true (backB L T k) ++ (if k = 0 then [] else [59]) ++ partT true (rowB T k m)
theorem text_zero (L : Nat → Nat) (T : Nat → Nat → Int) (k : Nat) : textB L T k 0 = listT true (backB L T k) ++ (if k = 0 then [] else [59]) := by
  simp [textB, rowB, partT]
theorem text_succ (L : Nat → Nat) (T : Nat → Nat → Int) (k m : Nat) : textB L T k (m + 1) = textB L T k m ++ (if m = 0 then [] else [58]) ++ Lib.decDigits ((T k m).toNat % 10000) := by
  unfold textB
  rw [row_succ, part_snoc]
  have : (true && (rowB T k m).isEmpty) = decide (m = 0) := by
    cases m with
    | zero => simp [rowB]
    | succ m => rw [row_succ]; simp
  rw [this]
  by_cases h : m = 0 <;> simp [h]
theorem text_end (L : Nat → Nat) (T : Nat → Nat → Int) (k : Nat) : listT true (backB L T (k + 1)) = textB L T k (L k) := by
  unfold textB
  rw [back_succ, list_snoc]
  have : (true && (backB L T k).isEmpty) = decide (k = 0) := by
    cases k with
    | zero => simp [backB]
    | succ k => rw [back_succ]; simp
  rw [this]
  by_cases h : k = 0 <;> simp [h]
theorem back_ok (L : Nat → Nat) (T : Nat → Nat → Int) (n : Nat) (h : ∀ r, r < n → 1 ≤ L r ∧ L r ≤ 8) : ∀ p ∈ backB L T n, 1 ≤ p.length ∧ p.length ≤ 8 ∧ ∀ x ∈ p, x ≤ 9999 := by
  intro p hp
  simp only [backB, List.mem_map, List.mem_range] at hp
  obtain ⟨r, hr, rfl⟩ := hp
  rw [row_len]
  refine ⟨(h r hr).1, (h r hr).2, fun x hx => ?_⟩
  simp only [rowB, List.mem_map, List.mem_range] at hx
  obtain ⟨c, _, rfl⟩ := hx
  omega
/-- P7.3. -/
theorem back_pars (L : Nat → Nat) (T : Nat → Nat → Int) (n : Nat) (hn : n ≤ 16) (h : ∀ r, r < n → 1 ≤ L r ∧ L r ≤ 8) : listP (runP none (listT true (backB L T n))) = backB L T n :=
  pars_text _ (by rw [back_len]; exact hn) (back_ok L T n h)
end Go.Proofs.YtjeonnlcajlghaaDoor.Par
