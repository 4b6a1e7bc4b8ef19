/- Layer 14: a back as a list (plain): what is put, popped, asked for. -/
namespace Go.Proofs.Ytpanhkhiomgclaa.Ba

def IntIn (x : Int) : Prop := -9223372036854775808 ≤ x ∧ x ≤ 9223372036854775807
def putB (M : Nat) (L : List Int) : Bool := decide (M < L.length + 1)
def putV (M : Nat) (L : List Int) (x : Int) : List Int := if M < L.length + 1 then (L ++ [x]).drop 1 else L ++ [x]
def goneV (M : Nat) (L : List Int) (G : Nat) : Nat := if M < L.length + 1 then G + 1 else G
def popX (L : List Int) : Int := L.getD (L.length - 1) 0
def someB (L : List Int) : Bool := decide (0 < L.length)
def atB (L : List Int) (i : Int) : Bool := decide (0 ≤ i) && decide (i < L.length)
def atX (L : List Int) (i : Int) : Int := if 0 ≤ i ∧ i < L.length then L.getD i.toNat 0 else 0
def lastV (L : List Int) (n : Int) : List Int := L.drop (L.length - n.toNat)
def newB (m : Int) : Bool := decide (0 ≤ m) && decide (m ≤ 500)
theorem putV_len (M : Nat) (L : List Int) (x : Int) (h : L.length ≤ M) : (putV M L x).length ≤ M := by
  unfold putV
  split
  · rw [List.length_drop, List.length_append, List.length_singleton]; omega
  · rw [List.length_append, List.length_singleton]; omega
theorem putV_len2 (M : Nat) (L : List Int) (x : Int) : (putV M L x).length ≤ L.length + 1 := by
  unfold putV
  split
  · rw [List.length_drop, List.length_append, List.length_singleton]; omega
  · rw [List.length_append, List.length_singleton]; omega
theorem pop_len (L : List Int) : L.dropLast.length ≤ L.length := by rw [List.length_dropLast]; omega
theorem last_len (L : List Int) (n : Int) : (lastV L n).length ≤ L.length := by unfold lastV; rw [List.length_drop]; omega
theorem last_all (L : List Int) (n : Int) (h : (L.length : Int) ≤ n) : lastV L n = L := by
  unfold lastV
  rw [show L.length - n.toNat = 0 by omega, List.drop_zero]
/-- What a back has are the last ones put: one more. -/
def lastsV (M : Nat) (p : List Int) : List Int := p.drop (p.length - M)
theorem lasts_len (M : Nat) (p : List Int) : (lastsV M p).length = min p.length M := by unfold lastsV; rw [List.length_drop]; omega
theorem lasts_put (M : Nat) (p : List Int) (x : Int) : putV M (lastsV M p) x = lastsV M (p ++ [x]) ∧ putB M (lastsV M p) = decide (M ≤ p.length) ∧ ∀ G, goneV M (lastsV M p) (G + (p.length - M)) = G + (p.length + 1 - M) := by
  have hl := lasts_len M p
  refine ⟨?_, ?_, fun G => ?_⟩
  · unfold putV
    rw [hl]
    unfold lastsV
    rw [List.length_append, List.length_singleton]
    by_cases h : M ≤ p.length
    · rw [if_pos (by omega), show p.length + 1 - M = (p.length - M) + 1 by omega, ← List.drop_drop, show (p ++ [x]).drop (p.length - M) = p.drop (p.length - M) ++ [x] from List.drop_append_of_le_length (by omega)]
    · rw [if_neg (by omega), show p.length - M = 0 by omega, show p.length + 1 - M = 0 by omega, List.drop_zero, List.drop_zero]
  · unfold putB
    rw [hl]
    by_cases h : M ≤ p.length
    · rw [decide_eq_true h, decide_eq_true (by omega)]
    · rw [decide_eq_false h, decide_eq_false (by omega)]
  · unfold goneV
    rw [hl]
    split <;> omega
end Go.Proofs.Ytpanhkhiomgclaa.Ba
