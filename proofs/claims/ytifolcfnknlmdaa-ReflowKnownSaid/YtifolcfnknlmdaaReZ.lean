/- Layer 15: lines and places computed (plain), for the closed facts. -/
import Derived.Test.YtifolcfnknlmdaaRePs
set_option linter.unusedVariables false
namespace Go.Proofs.Ytifolcfnknlmdaa.Re
open Go.Proofs.Ytifolcfnknlmdaa.Rw

def layC (W : Nat) (cs : List Ce) : List LnC := (cs.foldl (step blC wdC W) ([], [])).1 ++ [⟨(cs.foldl (step blC wdC W) ([], [])).2 ++ List.replicate (W - (cs.foldl (step blC wdC W) ([], [])).2.length) blC, false, false⟩]
theorem lay_c (W : Nat) (hW : 2 ≤ W) (cs : List Ce) : lay blC wdC W cs = layC W cs := by
  have h := fold_end W hW cs
  unfold foldV at h
  rw [List.take_length] at h
  exact h.symm
def posC (W : Nat) (cs : List Ce) (i : Nat) : Nat × Nat := (((cs.take (i + 1)).foldl (step blC wdC W) ([], [])).2.length - 1, ((cs.take (i + 1)).foldl (step blC wdC W) ([], [])).1.length)
theorem pos_c (W : Nat) (hW : 2 ≤ W) (cs : List Ce) (i : Nat) (h : i < cs.length) : pos blC wdC W cs i = posC W cs i := by
  have hp := fold_pos blC wdC W hW (cs.take (i + 1)) [] [] (cs.drop (i + 1)) (open_nil blC wdC W hW) (fun e => by have h0 := congrArg List.length e; rw [List.length_take, List.length_nil] at h0; omega)
  have hl : (cs.take (i + 1)).length = i + 1 := by rw [List.length_take]; omega
  rw [hl, List.nil_append, List.take_append_drop, List.length_nil, List.length_nil, Nat.zero_add, Nat.add_zero, Nat.add_sub_cancel] at hp
  unfold posC
  rw [← hp.1, ← hp.2, Nat.add_sub_cancel]
  rfl
def spotC (w : Nat) (p : List Ce) (i : Nat) : Nat × Nat :=
  if i < p.length then posC w p i
  else (min ((if p.length = 0 then 0 else (posC w p (p.length - 1)).1 + 1) + (i - p.length)) (w - 1), (layC w p).length - 1)
theorem spot_c (w : Nat) (hw : 2 ≤ w) (p : List Ce) (i : Nat) : spot w p i = spotC w p i := by
  unfold spot spotC
  rw [lay_c w hw]
  by_cases h : i < p.length
  · rw [if_pos h, if_pos h, pos_c w hw p i h]
  · rw [if_neg h, if_neg h]
    by_cases h0 : p.length = 0
    · rw [if_pos h0, if_pos h0]
    · rw [if_neg h0, if_neg h0, pos_c w hw p (p.length - 1) (by omega)]
def placeC (w x : Nat) (acc : List Ce) (down : Nat) : Nat → List LnC → Nat × Nat
  | _, [] => (0, 0)
  | 0, a :: r =>
    let x' := if a.joined = true ∧ r ≠ [] ∧ (cnt a).length < x then (cnt a).length else x
    let q := spotC w (paraHd acc (a :: r)) (acc.length + x')
    (q.1, down + q.2)
  | y + 1, a :: r => if a.joined then placeC w x (acc ++ cnt a) down y r else placeC w x [] (down + (layC w (trim blC (acc ++ cnt a))).length) y r
theorem place_c (w x : Nat) (hw : 2 ≤ w) : ∀ (l : List LnC) (acc : List Ce) (down y : Nat), placeA w x acc down y l = placeC w x acc down y l
  | [], acc, down, y => by cases y <;> rfl
  | a :: r, acc, down, 0 => by rw [placeA, placeC]; simp only [spot_c w hw]
  | a :: r, acc, down, y + 1 => by
    rw [placeA, placeC, lay_c w hw]
    split
    · exact place_c w x hw r _ _ _
    · exact place_c w x hw r _ _ _
def linesC (W : Int) (l : List LnC) : List LnC := if 2 ≤ W ∧ W ≤ 400 then (paras blC l).flatMap (layC W.toNat) else []
theorem lines_c (W : Int) (l : List LnC) : linesI W l = linesC W l := by
  unfold linesI linesC
  by_cases h : 2 ≤ W ∧ W ≤ 400
  · rw [if_pos h, if_pos h]
    unfold linesV
    have e : lay blC wdC W.toNat = layC W.toNat := funext fun cs => lay_c W.toNat (by omega) cs
    rw [e]
  · rw [if_neg h, if_neg h]
def placeIC (l : List LnC) (W x y : Int) : Nat × Nat := if okI l W x y then placeC W.toNat x.toNat [] 0 y.toNat l else (0, 0)
theorem placeI_c (l : List LnC) (W x y : Int) : placeI l W x y = placeIC l W x y := by
  unfold placeI placeIC
  by_cases h : okI l W x y = true
  · rw [if_pos h, if_pos h]
    unfold placeV
    unfold okI at h
    simp only [Bool.and_eq_true, decide_eq_true_eq] at h
    exact place_c W.toNat x.toNat (by omega) l [] 0 y.toNat
  · rw [if_neg h, if_neg h]
theorem pl_311 : placeI pageV 3 1 1 = (2, 1) := by rw [placeI_c]; decide +kernel
def page3 : List LnC := [⟨ofV [97, 98, 99], true, false⟩, ⟨ofV [100, 101, 102], false, false⟩, ⟨ofV [103, 104, 32], false, false⟩]
theorem ln_page3 : linesI 3 pageV = page3 := by rw [lines_c]; decide +kernel
theorem pa_page : (paras blC pageV).length = 2 := by decide +kernel
theorem sm_page : pageV.length ≤ 100000 ∧ sumV pageV ≤ 100000 := by decide +kernel
end Go.Proofs.Ytifolcfnknlmdaa.Re
