/- Layer 13: lines that move in a region (plain). -/
import Derived.Test.YtomfeehebkknoaaRwM
set_option linter.unusedVariables false
namespace Go.Proofs.Ytomfeehebkknoaa.Rw

abbrev Ls := List (List Ce)
def lineV (l : Ls) (k : Nat) : List Ce := l.getD k []
theorem line_lt {l : Ls} {k : Nat} (h : k < l.length) : lineV l k = l[k] := by unfold lineV; rw [List.getD_eq_getElem?_getD, List.getElem?_eq_getElem h]; rfl
theorem line_ext {l m : Ls} (hl : l.length = m.length) (h : ∀ k, k < l.length → lineV l k = lineV m k) : l = m := by
  refine List.ext_getElem hl fun k h1 h2 => ?_
  have := h k h1
  rwa [line_lt h1, line_lt h2] at this
theorem line_map (n k : Nat) (f : Nat → List Ce) (h : k < n) : lineV ((List.range n).map f) k = f k := by
  rw [line_lt (by simpa using h)]
  simp
theorem line_take (l : Ls) (m k : Nat) (h : k < m) : lineV (l.take m) k = lineV l k := by
  unfold lineV
  rw [List.getD_eq_getElem?_getD, List.getD_eq_getElem?_getD, List.getElem?_take, if_pos h]
theorem line_drop (l : Ls) (m k : Nat) : lineV (l.drop m) k = lineV l (m + k) := by
  unfold lineV
  rw [List.getD_eq_getElem?_getD, List.getD_eq_getElem?_getD, List.getElem?_drop]
/-- Up, down: the lines from t to b move by n. -/
def upN (l : Ls) (t b n : Nat) (f : List Ce) : Ls := (List.range l.length).map fun k => if k < t ∨ b < k then lineV l k else if k + n ≤ b then lineV l (k + n) else f
def downN (l : Ls) (t b n : Nat) (f : List Ce) : Ls := (List.range l.length).map fun k => if k < t ∨ b < k then lineV l k else if t + n ≤ k then lineV l (k - n) else f
def cutL (l : Ls) (x n : Nat) : Ls := (List.range n).map fun k => lineV l (x + k)
/-- A region, and a number that moves it. -/
def okB (len : Nat) (t b n : Int) : Bool := decide (0 ≤ t) && decide (t ≤ b) && decide (b < len) && decide (1 ≤ n)
theorem ok_iff {len : Nat} {t b n : Int} : okB len t b n = true ↔ 0 ≤ t ∧ t ≤ b ∧ b < len ∧ 1 ≤ n := by
  unfold okB; simp [and_assoc]
def byN (t b n : Int) : Nat := (min n (b - t + 1)).toNat
def upO (l : Ls) (t b n : Int) (f : List Ce) : Ls := if okB l.length t b n then upN l t.toNat b.toNat (byN t b n) f else l
def upG (l : Ls) (t b n : Int) : Ls := if okB l.length t b n then cutL l t.toNat (byN t b n) else []
def downO (l : Ls) (t b n : Int) (f : List Ce) : Ls := if okB l.length t b n then downN l t.toNat b.toNat (byN t b n) f else l
def downG (l : Ls) (t b n : Int) : Ls := if okB l.length t b n then cutL l (b.toNat + 1 - byN t b n) (byN t b n) else []
def inB (len : Nat) (y t b : Int) : Bool := decide (0 ≤ t) && decide (b < len) && decide (t ≤ y) && decide (y ≤ b)
def insO (l : Ls) (y t b n : Int) (f : List Ce) : Ls := if inB l.length y t b then downO l y b n f else l
def delO (l : Ls) (y t b n : Int) (f : List Ce) : Ls := if inB l.length y t b then upO l y b n f else l
/-- A fresh line; so many. -/
def freshC (w : Int) (a : Aa) : List Ce := if 1 ≤ w ∧ w ≤ 400 then blanks w.toNat a else []
def freshT (h w : Int) (a : Aa) : Ls := if 1 ≤ h ∧ h ≤ 400 then List.replicate h.toNat (freshC w a) else []

theorem upN_len (l : Ls) (t b n : Nat) (f : List Ce) : (upN l t b n f).length = l.length := by simp [upN]
theorem downN_len (l : Ls) (t b n : Nat) (f : List Ce) : (downN l t b n f).length = l.length := by simp [downN]
theorem cutL_len (l : Ls) (x n : Nat) : (cutL l x n).length = n := by simp [cutL]
theorem upO_len (l : Ls) (t b n : Int) (f : List Ce) : (upO l t b n f).length = l.length := by unfold upO; split; (· exact upN_len _ _ _ _ _); rfl
theorem downO_len (l : Ls) (t b n : Int) (f : List Ce) : (downO l t b n f).length = l.length := by unfold downO; split; (· exact downN_len _ _ _ _ _); rfl
theorem upN_at (l : Ls) (t b n : Nat) (f : List Ce) (k : Nat) (h : k < l.length) : lineV (upN l t b n f) k = if k < t ∨ b < k then lineV l k else if k + n ≤ b then lineV l (k + n) else f := line_map _ _ _ h
theorem downN_at (l : Ls) (t b n : Nat) (f : List Ce) (k : Nat) (h : k < l.length) : lineV (downN l t b n f) k = if k < t ∨ b < k then lineV l k else if t + n ≤ k then lineV l (k - n) else f := line_map _ _ _ h
theorem cutL_at (l : Ls) (x n k : Nat) (h : k < n) : lineV (cutL l x n) k = lineV l (x + k) := line_map _ _ _ h

/-! ### what ScrollBack says, at a region that may be -/
theorem back_head {l : Ls} {t b n : Nat} (f : List Ce) (ht : t ≤ b) (hb : b < l.length) (h1 : 1 ≤ n) (hn : n ≤ b + 1 - t) : (upN (downN l t b n f) t b n f).take (b + 1 - n) = l.take (b + 1 - n) := by
  refine line_ext (by rw [List.length_take, List.length_take, upN_len, downN_len]) fun k hk => ?_
  rw [List.length_take, upN_len, downN_len] at hk
  rw [line_take _ _ _ (by omega), line_take _ _ _ (by omega), upN_at _ _ _ _ _ _ (by rw [downN_len]; omega)]
  by_cases h : k < t ∨ b < k
  · rw [if_pos h, downN_at _ _ _ _ _ _ (by omega), if_pos h]
  · rw [if_neg h, if_pos (by omega), downN_at _ _ _ _ _ _ (by omega), if_neg (by omega), if_pos (by omega), show k + n - n = k by omega]
theorem back_tail {l : Ls} {t b n : Nat} (f : List Ce) (ht : t ≤ b) (hb : b < l.length) (h1 : 1 ≤ n) (hn : n ≤ b + 1 - t) : (upN (downN l t b n f) t b n f).drop (b + 1) = l.drop (b + 1) := by
  refine line_ext (by rw [List.length_drop, List.length_drop, upN_len, downN_len]) fun k hk => ?_
  rw [List.length_drop, upN_len, downN_len] at hk
  rw [line_drop, line_drop, upN_at _ _ _ _ _ _ (by rw [downN_len]; omega), if_pos (by omega), downN_at _ _ _ _ _ _ (by omega), if_pos (by omega)]
theorem down_mid {l : Ls} {t b n : Nat} (f : List Ce) (ht : t ≤ b) (hb : b < l.length) (h1 : 1 ≤ n) (hn : n ≤ b + 1 - t) : ((downN l t b n f).take (b + 1)).drop (t + n) = (l.take (b + 1 - n)).drop t := by
  refine line_ext (by rw [List.length_drop, List.length_take, List.length_drop, List.length_take, downN_len]; omega) fun k hk => ?_
  rw [List.length_drop, List.length_take, downN_len] at hk
  rw [line_drop, line_drop, line_take _ _ _ (by omega), line_take _ _ _ (by omega), downN_at _ _ _ _ _ _ (by omega), if_neg (by omega), if_pos (by omega), show t + n + k - n = t + k by omega]
theorem up_mid {l : Ls} {t b n : Nat} (f : List Ce) (ht : t ≤ b) (hb : b < l.length) (h1 : 1 ≤ n) (hn : n ≤ b + 1 - t) : ((upN l t b n f).take (b + 1 - n)).drop t = (l.take (b + 1)).drop (t + n) := by
  refine line_ext (by rw [List.length_drop, List.length_take, List.length_drop, List.length_take, upN_len]; omega) fun k hk => ?_
  rw [List.length_drop, List.length_take, upN_len] at hk
  rw [line_drop, line_drop, line_take _ _ _ (by omega), line_take _ _ _ (by omega), upN_at _ _ _ _ _ _ (by omega), if_neg (by omega), if_pos (by omega), show t + k + n = t + n + k by omega]
theorem up_head {l : Ls} {t b n : Nat} (f : List Ce) (ht : t ≤ b) (hb : b < l.length) (h1 : 1 ≤ n) (hn : n ≤ b + 1 - t) : (upN l t b n f).take t = l.take t := by
  refine line_ext (by rw [List.length_take, List.length_take, upN_len]) fun k hk => ?_
  rw [List.length_take, upN_len] at hk
  rw [line_take _ _ _ (by omega), line_take _ _ _ (by omega), upN_at _ _ _ _ _ _ (by omega), if_pos (by omega)]
theorem down_tail {l : Ls} {t b n : Nat} (f : List Ce) (ht : t ≤ b) (hb : b < l.length) (h1 : 1 ≤ n) (hn : n ≤ b + 1 - t) : (downN l t b n f).drop (b + 1) = l.drop (b + 1) := by
  refine line_ext (by rw [List.length_drop, List.length_drop, downN_len]) fun k hk => ?_
  rw [List.length_drop, downN_len] at hk
  rw [line_drop, line_drop, downN_at _ _ _ _ _ _ (by omega), if_pos (by omega)]
theorem gone_down {l : Ls} {t b n : Nat} (f : List Ce) (ht : t ≤ b) (hb : b < l.length) (h1 : 1 ≤ n) (hn : n ≤ b + 1 - t) : cutL l (b + 1 - n) n = (l.take (b + 1)).drop (b + 1 - n) := by
  refine line_ext (by rw [cutL_len, List.length_drop, List.length_take]; omega) fun k hk => ?_
  rw [cutL_len] at hk
  rw [cutL_at _ _ _ _ hk, line_drop, line_take _ _ _ (by omega)]
theorem gone_up {l : Ls} {t b n : Nat} (f : List Ce) (ht : t ≤ b) (hb : b < l.length) (h1 : 1 ≤ n) (hn : n ≤ b + 1 - t) : cutL l t n = (l.take (t + n)).drop t := by
  refine line_ext (by rw [cutL_len, List.length_drop, List.length_take]; omega) fun k hk => ?_
  rw [cutL_len] at hk
  rw [cutL_at _ _ _ _ hk, line_drop, line_take _ _ _ (by omega)]
/-- What is gone when they come up again are the fresh ones. -/
theorem gone_back {l : Ls} {t b n : Nat} (f : List Ce) (ht : t ≤ b) (hb : b < l.length) (h1 : 1 ≤ n) (hn : n ≤ b + 1 - t) : cutL (downN l t b n f) t n = List.replicate n f := by
  refine line_ext (by rw [cutL_len, List.length_replicate]) fun k hk => ?_
  rw [cutL_len] at hk
  rw [cutL_at _ _ _ _ hk, downN_at _ _ _ _ _ _ (by omega), if_neg (by omega), if_neg (by omega), line_lt (by rw [List.length_replicate]; exact hk), List.getElem_replicate]
end Go.Proofs.Ytomfeehebkknoaa.Rw
