/- Layer 11: the program's copied, columns; windows of a row. Layer 11: the program's part, in place. Layer 11: a row of the call's own from call to call; what shifting in place makes of it (plain). -/
import Derived.Test.YtifolcfnknlmdaaRwPa
import Derived.Test.YtifolcfnknlmdaaRwGX
/-! ## Layer 11: the program's copied, columns; windows of a row. -/
set_option linter.unusedVariables false
namespace Go.Proofs.Ytifolcfnknlmdaa.Rw
open Go.RowKit

/-- m[X:Y] of a row of the call's own: what its pointer is hangs on no world. -/
theorem win_at (g k c X Y : Nat) (hXY : X ≤ Y) (hY : Y ≤ c) : ∃ p : Option Addr, (p = some ⟨g, X * 7, none⟩ ∨ Y - X = 0) ∧ (∃ q, p = some q) ∧
    (∀ W, (Instr.slice 28 (.slice (some ⟨g, 0, none⟩) k c) (some (.int .i64 (X : Int))) (some (.int .i64 (Y : Int))) none).run Try.prog W = .ok (.slice p (Y - X) (c - X)) W) := by
  have hu : Try.prog.underlying 28 = some (.slice (Try.prog.elem 28)) := by kernel_rfl
  have hs : ∀ W, (sizeOf (Try.prog.elem 28)).run Try.prog W = .ok 7 W := fun W => by kernel_rfl
  refine ⟨if c = X then some ⟨g, 0, none⟩ else some ⟨g, X * 7, none⟩, ?_, ?_, fun W => ?_⟩
  · by_cases h : c = X
    · right; omega
    · left; rw [if_neg h]
  · split <;> exact ⟨_, rfl⟩
  · rw [run_slice_lh W 28 (some ⟨g, 0, none⟩) k c hu .i64 .i64 (X : Int) (Y : Int) (by omega) (by omega) (by omega), hs]
    simp only [Result.andThen, sliced, Int.toNat_natCast, Option.map_some, add_zz]
theorem from_at (g k c X : Nat) (hX : X ≤ k) (hk : k ≤ c) : ∃ p : Option Addr, (p = some ⟨g, X * 7, none⟩ ∨ k - X = 0) ∧ (∃ q, p = some q) ∧
    (∀ W, (Instr.slice 28 (.slice (some ⟨g, 0, none⟩) k c) (some (.int .i64 (X : Int))) none none).run Try.prog W = .ok (.slice p (k - X) (c - X)) W) := by
  have hu : Try.prog.underlying 28 = some (.slice (Try.prog.elem 28)) := by kernel_rfl
  have hs : ∀ W, (sizeOf (Try.prog.elem 28)).run Try.prog W = .ok 7 W := fun W => by kernel_rfl
  refine ⟨if c = X then some ⟨g, 0, none⟩ else some ⟨g, X * 7, none⟩, ?_, ?_, fun W => ?_⟩
  · by_cases h : c = X
    · right; omega
    · left; rw [if_neg h]
  · split <;> exact ⟨_, rfl⟩
  · rw [run_slice_l W 28 (some ⟨g, 0, none⟩) k c hu .i64 (X : Int) (by omega) (by omega), hs]
    simp only [Result.andThen, sliced, Int.toNat_natCast, Option.map_some, add_zz]

theorem copy_all (l m : List Ce) (h : m.length = l.length) : copyV m 0 l = l := by
  unfold copyV
  rw [List.take_zero, List.nil_append, Nat.sub_zero, h, Nat.min_self, Nat.zero_add, List.take_of_length_le (Nat.le_refl _), ← h, List.drop_length, List.append_nil]

/-! ### columns -/
def begV (k : Nat) (x n : Int) : Nat := if roomV k x n = 0 then 0 else x.toNat
def endV (k : Nat) (x n : Int) : Nat := begV k x n + roomV k x n
theorem beg_no {k : Nat} {x n : Int} (h : roomV k x n = 0) : begV k x n = 0 ∧ endV k x n = 0 := by unfold endV begV; rw [if_pos h, h]; exact ⟨rfl, rfl⟩
theorem beg_yes {k : Nat} {x n : Int} (h : roomV k x n ≠ 0) : begV k x n = x.toNat ∧ endV k x n = x.toNat + roomV k x n := by unfold endV begV; rw [if_neg h]; exact ⟨rfl, rfl⟩

end Go.Proofs.Ytifolcfnknlmdaa.Rw

/-! ## Layer 11: the program's part, in place. -/
set_option linter.unusedVariables false
namespace Go.Proofs.Ytifolcfnknlmdaa.Rw
open Go.RowKit

theorem own_k {w : World} {base g k c : Nat} {l : List Ce} (h : OwnC w base (.slice (some ⟨g, 0, none⟩) k c) l) : k = l.length ∧ k ≤ c ∧ c ≤ 9223372036854775807 ∧ g < w.heap.size ∧ base ≤ g := by
  obtain ⟨h1, _, ⟨h2, h3⟩, _⟩ := (own_lies h).row
  exact ⟨h1, by omega, h3, own_lt h g rfl, own_ge h g rfl⟩

def PartPost (w : World) (base g k c : Nat) (l : List Ce) (e : Ending) (w' : World) : Prop := e = .returned (.tuple #[]) ∧ OwnC w' base (.slice (some ⟨g, 0, none⟩) k c) l ∧ Turns g w w'

end Go.Proofs.Ytifolcfnknlmdaa.Rw

/-! ## Layer 11: a row of the call's own from call to call; what shifting in place makes of it (plain). -/
set_option linter.unusedVariables false
namespace Go.Proofs.Ytifolcfnknlmdaa.Rw
open Go.RowKit

/-! ### plain: in place, and as the document has it -/
theorem win_all (l : List Ce) : (l.take l.length).drop 0 = l := by rw [List.drop_zero, List.take_of_length_le (Nat.le_refl _)]
def insW (l : List Ce) (X E : Nat) (a : Aa) : List Ce := fillV (copyV (cutP l X (l.length - (E - X))) E (((cutP l X (l.length - (E - X))).take (l.length - (E - X))).drop X)) X (E - X) a
def delW (l : List Ce) (X E : Nat) (a : Aa) : List Ce := fillV (copyV (cutP l X E) X ((cutP l X E).drop E)) (X + (l.length - E)) (l.length - (X + (l.length - E))) a
def eraW (l : List Ce) (X E : Nat) (a : Aa) : List Ce := fillV (cutP l X E) X (E - X) a
theorem cut_none (l : List Ce) : cutP l 0 l.length = l ∧ cutP l 0 0 = l := by
  unfold cutP
  rw [part_out l (Or.inl rfl)]
  exact ⟨part_out l (Or.inr (Nat.le_refl _)), part_out l (Or.inl rfl)⟩
theorem insW_any (l : List Ce) (x n : Int) (a : Aa) : insW l (begV l.length x n) (endV l.length x n) a = insV l x n a := by
  unfold insV
  by_cases h : roomV l.length x n = 0
  · rw [if_pos h, (beg_no h).1, (beg_no h).2]
    unfold insW
    rw [Nat.sub_zero, Nat.sub_zero, (cut_none l).1, win_all, copy_all l l rfl, fillV_zero]
  · rw [if_neg h, (beg_yes h).1, (beg_yes h).2]
    obtain ⟨h0, h1, h2⟩ := room_le h
    generalize roomV l.length x n = m at *
    generalize x.toNat = X at *
    unfold insW insN
    rw [Nat.add_sub_cancel_left]
    have hl : (cutP l X (l.length - m)).length = l.length := cutP_len _ _ _
    generalize cutP l X (l.length - m) = L at *
    have hy : ((L.take (l.length - m)).drop X).length = l.length - (X + m) := by rw [List.length_drop, List.length_take]; omega
    have e : copyV L (X + m) ((L.take (l.length - m)).drop X) = L.take (X + m) ++ (L.take (l.length - m)).drop X := by
      have t1 : ((L.take (l.length - m)).drop X).take (L.length - (X + m)) = (L.take (l.length - m)).drop X := List.take_of_length_le (by rw [hy, hl]; exact Nat.le_refl _)
      have t2 : L.drop (X + m + min (l.length - (X + m)) (L.length - (X + m))) = [] := List.drop_eq_nil_of_le (by omega)
      unfold copyV
      rw [t1, hy, t2, List.append_nil]
    rw [e]
    have lt : (L.take (X + m)).length = X + m := by rw [List.length_take]; omega
    have t3 : (L.take (X + m)).drop (X + m) = [] := List.drop_eq_nil_of_le (by rw [lt]; exact Nat.le_refl _)
    unfold fillV blanks
    rw [List.take_append_of_le_length (by rw [lt]; omega), List.take_take, Nat.min_eq_left (by omega), List.drop_append_of_le_length (by rw [lt]; exact Nat.le_refl _), t3, List.nil_append]
theorem delW_any (l : List Ce) (x n : Int) (a : Aa) : delW l (begV l.length x n) (endV l.length x n) a = delV l x n a := by
  unfold delV
  by_cases h : roomV l.length x n = 0
  · rw [if_pos h, (beg_no h).1, (beg_no h).2]
    unfold delW
    rw [(cut_none l).2, List.drop_zero, copy_all l l rfl, Nat.sub_zero, Nat.zero_add, Nat.sub_self, fillV_zero]
  · rw [if_neg h, (beg_yes h).1, (beg_yes h).2]
    obtain ⟨h0, h1, h2⟩ := room_le h
    generalize roomV l.length x n = m at *
    generalize x.toNat = X at *
    unfold delW delN
    have hl : (cutP l X (X + m)).length = l.length := cutP_len _ _ _
    generalize cutP l X (X + m) = L at *
    have hy : (L.drop (X + m)).length = l.length - (X + m) := by rw [List.length_drop]; omega
    have e1 : X + (l.length - (X + m)) = l.length - m := by omega
    have e2 : l.length - (l.length - m) = m := by omega
    have e : copyV L X (L.drop (X + m)) = L.take X ++ L.drop (X + m) ++ L.drop (l.length - m) := by
      have t1 : (L.drop (X + m)).take (L.length - X) = L.drop (X + m) := List.take_of_length_le (by rw [hy, hl]; omega)
      unfold copyV
      rw [t1, hy, hl, Nat.min_eq_left (by omega), e1]
    have e3 : (L.take X ++ L.drop (X + m)).length = l.length - m := by rw [List.length_append, List.length_take, hy]; omega
    rw [e1, e2, e]
    have t2 : (L.take X ++ L.drop (X + m)).take (l.length - m) = L.take X ++ L.drop (X + m) := List.take_of_length_le (by omega)
    have t3 : (L.take X ++ L.drop (X + m) ++ L.drop (l.length - m)).drop (l.length - m + m) = [] := List.drop_eq_nil_of_le (by rw [List.length_append, e3, List.length_drop]; omega)
    unfold fillV blanks
    rw [t3, List.take_append_of_le_length (by omega), t2, List.append_nil]
theorem eraW_any (l : List Ce) (x n : Int) (a : Aa) : eraW l (begV l.length x n) (endV l.length x n) a = eraV l x n a := by
  unfold eraV
  by_cases h : roomV l.length x n = 0
  · rw [if_pos h, (beg_no h).1, (beg_no h).2]
    unfold eraW
    rw [(cut_none l).2, Nat.sub_self, fillV_zero]
  · rw [if_neg h, (beg_yes h).1, (beg_yes h).2]
    unfold eraW eraN fillV blanks
    rw [Nat.add_sub_cancel_left]
theorem wriW_any (l : List Ce) (X : Nat) (p : List Ce) (h : X + p.length ≤ l.length) : copyV (cutP l X (X + p.length)) X p = wriN l X p := by
  have t1 : p.take (l.length - X) = p := List.take_of_length_le (by omega)
  unfold wriN copyV
  rw [cutP_len, t1, Nat.min_eq_left (by omega)]
theorem resW_any (l : List Ce) (w : Nat) (a : Aa) : copyV (blanks w a) 0 (partC l w) = resN l w a := by
  unfold resN copyV
  rw [List.take_zero, List.nil_append, Nat.sub_zero, blanks_len, part_len, Nat.zero_add]
  by_cases h : w ≤ l.length
  · rw [if_pos h, Nat.min_eq_right h, List.drop_eq_nil_of_le (by rw [blanks_len]; exact Nat.le_refl _), List.append_nil]
  · rw [if_neg h, Nat.min_eq_left (by omega), part_out l (Or.inr (by omega)), List.take_of_length_le (by omega)]
    unfold blanks
    rw [List.drop_replicate]
theorem col_le (k : Nat) (x n : Int) : begV k x n ≤ endV k x n ∧ endV k x n ≤ k := by
  by_cases h : roomV k x n = 0
  · rw [(beg_no h).1, (beg_no h).2]; omega
  · rw [(beg_yes h).1, (beg_yes h).2]
    have := room_le h
    omega

/-! ### from call to call -/
/-- The row that the call made at W: block g, all of its cells a row of k. -/
def St (W : World) (g k : Nat) (l : List Ce) (V : World) : Prop := Below g W V ∧ OwnC V g (.slice (some ⟨g, 0, none⟩) k k) l
theorem St.len {W V : World} {g k : Nat} {l : List Ce} (h : St W g k l V) : k = l.length := (own_k h.2).1
theorem St.lt {W V : World} {g k : Nat} {l : List Ce} (h : St W g k l V) : g < V.heap.size := (own_k h.2).2.2.2.1
theorem St.below {W V U : World} {g k : Nat} {l : List Ce} (h : St W g k l V) (hb : Below V.heap.size V U) : St W g k l U := ⟨h.1.trans (hb.mono (Nat.le_of_lt h.lt)), own_below h.2 hb (Nat.le_refl _)⟩
theorem St.drewN {W V : World} {g k : Nat} {l : List Ce} (h : St W g k l V) (n : Nat) : St W g k l (V.drewN n) := h.below (below_drew (Below.refl _ _) n)
theorem St.drew {W V : World} {g k : Nat} {l : List Ce} (h : St W g k l V) : St W g k l V.drew := h.drewN 1
theorem St.turns {W V U : World} {g k : Nat} {l m : List Ce} (h : St W g k l V) (ht : Turns g V U) (ho : OwnC U g (.slice (some ⟨g, 0, none⟩) k k) m) : St W g k m U := ⟨ht.below h.1 (Nat.le_refl _) (Nat.le_of_lt h.lt), ho⟩
theorem St.win {W V : World} {g k : Nat} {l : List Ce} (h : St W g k l V) {x y : Nat} (hxy : x ≤ y) (hy : y ≤ k) (hk : k ≤ 100000) {p : Option Addr} (hp : p = some ⟨g, x * 7, none⟩ ∨ y - x = 0) (hq : ∃ q, p = some q) : Lies V (.slice p (y - x) (k - x)) ((l.take y).drop x) := by
  have hl := h.len
  obtain ⟨_, _, _, hR⟩ := (own_lies h.2).row
  refine Lies.cut hR (by omega) (by omega) hxy (by omega) (hp.imp (fun e => by rw [e, Nat.zero_add]) (fun e => ⟨hq, e⟩)) rfl rfl
theorem St.rest {W V : World} {g k : Nat} {l : List Ce} (h : St W g k l V) {x : Nat} (hx : x ≤ k) (hk : k ≤ 100000) {p : Option Addr} (hp : p = some ⟨g, x * 7, none⟩ ∨ k - x = 0) (hq : ∃ q, p = some q) : Lies V (.slice p (k - x) (k - x)) (l.drop x) := by
  have := h.win hx (Nat.le_refl k) hk hp hq
  rwa [h.len, List.take_of_length_le (Nat.le_refl _), ← h.len] at this

theorem st_erase {W V : World} {g k : Nat} {l : List Ce} (h : St W g k l V) (hk : k ≤ 100000) (x n c' : Nat) {p : Option Addr} (hp : p = some ⟨g, x * 7, none⟩ ∨ n = 0) (hx : x + n ≤ k) (a : Aa) : Calls Try.prog 39 #[.slice p n c', attrV a] V fun e w' => e = .returned (.tuple #[]) ∧ St W g k (fillV l x n a) w' := by
  have hl := h.len
  exact (erase_any h.2 x n c' hp (by omega) (by omega) a).mono fun e w' ⟨he, ho, ht⟩ => ⟨he, h.turns ht ho⟩
end Go.Proofs.Ytifolcfnknlmdaa.Rw
