/- Layer 5, plain mathematics: Go's own loop over a text beside the decoder. -/
import Derived.Test.YtbnclfelkdbbcaaDoorDcP
set_option linter.unusedVariables false
namespace Go.Proofs.YtbnclfelkdbbcaaDoor.Dec
open Go.Lib

/-- What Go's loop has gathered of the first pos bytes, and whether all of it were characters. -/
structure GoInv (l : List UInt8) (pos : Nat) (out : List Nat) (wh : Bool) : Prop where
  le : pos ≤ l.length
  good : wh = true → runsD [] (l.take pos) = (out, [])
  count : (allD (l.take pos)).length ≤ out.length
  some : wh = false → 0 < pos
  len : out.length ≤ pos

theorem GoInv.start (l : List UInt8) : GoInv l 0 [] true := ⟨Nat.zero_le _, fun _ => rfl, Nat.le_refl _, (fun h => by cases h), Nat.le_refl _⟩

theorem take_more (l : List UInt8) (p d : Nat) : l.take (p + d) = l.take p ++ (l.drop p).take d := by rw [List.take_add]

theorem GoInv.char {l : List UInt8} {pos : Nat} {out : List Nat} {wh : Bool} (h : GoInv l pos out wh) (hp : pos < l.length) (hc : charB (l.drop pos) = true) :
    GoInv l (pos + (dec (l.drop pos)).2) (out ++ [(dec (l.drop pos)).1]) wh := by
  have hl : 1 ≤ (l.drop pos).length := by simp; omega
  obtain ⟨_, h2, h3, _⟩ := char_told hl hc
  have hr := char_runs (kept_full (l.take pos)) hl hc
  have hq : runsD [] (l.take (pos + (dec (l.drop pos)).2)) = ((runsD [] (l.take pos)).1 ++ (endsD (runsD [] (l.take pos)).2 ++ [(dec (l.drop pos)).1]), []) := by
    rw [take_more, runs_append, hr]
  have hs : (l.drop pos).length = l.length - pos := by simp
  refine ⟨by omega, fun hw => ?_, ?_, fun hw => by have := h.some hw; omega, ?_⟩
  · rw [hq, h.good hw]; simp [endsD]
  · have hc := h.count
    unfold allD at hc ⊢
    rw [hq]
    simp [endsD] at hc ⊢
    omega
  · have := h.len; simp; omega

theorem GoInv.bad {l : List UInt8} {pos : Nat} {out : List Nat} {wh : Bool} (h : GoInv l pos out wh) (hp : pos < l.length) : GoInv l (pos + 1) (out ++ [65533]) false := by
  refine ⟨by omega, fun hw => (by cases hw), ?_, fun _ => by omega, by have := h.len; simp; omega⟩
  have hc := h.count
  have hk := comes_ends (runsD [] (l.take pos)).2 l[pos]
  unfold allD at hc ⊢
  rw [List.take_succ_eq_append_getElem hp, runs_snoc]
  simp only [List.length_append, List.length_cons, List.length_nil] at hc ⊢
  omega

theorem mark_bytes {n b0 b1 b2 b3 : Nat} (h0 : b0 < 256) (h1 : b1 < 256) (h2 : b2 < 256) (h3 : b3 < 256) (hv : (decodeN n b0 b1 b2 b3).1 = 65533) (hc : b0 < 128 ∨ (decodeN n b0 b1 b2 b3).2 ≠ 1) : 3 ≤ n ∧ b0 = 239 ∧ b1 = 191 ∧ b2 = 189 := by
  unfold decodeN at hv hc
  repeat' split at hv
  all_goals simp_all
  all_goals omega

/-- The mark itself, as a character: its three bytes. -/
theorem char_mark {l : List UInt8} (hc : charB l = true) (hv : (dec l).1 = 65533) : 3 ≤ l.length ∧ l.take 3 = [239, 191, 189] := by
  have h := mark_bytes (bt_lt l 0) (bt_lt l 1) (bt_lt l 2) (bt_lt l 3) hv (show bt l 0 < 128 ∨ (dec l).2 ≠ 1 by simpa [charB] using hc)
  refine ⟨h.1, ?_⟩
  match l, h with
  | [], h => simp at h
  | [_], h => simp at h
  | [_, _], h => simp at h
  | x :: y :: z :: m, ⟨_, h1, h2, h3⟩ =>
    have e1 : x = 239 := UInt8.toNat_inj.1 h1
    have e2 : y = 191 := UInt8.toNat_inj.1 h2
    have e3 : z = 189 := UInt8.toNat_inj.1 h3
    rw [e1, e2, e3]
    rfl

theorem mark_char {l : List UInt8} (h : l.take 3 = [239, 191, 189]) : charB l = true := by
  match l, h with
  | [], h => simp at h
  | [_], h => simp at h
  | [_, _], h => simp at h
  | x :: y :: z :: m, h =>
    simp only [List.take_succ_cons, List.take_zero, List.cons.injEq, and_true] at h
    obtain ⟨rfl, rfl, rfl⟩ := h
    unfold charB dec
    have h0 : bt (239 :: 191 :: 189 :: m) 0 = 239 := rfl
    have h1 : bt (239 :: 191 :: 189 :: m) 1 = 191 := rfl
    have h2 : bt (239 :: 191 :: 189 :: m) 2 = 189 := rfl
    rw [h0, h1, h2]
    simp [decodeN]

theorem GoInv.whole {l : List UInt8} {out : List Nat} (h : GoInv l l.length out true) : allD l = out := by
  have := h.good rfl
  rw [List.take_length] at this
  simp [allD, this, endsD]
theorem GoInv.fewer {l : List UInt8} {out : List Nat} (h : GoInv l l.length out false) : (allD l).length ≤ out.length ∧ 0 < (allD l).length := by
  have h1 := h.count
  have h2 := h.some rfl
  have h3 := (all_count l).2
  rw [List.take_length] at h1
  exact ⟨h1, by omega⟩

end Go.Proofs.YtbnclfelkdbbcaaDoor.Dec
