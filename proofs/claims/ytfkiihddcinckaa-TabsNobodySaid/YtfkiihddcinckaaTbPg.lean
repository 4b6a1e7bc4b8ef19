/- Layer 12: stops in memory as columns; New, Set, Clear, ClearAll, Resize. -/
import Derived.Test.YtfkiihddcinckaaTbPf
set_option linter.unusedVariables false
namespace Go.Proofs.Ytfkiihddcinckaa.Tb
open Go.RowKit

/-! ### all columns -/
theorem rep_get (n j : Nat) : (List.replicate n false).getD j false = false := by
  rw [List.getD_eq_getElem?_getD, List.getElem?_replicate]
  split <;> rfl
def onL (bs : List Bool) : List Bool := bs ++ List.replicate (400 - bs.length) false
theorem onL_len {bs : List Bool} (h : bs.length ≤ 400) : (onL bs).length = 400 := by simp [onL]; omega
theorem onL_get (bs : List Bool) (j : Nat) : (onL bs).getD j false = atB bs j := by
  unfold onL atB
  rw [List.getD_eq_getElem?_getD, List.getD_eq_getElem?_getD]
  by_cases h : j < bs.length
  · rw [List.getElem?_append_left h]
  · rw [List.getElem?_append_right (by omega), List.getElem?_eq_none (show bs.length ≤ j by omega)]
    rw [← List.getD_eq_getElem?_getD, rep_get]
    rfl
theorem onL_ext {on bs : List Bool} (hl : on.length = 400) (hb : bs.length ≤ 400) (h : ∀ j, j < 400 → on.getD j false = atB bs j) : on = onL bs :=
  bool_ext hl (onL_len hb) fun j hj => by rw [h j hj, onL_get]

/-- Stops in memory: s points to them, in the blocks F. -/
def IsSt (F : Nat → Prop) (w : World) (s : Value) (bs : List Bool) : Prop := ∃ g, s = .pointer (some ⟨g, 0, none⟩) ∧ F g ∧ (∀ k, F k → k = g) ∧ StAt w g (bs.length : Nat) (onL bs) ∧ 1 ≤ bs.length ∧ bs.length ≤ 400
theorem st_lt {F : Nat → Prop} {w : World} {s : Value} {bs : List Bool} (h : IsSt F w s bs) : ∀ k, F k → k < w.heap.size := by
  obtain ⟨g, _, _, hF, hs, _⟩ := h
  intro k hk
  rw [hF k hk]
  exact hs.lt
theorem st_keep {F : Nat → Prop} {w w' : World} {s : Value} {bs : List Bool} (h : IsSt F w s bs) (hk : ∀ k, F k → w'.heap[k]? = w.heap[k]?) : IsSt F w' s bs := by
  obtain ⟨g, e, hg, hF, hs, h1⟩ := h
  exact ⟨g, e, hg, hF, hs.keep (hk g hg), h1⟩
theorem st_len400 {F : Nat → Prop} {w : World} {s : Value} {bs : List Bool} (h : IsSt F w s bs) : 1 ≤ bs.length ∧ bs.length ≤ 400 := by
  obtain ⟨g, _, _, _, _, h1⟩ := h
  exact h1
/-- Only blocks of F, and new ones, have turned. -/
structure TurnF (F : Nat → Prop) (w w' : World) : Prop where
  os : w'.os = w.os
  tape : w'.tape = w.tape
  output : w'.output = w.output
  size : w.heap.size ≤ w'.heap.size
  block : ∀ k, k < w.heap.size → ¬ F k → w'.heap[k]? = w.heap[k]?
theorem turn_f {F : Nat → Prop} {g : Nat} {w w' : World} (hg : F g) (h : TurnG g w w') : TurnF F w w' := ⟨h.1, h.2.1, h.2.2.1, h.2.2.2.1, fun k hk hf => h.2.2.2.2 k hk (fun e => hf (e ▸ hg))⟩
/-- What a call answers that turns stops. -/
def MPost (F : Nat → Prop) (w : World) (s : Value) (bs : List Bool) (r : Value) (e : Ending) (w' : World) : Prop := e = .returned r ∧ ∃ F' : Nat → Prop, IsSt F' w' s bs ∧ (∀ k, F' k → F k ∨ w.heap.size ≤ k) ∧ TurnF F w w'
theorem mpost {F : Nat → Prop} {g : Nat} {w w' : World} {bs : List Bool} {on : List Bool} {r : Value} (hg : F g) (hF : ∀ k, F k → k = g) (hs : StAt w' g (bs.length : Nat) on) (ht : TurnG g w w') (h1 : 1 ≤ bs.length) (h2 : bs.length ≤ 400) (hon : ∀ j, j < 400 → on.getD j false = atB bs j) : MPost F w (.pointer (some ⟨g, 0, none⟩)) bs r (.returned r) w' :=
  ⟨rfl, F, ⟨g, rfl, hg, hF, by rw [← onL_ext hs.len h2 hon]; exact hs, h1, h2⟩, fun k hk => Or.inl hk, turn_f hg ht⟩

def zeroL : List Value := .int .i64 0 :: List.replicate 400 (.bool false)
def zeroS : Array Value := ⟨zeroL⟩
theorem zero_stops (W : World) : (zeroValue 58).run Try.prog W = .ok (.agg zeroS) W := by kernel_rfl
theorem zeroS_agg : (Value.agg zeroS).cells = zeroS := by kernel_rfl
theorem zeroS_is : zeroS = (stC 0 (List.replicate 400 false)).toArray := by kernel_rfl
attribute [local irreducible] zeroS zeroL
theorem new_any (x : Int) (w : World) : Calls Try.prog 10 #[.int .i64 x] w fun e w' => ∃ s F, e = .returned s ∧ IsSt F w' s (newB x) ∧ (∀ k, F k → w.heap.size ≤ k) ∧ Below w.heap.size w w' := by
  have h2 := zero_stops
  have h3 := zeroS_agg
  have hb := (Below.refl w.heap.size w).alloc (Nat.le_refl _) (.cells zeroS 58)
  have hs : StAt (w.alloc (.cells zeroS 58)) w.heap.size ((0 : Nat) : Int) (List.replicate 400 false) := ⟨by rw [heap_new, zeroS_is]; rfl, List.length_replicate⟩
  have HR : Hid (Calls Try.prog 17 #[.pointer (some ⟨w.heap.size, 0, none⟩), .int .i64 x] (w.alloc (.cells zeroS 58)) fun e w' => e = .returned (.tuple #[]) ∧ IsSt (fun k => k = w.heap.size) w' (.pointer (some ⟨w.heap.size, 0, none⟩)) (newB x) ∧ Below w.heap.size w w') := Lib.hid (by
    refine (resize_run w.heap.size 1 0 (List.replicate 400 false) x _ hs (by omega) (fun j _ => rep_get 400 j) (fun W on' h => width_zero _ on' W h)).mono ?_
    rintro e w' ⟨rfl, hs', ht⟩
    obtain ⟨hm1, hm4⟩ := width_in x
    refine ⟨rfl, ⟨_, rfl, rfl, fun k hk => hk, ?_, by rw [new_len]; exact hm1, by rw [new_len]; exact hm4⟩, hb.trans ⟨ht.1, ht.2.1, ht.2.2.1, ?_, ?_⟩⟩
    · rw [new_len, ← onL_ext (layB_len _ _ _ _) (by rw [new_len]; exact hm4) (fun j hj => ?_)]
      · exact hs'
      · rw [layB_get _ _ _ _ _ hj, at_new]
        by_cases h1 : j < 1
        · have : j = 0 := by omega
          subst this
          rw [if_pos h1, rep_get, Bool.and_false]
          simp [baseB]
        · rw [if_neg h1, show max 1 (widthV x) = widthV x by omega]
    · exact Nat.le_trans (by simp) ht.2.2.2.1
    · intro k hk
      exact ht.2.2.2.2 k (by simp; omega) (by omega))
  clear hb hs
  go_enter Try.func10, Try.ntmps10
  go_wp2_with fail
  refine (show Calls _ _ _ _ _ from HR.out).mono ?_
  rintro e w1 ⟨rfl, q⟩
  have Q := Lib.hid q
  clear q
  go_wp2
  go_ret
  exact ⟨_, _, rfl, Q.out.1, fun k hk => Nat.le_of_eq hk.symm, Q.out.2⟩
end Go.Proofs.Ytfkiihddcinckaa.Tb
