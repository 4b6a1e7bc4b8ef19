/- Layer 13: lines, cut at their front or their end: what the walk reckons, and how it reads. -/
import Derived.Test.YtomfeehebkknoaaScC
import Derived.Laws.Slices
set_option linter.unusedVariables false
namespace Go.Proofs.Ytomfeehebkknoaa.Rw
open Go.RowKit

theorem tab_under : Try.prog.underlying 22 = some (.slice (Try.prog.elem 22)) := by kernel_rfl
theorem tab_size (W : World) : (sizeOf (Try.prog.elem 22)).run Try.prog W = .ok 1 W := by kernel_rfl
section
variable {F : Nat → Prop} {w : World} {b o n c : Nat} {ls : Ls}
/-- From x to y. -/
theorem win_tab (h : TabAt F w (.slice (some ⟨b, o, none⟩) n c) ls) (x y : Nat) (hxy : x ≤ y) (hy : y ≤ n) : ∃ p : Option Addr, (∀ W, (Instr.slice 22 (.slice (some ⟨b, o, none⟩) n c) (some (.int .i64 (x : Int))) (some (.int .i64 (y : Int))) none).run Try.prog W = .ok (.slice p (y - x) (c - x)) W) ∧ ∀ V, Below w.heap.size w V → TabAt F V (.slice p (y - x) (c - x)) ((ls.take y).drop x) := by
  have hl := h.len
  refine ⟨if c = x then some ⟨b, o, none⟩ else some ⟨b, o + x, none⟩, fun W => ?_, fun V hV => (h.below hV).cut hxy hy ?_ rfl rfl⟩
  · rw [run_slice_lh W 22 (some ⟨b, o, none⟩) n c tab_under .i64 .i64 (x : Int) (y : Int) (by omega) (by omega) (by omega), tab_size]
    simp only [Result.andThen, sliced, Int.toNat_natCast, Option.map_some, add_oo, Nat.mul_one]
  · by_cases e : c = x
    · rw [if_pos e]; exact Or.inr ⟨⟨_, rfl⟩, by omega⟩
    · rw [if_neg e]; exact Or.inl rfl
/-- Up to y. -/
theorem to_tab (h : TabAt F w (.slice (some ⟨b, o, none⟩) n c) ls) (y : Nat) (hy : y ≤ n) : (∀ W, (Instr.slice 22 (.slice (some ⟨b, o, none⟩) n c) none (some (.int .i64 (y : Int))) none).run Try.prog W = .ok (.slice (some ⟨b, o, none⟩) y c) W) ∧ ∀ V, Below w.heap.size w V → TabAt F V (.slice (some ⟨b, o, none⟩) y c) (ls.take y) := by
  have hl := h.len
  refine ⟨fun W => ?_, fun V hV => ?_⟩
  · rw [run_slice_h W 22 (some ⟨b, o, none⟩) n c tab_under .i64 (y : Int) (by omega) (by omega), tab_size]
    simp [Result.andThen, sliced]
    intro _; exact (add_oo _ _ _).trans rfl
  · have := (h.below hV).cut (x := 0) (y := y) (Nat.zero_le _) hy (A := some ⟨b, o, none⟩) (Or.inl rfl) (n' := y) (c' := c) rfl rfl
    rwa [List.drop_zero] at this
/-- From x on. -/
theorem from_tab (h : TabAt F w (.slice (some ⟨b, o, none⟩) n c) ls) (x : Nat) (hx : x ≤ n) : ∃ p : Option Addr, (∀ W, (Instr.slice 22 (.slice (some ⟨b, o, none⟩) n c) (some (.int .i64 (x : Int))) none none).run Try.prog W = .ok (.slice p (n - x) (c - x)) W) ∧ ∀ V, Below w.heap.size w V → TabAt F V (.slice p (n - x) (c - x)) (ls.drop x) := by
  have hl := h.len
  refine ⟨if c = x then some ⟨b, o, none⟩ else some ⟨b, o + x, none⟩, fun W => ?_, fun V hV => ?_⟩
  · rw [run_slice_l W 22 (some ⟨b, o, none⟩) n c tab_under .i64 (x : Int) (by omega) (by omega), tab_size]
    simp only [Result.andThen, sliced, Int.toNat_natCast, Option.map_some, add_oo, Nat.mul_one]
  · have := (h.below hV).cut (x := x) (y := n) hx (Nat.le_refl _) (A := if c = x then some ⟨b, o, none⟩ else some ⟨b, o + x, none⟩) (by
      by_cases e : c = x
      · rw [if_pos e]; exact Or.inr ⟨⟨_, rfl⟩, by omega⟩
      · rw [if_neg e]; exact Or.inl rfl) (n' := n - x) (c' := c - x) rfl rfl
    rwa [hl.1, List.take_of_length_le (Nat.le_refl _), ← hl.1] at this
end
/-- Some lines: they lie somewhere. -/
theorem TabAt.some_ {F : Nat → Prop} {w : World} {A : Option Addr} {n c : Nat} {ls : Ls} (h : TabAt F w (.slice A n c) ls) (hn : 0 < n) : ∃ b o, A = some ⟨b, o, none⟩ := by
  obtain ⟨b, o, _, e, _⟩ := h.at_ hn
  exact ⟨b, o, e⟩
/-- Two windows are the same. -/
theorem same_win {F G : Nat → Prop} {w : World} {v1 v2 : Value} {l1 l2 : Ls} (h1 : ∀ V, Below w.heap.size w V → TabAt F V v1 l1) (h2 : ∀ V, Below w.heap.size w V → TabAt G V v2 l2) (he : l1 = l2) (hl : l1.length ≤ 100000) (hw : wideL l1) : ∀ V, Below w.heap.size w V → Calls Try.prog 10 #[v1, v2] V fun e w' => e = .returned (.bool true) ∧ Below w.heap.size w w' := fun V hV => by
  have := same_tab (h1 V hV) (h2 V hV) hl hw
  rw [decide_eq_true he] at this
  exact this.mono fun e w' ⟨he, hb⟩ => ⟨he, hV.trans (hb.mono hV.size)⟩
theorem wide_take {ls : Ls} (h : wideL ls) (y : Nat) : wideL (ls.take y) := fun k => by
  by_cases hk : k < y
  · rw [line_take _ _ _ hk]; exact h k
  · unfold lineV
    rw [List.getD_eq_getElem?_getD, List.getElem?_take, if_neg hk]
    simp
theorem wide_drop {ls : Ls} (h : wideL ls) (x : Nat) : wideL (ls.drop x) := fun k => by rw [line_drop]; exact h _
theorem fresh_len (w : Int) (a : Aa) : (freshC w a).length ≤ 400 := by
  unfold freshC
  split
  · rw [blanks_len]; omega
  · simp
theorem wide_up {ls : Ls} (h : wideL ls) (t b n : Nat) (w : Int) (a : Aa) : wideL (upN ls t b n (freshC w a)) := fun k => by
  by_cases hk : k < ls.length
  · rw [upN_at _ _ _ _ _ _ hk]
    have := fresh_len w a
    split
    · exact h k
    · split
      · exact h _
      · omega
  · unfold lineV
    rw [List.getD_eq_getElem?_getD, List.getElem?_eq_none (by rw [upN_len]; omega)]
    simp
theorem wide_down {ls : Ls} (h : wideL ls) (t b n : Nat) (w : Int) (a : Aa) : wideL (downN ls t b n (freshC w a)) := fun k => by
  by_cases hk : k < ls.length
  · rw [downN_at _ _ _ _ _ _ hk]
    have := fresh_len w a
    split
    · exact h k
    · split
      · exact h _
      · omega
  · unfold lineV
    rw [List.getD_eq_getElem?_getD, List.getElem?_eq_none (by rw [downN_len]; omega)]
    simp
/-- The region, the number: what Up and Down do is what the lists say. -/
theorem by_is {m t b n : Nat} {N : Int} (hb : t ≤ b) (h1 : 1 ≤ N) (hn : (n : Int) = min N ((b : Int) - t + 1)) : byN (t : Int) (b : Int) N = n := by unfold byN; omega
theorem upO_is {ls : Ls} {t b n : Nat} {N : Int} (f : List Ce) (ht : t ≤ b) (hb : b < ls.length) (h1 : 1 ≤ N) (hn : (n : Int) = min N ((b : Int) - t + 1)) : upO ls t b N f = upN ls t b n f ∧ upG ls t b N = cutL ls t n ∧ downO ls t b N f = downN ls t b n f ∧ downG ls t b N = cutL ls (b + 1 - n) n := by
  have hok : okB ls.length (t : Int) (b : Int) N = true := ok_iff.2 ⟨by omega, by omega, by omega, h1⟩
  have hby := by_is (m := 0) ht h1 hn
  unfold upO upG downO downG
  rw [if_pos hok, if_pos hok, if_pos hok, if_pos hok, hby, Int.toNat_natCast, Int.toNat_natCast]
  exact ⟨rfl, rfl, rfl, rfl⟩
end Go.Proofs.Ytomfeehebkknoaa.Rw
