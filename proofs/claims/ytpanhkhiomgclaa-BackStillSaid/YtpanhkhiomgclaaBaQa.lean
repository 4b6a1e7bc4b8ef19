/- Layer 14: what a round of BackStill's range keeps: the back, its variable, what has come so far, all else. -/
import Derived.Test.YtpanhkhiomgclaaBaL
set_option linter.unusedVariables false
namespace Go.Proofs.Ytpanhkhiomgclaa.Ba
open Go.RowKit

theorem BkAt.own_ptr {w : World} {p M G : Nat} {L : List Int} (h : BkAt w (.pointer (some ⟨p, 0, none⟩)) M G L) : BkOwn w (.pointer (some ⟨p, 0, none⟩)) p := ⟨p, rfl, Or.inl rfl⟩
abbrev ptrV (p : Nat) : Value := .pointer (some ⟨p, 0, none⟩)
/-- What the loop may turn: its box and the row in it, the back's blocks. -/
def MineQ (p B : Nat) (W : World) (k : Nat) : Prop := MineA B W k ∨ BkOwn W (ptrV p) k
theorem mineQ_ok {p B S : Nat} (hB : B < S) (hp : p < S) : MineOk S (MineQ p B) := by
  intro W W' row hS hg hrow k hk
  rcases hk with hk | hk
  · exact Or.inl (mineA_ok hB W W' row hS hg hrow k hk)
  · exact Or.inr (bk_own (hg.block p (by omega) (fun e => by have := (hrow p e.symm).1; omega)) hk)
/-- What stands since the loop began (world w5): all but the box and the back's blocks. -/
structure StayQ (p B : Nat) (w5 W : World) : Prop where
  os : W.os = w5.os
  tape : W.tape = w5.tape
  output : W.output = w5.output
  size : w5.heap.size ≤ W.heap.size
  block : ∀ k, k < w5.heap.size → k ≠ B → ¬ BkOwn w5 (ptrV p) k → W.heap[k]? = w5.heap[k]?
  own : ∀ k, BkOwn W (ptrV p) k → BkOwn w5 (ptrV p) k ∨ w5.heap.size ≤ k
theorem StayQ.boxed {p B : Nat} {w5 W : World} {k : Nat} {t : TypeId} {v : Value} (h : StayQ p B w5 W) (hx : Boxed w5 k t v) (hk : k ≠ B) (hn : ¬ BkOwn w5 (ptrV p) k) : Boxed W k t v := (h.block k hx.lt hk hn).trans hx
/-- Between two steps of a round. -/
def CoreQ (p B M : Nat) (w5 : World) (l : List Int) (v : Value) (G : Nat) (L : List Int) (W : World) : Prop := Boxed W B 22 v ∧ OwnI W w5.heap.size v l ∧ (∀ r, v.ownBlock = some r → ¬ BkOwn W (ptrV p) r) ∧ BkAt W (ptrV p) M G L ∧ StayQ p B w5 W
/-- From one world of a round to a later one. -/
def StepQ (p B : Nat) (W W' : World) : Prop := KeepsOthers W W' ∧ KpM (MineQ p B) W W'
section
variable {p B M G : Nat} {w5 W : World} {l L : List Int} {v : Value} (hB : B < w5.heap.size) (hBo : ¬ BkOwn w5 (ptrV p) B)
include hB hBo
theorem CoreQ.notB (h : CoreQ p B M w5 l v G L W) : ¬ BkOwn W (ptrV p) B := fun ho => by
  rcases h.2.2.2.2.own B ho with h1 | h1
  · exact hBo h1
  · omega
/-- The back is put to, or popped. -/
theorem CoreQ.turn (h : CoreQ p B M w5 l v G L W) {W' : World} {G' : Nat} {L' : List Int} (ht : TurnB (ptrV p) W W') (h2 : BkAt W' (ptrV p) M G' L') : CoreQ p B M w5 l v G' L' W' ∧ StepQ p B W W' := by
  have hn := h.notB hB hBo
  obtain ⟨hv, hr, hd, hk, hs⟩ := h
  have hv' : Boxed W' B 22 v := (ht.block B hv.lt hn).trans hv
  refine ⟨⟨hv', ownI_keep hr fun r e => ht.block r (ownI_ge hr r e).2.1 (hd r e), fun r e ho => ?_, h2, ?_⟩, ⟨ht.size, fun k ob hob hc => ?_⟩, ht.size, fun k cs t fr hc hm => ht.block k (blk_lt hc) fun ho => hm (Or.inr ho), fun k hkl hm => ?_⟩
  · rcases ht.own r ho with h1 | h1
    · exact hd r e h1
    · have := (ownI_ge hr r e).2.1; omega
  · refine ⟨ht.os.trans hs.os, ht.tape.trans hs.tape, ht.output.trans hs.output, Nat.le_trans hs.size ht.size, fun k hkl hkB hko => ?_, fun k ho => ?_⟩
    · refine (ht.block k (Nat.lt_of_lt_of_le hkl hs.size) fun ho => ?_).trans (hs.block k hkl hkB hko)
      rcases hs.own k ho with h1 | h1
      · exact hko h1
      · omega
    · rcases ht.own k ho with h1 | h1
      · exact hs.own k h1
      · exact Or.inr (Nat.le_trans hs.size h1)
  · refine (ht.block k (blk_lt hob) fun ho => ?_).trans hob
    obtain ⟨cs, t, fr, hcs⟩ := hk.cells k ho
    rw [hcs] at hob
    cases hob
    simp [Obj.isCells] at hc
  · rcases hm with hm | hm
    · obtain ⟨v2, hv2, h3⟩ := hm
      exact Or.inl ⟨v2, (ht.block B hv.lt hn).symm.trans hv2, h3⟩
    · rcases ht.own k hm with h1 | h1
      · exact Or.inr h1
      · omega
/-- What came is put behind what came before. -/
theorem CoreQ.app (h : CoreQ p B M w5 l v G L W) {w1 : World} {v' : Value} {o : Obj} {y : Int} (hr' : OwnI w1 w5.heap.size v' (l ++ [y])) (hg : (W.alloc o).grownBy w1 v.ownBlock) (hat : v'.ownBlock = v.ownBlock ∨ v'.ownBlock = some (W.alloc o).heap.size) :
    Boxed w1 B 22 v ∧ Below B W w1 ∧ CoreQ p B M w5 (l ++ [y]) v' G L (w1.setCell ⟨B, 0, none⟩ v') ∧ StepQ p B W (w1.setCell ⟨B, 0, none⟩ v') := by
  have hn := h.notB hB hBo
  obtain ⟨hv, hr, hd, hk, hs⟩ := h
  obtain ⟨h1, h2, h3, h4, h5, h6, h7⟩ := box_append hv hr hB hs.size hr' hg hat
  have hsA : (W.alloc o).heap.size = W.heap.size + 1 := by simp
  have hsz : W.heap.size ≤ (w1.setCell ⟨B, 0, none⟩ v').heap.size := h4.size
  have hsame : ∀ k, k < W.heap.size → k ≠ B → v.ownBlock ≠ some k → (w1.setCell ⟨B, 0, none⟩ v').heap[k]? = W.heap[k]? := fun k hkl hkB hkv => by
    rw [Below.heap_setCell _ _ _ _ hkB]
    exact (hg.block k (by omega) (fun e => hkv e.symm)).trans (Below.heap_alloc W o k hkl)
  have hkp := hk.keep (fun k ho => hsame k (hk.lt k ho) (fun e => hn (e ▸ ho)) (fun e => hd k e ho)) hsz
  have hb6 := h5
  refine ⟨h1, h6, ⟨h2, h3, fun r e ho => ?_, hkp.1, ?_⟩, h4, hsz, fun k cs t fr hc hm => h7.2.1 k cs t fr hc fun hA => hm (Or.inl hA), fun k hkl hm => ?_⟩
  · have ho' := hkp.2 r ho
    rcases hat with ha | ha
    · exact hd r (ha ▸ e) ho'
    · rw [ha] at e
      have : (W.alloc o).heap.size = r := by simpa using e
      have := hk.lt r ho'
      omega
  · refine ⟨h5.os.trans hs.os, h5.tape.trans hs.tape, h5.output.trans hs.output, Nat.le_trans hs.size hsz, fun k hkl hkB hko => ?_, fun k ho => hs.own k (hkp.2 k ho)⟩
    refine (hsame k (Nat.lt_of_lt_of_le hkl hs.size) hkB fun e => ?_).trans (hs.block k hkl hkB hko)
    have := (ownI_ge hr k e).1
    omega
  · rcases hm with hm | hm
    · exact Or.inl (h7.2.2 k hkl hm)
    · exact Or.inr (hkp.2 k hm)
end
theorem StepQ.refl (p B : Nat) (W : World) : StepQ p B W W := ⟨⟨Nat.le_refl _, fun _ _ h _ => h⟩, Nat.le_refl _, fun _ _ _ _ _ _ => rfl, fun _ _ h => h⟩
theorem StepQ.trans {p B : Nat} {X Y Z : World} (h : StepQ p B X Y) (k : StepQ p B Y Z) : StepQ p B X Z := ⟨⟨Nat.le_trans h.1.size k.1.size, fun i ob ho hc => k.1.same i ob (h.1.same i ob ho hc) hc⟩, h.2.trans k.2⟩
/-- A block that is no cells turns, or new ones come. -/
theorem CoreQ.grown {p B M G : Nat} {w5 W W' : World} {l L : List Int} {v : Value} {row : Option Nat} (h : CoreQ p B M w5 l v G L W) (hp : p < w5.heap.size) (hg : W.grownBy W' row) (hrow : ∀ r, row = some r → w5.heap.size ≤ r ∧ ∃ o : Obj, W.heap[r]? = some o ∧ o.isCells = false) : CoreQ p B M w5 l v G L W' := by
  obtain ⟨hv, hr, hd, hk, hs⟩ := h
  have hcell : ∀ k cs t fr, W.heap[k]? = some (.cells cs t fr) → some k ≠ row := fun k cs t fr hc e => by
    obtain ⟨_, o, ho, hoc⟩ := hrow k e.symm
    rw [hc] at ho
    cases ho
    simp [Obj.isCells] at hoc
  have hkp := hk.keep (fun k ho => by
    obtain ⟨cs, t, fr, hc⟩ := hk.cells k ho
    exact hg.block k (blk_lt hc) (hcell k cs t fr hc)) hg.size
  refine ⟨(hg.block B hv.lt (hcell B _ _ _ hv)).trans hv, ownI_keep hr fun r e => ?_, fun r e ho => hd r e (hkp.2 r ho), hkp.1, hg.os.trans hs.os, hg.tape.trans hs.tape, hg.output.trans hs.output, Nat.le_trans hs.size hg.size, fun k hkl hkB hko => ?_, fun k ho => hs.own k (hkp.2 k ho)⟩
  · obtain ⟨_, hlt, cur, hc⟩ := ownI_ge hr r e
    exact hg.block r hlt (hcell r _ _ _ hc)
  · exact (hg.block k (Nat.lt_of_lt_of_le hkl hs.size) (fun e => by have := (hrow k e.symm).1; omega)).trans (hs.block k hkl hkB hko)
end Go.Proofs.Ytpanhkhiomgclaa.Ba
