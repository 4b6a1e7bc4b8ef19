/- Layer 10: lists of parameters in memory; what the document's small functions tell. -/
import Derived.Test.YtjmojhohecbipaaDoorProg
import Derived.Test.YtjmojhohecbipaaDoorAtM
import Derived.WalkKit
import Derived.Below
import Derived.LoopTactic
import Derived.IntWalk
import Derived.Deep.Heap
import Derived.BigQuiet
import Derived.Deep.QuietTactic
import Derived.Deep.RegionHeld3
set_option linter.unusedVariables false
namespace Go.Proofs.YtjmojhohecbipaaDoor.A10
open Go.RowKit Sgr

def coA (c : Co) : Value := .agg #[.int .u8 c.kind, .int .u32 c.n]
def atA (a : At) : Value := .agg #[.int .u16 a.fl, .int .u8 a.fg.kind, .int .u32 a.fg.n, .int .u8 a.bg.kind, .int .u32 a.bg.n]

/-- A parameter in memory. -/
def RowL (w : World) (A : Option Addr) (p : List Int) : Prop := ∀ c, c < p.length → ∃ a, A = some a ∧ w.cell? (a.add c) = some (.int .i64 (partV p c)) ∧ -9223372036854775808 ≤ partV p c ∧ partV p c ≤ 9223372036854775807
/-- A list of parameters in memory. -/
def TabL (w : World) (A : Option Addr) (l : List (List Int)) : Prop := ∀ r, r < l.length → ∃ a A' C, A = some a ∧ w.cell? (a.add r) = some (.slice A' (l.getD r []).length C) ∧ ((l.getD r []).length ≤ C ∧ C ≤ 9223372036854775807) ∧ RowL w A' (l.getD r [])
theorem cell_lt {w : World} {p : Addr} {v : Value} (h : w.cell? p = some v) : p.block < w.heap.size := World.block_lt_of_cell? w p h
theorem addL_block (a : Addr) (n : Nat) : (a.add n).block = a.block := by unfold Addr.add; split <;> rfl
theorem RowL.below {w w' : World} {A : Option Addr} {p : List Int} (h : RowL w A p) (hb : Below w.heap.size w w') : RowL w' A p := fun c hc => by
  obtain ⟨a, e, h1, h2⟩ := h c hc
  exact ⟨a, e, (hb.cell (cell_lt h1)).trans h1, h2⟩
theorem TabL.below {w w' : World} {A : Option Addr} {l : List (List Int)} (h : TabL w A l) (hb : Below w.heap.size w w') : TabL w' A l := fun r hr => by
  obtain ⟨a, A', C, e, h1, h2, h3⟩ := h r hr
  exact ⟨a, A', C, e, (hb.cell (cell_lt h1)).trans h1, h2, h3.below hb⟩

theorem part_any (p : List Int) (A : Option Addr) (n c : Nat) (i : Nat) (w : World) (hR : RowL w A p) (hn : n = p.length) (hl : n ≤ 9223372036854775807) (hi : i ≤ 100) :
    Calls Tryd.prog 23 #[.slice A n c, .int .i64 i] w fun e w' => e = .returned (.int .i64 (partV p i)) ∧ w = w' := by
  by_cases h : i < n
  · obtain ⟨a, rfl, h1, _⟩ := hR i (by omega)
    obtain ⟨x, hx⟩ : ∃ x, x = partV p i := ⟨_, rfl⟩
    rw [← hx] at h1 ⊢
    clear hx hR hn
    go_enter Tryd.func23, Tryd.ntmps23
    go_wp2
    go_ret
    exact ⟨rfl, rfl⟩
  · have e : partV p i = 0 := by unfold partV; rw [List.getD_eq_getElem?_getD, List.getElem?_eq_none (by omega)]; rfl
    rw [e]
    clear hR hn e
    go_enter Tryd.func23, Tryd.ntmps23
    go_wp2
    go_ret
    exact ⟨rfl, rfl⟩

theorem fits_any (n : Int) (w : World) : Calls Tryd.prog 35 #[.int .i64 n] w fun e w' => e = .returned (.bool (fitsB n)) ∧ w = w' := by
  have e : ∀ b, fitsB n = b → Calls Tryd.prog 35 #[.int .i64 n] w fun e w' => e = .returned (.bool b) ∧ w = w' := by
    intro b hb
    by_cases h : 0 ≤ n
    · have d : decide (n ≤ 255) = b := by rw [← hb]; simp [fitsB, h]
      have g : decide (0 ≤ n) = true := by simpa using h
      clear hb
      subst d
      go_enter Tryd.func35, Tryd.ntmps35
      go_wp2
      go_ret
      exact ⟨rfl, rfl⟩
    · have g : decide (0 ≤ n) = false := by simpa using h
      have hb' : b = false := by rw [← hb]; simp [fitsB, h]
      subst hb'
      clear hb
      go_enter Tryd.func35, Tryd.ntmps35
      go_wp2
      go_ret
      exact ⟨rfl, rfl⟩
  exact e _ rfl

theorem color_any (c : Co) (hc : CoOk c) (w : World) : Calls Tryd.prog 27 #[coA c] w fun e w' => e = .returned (.bool (colB c)) ∧ Below w.heap.size w w' := by
  obtain ⟨k, n⟩ := c
  have hk := hc.1
  have hn := hc.2
  dsimp only at hk hn
  clear hc
  have hB := Lib.hid (Below.refl w.heap.size w)
  unfold coA
  dsimp only
  by_cases h0 : k = 0
  · subst h0
    have e : colB ⟨0, n⟩ = ((n : Int) == 0) := by simp [colB]; by_cases h : n = 0 <;> simp [h]
    rw [e]
    go_enter Tryd.func27, Tryd.ntmps27
    go_wp2
    go_ret
    exact ⟨rfl, hB.out.alloc (Nat.le_refl _) _⟩
  by_cases h1 : k = 1
  · subst h1
    have e : colB ⟨1, n⟩ = decide ((n : Int) ≤ 255) := by simp [colB]; omega
    rw [e]
    go_enter Tryd.func27, Tryd.ntmps27
    go_wp2
    go_ret
    exact ⟨rfl, hB.out.alloc (Nat.le_refl _) _⟩
  by_cases h2 : k = 2
  · subst h2
    have e : colB ⟨2, n⟩ = decide ((n : Int) ≤ 16777215) := by simp [colB]; omega
    rw [e]
    go_enter Tryd.func27, Tryd.ntmps27
    go_wp2
    go_ret
    exact ⟨rfl, hB.out.alloc (Nat.le_refl _) _⟩
  · have e : colB ⟨k, n⟩ = false := by simp [colB, h0, h1, h2]
    have d0 : ((k : Int) == 0) = false := by simp; omega
    have d1 : ((k : Int) == 1) = false := by simp; omega
    have d2 : ((k : Int) == 2) = false := by simp; omega
    rw [e]
    clear h0 h1 h2
    go_enter Tryd.func27, Tryd.ntmps27
    go_wp2
    go_ret
    exact ⟨rfl, hB.out.alloc (Nat.le_refl _) _⟩
end Go.Proofs.YtjmojhohecbipaaDoor.A10
