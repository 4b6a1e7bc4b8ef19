/- Layer 10: the program's rightColor and Right. -/
import Derived.Test.YtkenaccnmmmooaaDoorAtAX
set_option linter.unusedVariables false
namespace Go.Proofs.YtkenaccnmmmooaaDoor.A10
open Go.RowKit Sgr

theorem pcolor_any (c : Co) (hc : CoOk c) (w : World) : Calls Tryd.prog 11 #[coA c] w fun e w' => e = .returned (.bool (colB c)) ∧ Below w.heap.size w w' := by
  obtain ⟨k, n⟩ := c
  have hk := hc.1
  have hn := hc.2
  dsimp only at hk hn
  clear hc
  have hB := Lib.hid (Below.refl w.heap.size w)
  unfold coA
  dsimp only
  by_cases h0 : k = 0
  · subst h0
    have e : colB ⟨0, n⟩ = ((n : Int) == 0) := by simp [colB]; by_cases h : n = 0 <;> simp [h]
    rw [e]
    go_enter Tryd.func11, Tryd.ntmps11
    go_wp2
    go_ret
    exact ⟨rfl, hB.out.alloc (Nat.le_refl _) _⟩
  by_cases h1 : k = 1
  · subst h1
    have e : colB ⟨1, n⟩ = decide ((n : Int) ≤ 255) := by simp [colB]; omega
    rw [e]
    go_enter Tryd.func11, Tryd.ntmps11
    go_wp2
    go_ret
    exact ⟨rfl, hB.out.alloc (Nat.le_refl _) _⟩
  by_cases h2 : k = 2
  · subst h2
    have e : colB ⟨2, n⟩ = decide ((n : Int) ≤ 16777215) := by simp [colB]; omega
    rw [e]
    go_enter Tryd.func11, Tryd.ntmps11
    go_wp2
    go_ret
    exact ⟨rfl, hB.out.alloc (Nat.le_refl _) _⟩
  · have e : colB ⟨k, n⟩ = false := by simp [colB, h0, h1, h2]
    have d0 : ((k : Int) == 0) = false := by simp; omega
    have d1 : ((k : Int) == 1) = false := by simp; omega
    have d2 : ((k : Int) == 2) = false := by simp; omega
    rw [e]
    clear h0 h1 h2
    go_enter Tryd.func11, Tryd.ntmps11
    go_wp2
    go_ret
    exact ⟨rfl, hB.out.alloc (Nat.le_refl _) _⟩

theorem pright_any (a : At) (ha : AtOk a) (w : World) : Calls Tryd.prog 6 #[atA a] w fun e w' => e = .returned (.bool (rightB a)) ∧ Below w.heap.size w w' := by
  obtain ⟨f, c, d⟩ := a
  have hf := ha.1
  dsimp only at hf
  have C1 : Hid (∀ W, Calls Tryd.prog 11 #[.agg #[.int .u8 c.kind, .int .u32 c.n]] W fun e w' => e = .returned (.bool (colB c)) ∧ Below W.heap.size W w') := Lib.hid fun W => pcolor_any c ha.2.1 W
  have C2 : Hid (∀ W, Calls Tryd.prog 11 #[.agg #[.int .u8 d.kind, .int .u32 d.n]] W fun e w' => e = .returned (.bool (colB d)) ∧ Below W.heap.size W w') := Lib.hid fun W => pcolor_any d ha.2.2 W
  have e : rightB ⟨f, c, d⟩ = (decide ((f : Int) ≤ 255) && colB c && colB d) := by
    unfold rightB
    congr 2
    simp; omega
  rw [e]
  clear e ha
  obtain ⟨W, hW⟩ : ∃ W, W = w.alloc (.cells #[.int .u16 (f : Int), .int .u8 (c.kind : Int), .int .u32 (c.n : Int), .int .u8 (d.kind : Int), .int .u32 (d.n : Int)] 27) := ⟨_, rfl⟩
  have hB : Below w.heap.size w W := by rw [hW]; exact (Below.refl _ _).alloc (Nat.le_refl _) _
  have hsz : w.heap.size < W.heap.size := by rw [hW]; simp
  have cc : ∀ i v, (#[Value.int .u16 (f : Int), .int .u8 (c.kind : Int), .int .u32 (c.n : Int), .int .u8 (d.kind : Int), .int .u32 (d.n : Int)] : Array Value)[i]? = some v → ∀ V, Below W.heap.size W V → V.cell? ⟨w.heap.size, i, none⟩ = some v := fun i v hi V hV => (hV.cell (p := ⟨w.heap.size, i, none⟩) hsz).trans (by rw [hW]; exact box_cell _ _ _ _ _ hi)
  have HC := Lib.hid cc
  have HB := Lib.hid hB
  have HW := Lib.hid hW
  unfold atA
  dsimp only
  clear cc hB hW hsz
  by_cases h : f ≤ 255
  · have g : decide ((f : Int) ≤ 255) = true := by simp; omega
    rw [g]
    obtain ⟨x, hx⟩ : ∃ x, x = colB c := ⟨_, rfl⟩
    obtain ⟨y, hy⟩ : ∃ y, y = colB d := ⟨_, rfl⟩
    rw [← hx] at C1 ⊢
    rw [← hy] at C2 ⊢
    clear hx hy
    cases x
    all_goals
      go_enter Tryd.func6, Tryd.ntmps6
      go_wp2_with fail
      refine (C1.out _).mono ?_
      rintro e w1 ⟨rfl, b1⟩
      rw [← HW.out] at b1
      have q3 := HC.out 3 _ rfl w1 b1
      have q4 := HC.out 4 _ rfl w1 b1
      have B1 := Lib.hid b1
      clear b1 C1
    · go_wp2
      go_ret
      exact ⟨rfl, HB.out.trans (B1.out.mono HB.out.size)⟩
    · go_wp2_with fail
      refine (C2.out _).mono ?_
      rintro e w2 ⟨rfl, b2⟩
      have B2 := Lib.hid (HB.out.trans ((B1.out.trans (b2.mono B1.out.size)).mono HB.out.size))
      clear b2 C2
      cases y
      all_goals
        go_wp2
        go_ret
        exact ⟨rfl, B2.out⟩
  · have g : decide ((f : Int) ≤ 255) = false := by simp; omega
    rw [g]
    clear C1 C2
    go_enter Tryd.func6, Tryd.ntmps6
    go_wp2
    go_ret
    refine ⟨rfl, ?_⟩
    rw [← HW.out]
    exact HB.out

end Go.Proofs.YtkenaccnmmmooaaDoor.A10
