/- Layer 11: the document's room, Same, Whole. -/
import Derived.Test.YtifolcfnknlmdaaRwD
set_option linter.unusedVariables false
namespace Go.Proofs.Ytifolcfnknlmdaa.Rw
open Go.RowKit

theorem ret_bool {a b : Bool} (h : a = b) : Ending.returned (.bool a) = .returned (.bool b) := by rw [h]
theorem neq_cell (x y : Ce) (w : World) : (binOp .neq 38 (ceV x) (ceV y)).run Try.prog w = .ok (.bool (decide (x ≠ y))) w := by
  obtain ⟨r, v, f, a, b, c, d⟩ := x
  obtain ⟨r', v', f', a', b', c', d'⟩ := y
  go_simp
  by_cases h1 : r = r'
  · by_cases h2 : v = v'
    · by_cases h3 : f = f'
      · by_cases h4 : a = a'
        · by_cases h5 : b = b'
          · by_cases h6 : c = c'
            · by_cases h7 : d = d'
              · simp [h1, h2, h3, h4, h5, h6, h7]
              · have g : ¬ (d : Int) = d' := by omega
                simp [h1, h2, h3, h4, h5, h6, h7, g]
            · have g : ¬ (c : Int) = c' := by omega
              simp [h1, h2, h3, h4, h5, h6, g]
          · have g : ¬ (b : Int) = b' := by omega
            simp [h1, h2, h3, h4, h5, g]
        · have g : ¬ (a : Int) = a' := by omega
          simp [h1, h2, h3, h4, g]
      · have g : ¬ (f : Int) = f' := by omega
        simp [h1, h2, h3, g]
    · have g : ¬ (v : Int) = v' := by omega
      simp [h1, h2, g]
  · simp [h1]

set_option maxRecDepth 100000 in
set_option maxHeartbeats 2000000 in
theorem same_any (l1 l2 : List Ce) (A1 A2 : Option Addr) (n1 n2 c1 c2 : Nat) (w : World) (h1 : Lies w (.slice A1 n1 c1) l1) (h2 : Lies w (.slice A2 n2 c2) l2) (hl : n1 ≤ 100000) :
    Calls Try.prog 19 #[.slice A1 n1 c1, .slice A2 n2 c2] w fun e w' => e = .returned (.bool (decide (l1 = l2))) ∧ Below w.heap.size w w' := by
  obtain ⟨hn1, -, -, R1⟩ := h1.row
  obtain ⟨hn2, -, -, R2⟩ := h2.row
  by_cases hne : n1 = n2
  · subst hne
    have HN := Lib.hid (And.intro hn1 hn2)
    have H1 := Lib.hid R1
    have H2 := Lib.hid R2
    have g0 : ((n1 : Int) != (n1 : Int)) = false := by simp
    clear h1 h2 hn1 hn2 R1 R2
    go_enter Try.func19, Try.ntmps19
    go_wp2
    go_loopw [5] (fun i wr => ∃ k : Nat, k ≤ n1 ∧ i = .int .i64 k ∧ Hid (∀ t, t < k → cellV l1 t = cellV l2 t) ∧ Hid (Below w.heap.size w wr)) (fun i _ => n1 - (RowKit.intOf i).toNat)
    case atStart => exact ⟨0, Nat.zero_le _, rfl, Lib.hid fun t ht => absurd ht (by omega), Lib.hid (Below.refl _ _)⟩
    case round =>
      obtain ⟨k, hk, rfl, HE, HB⟩ := hrel
      rename_i wr
      by_cases hlt : k < n1
      · have glt : decide ((k : Int) < (n1 : Int)) = true := by simp; omega
        obtain ⟨b, o, rfl, hb, p0, p1, p2, p3, p4, p5, p6⟩ := H1.out.at_ (k := k) (by rw [← HN.out.1]; exact hlt)
        obtain ⟨b', o', rfl, hb', q0, q1, q2, q3, q4, q5, q6⟩ := H2.out.at_ (k := k) (by rw [← HN.out.2]; exact hlt)
        have hd := below_drew HB.out 1
        have p0 := fun (V : World) (hV : Below w.heap.size w V) => (hV.cell hb).trans p0
        have p1 := fun (V : World) (hV : Below w.heap.size w V) => (hV.cell hb).trans p1
        have p2 := fun (V : World) (hV : Below w.heap.size w V) => (hV.cell hb).trans p2
        have p3 := fun (V : World) (hV : Below w.heap.size w V) => (hV.cell hb).trans p3
        have p4 := fun (V : World) (hV : Below w.heap.size w V) => (hV.cell hb).trans p4
        have p5 := fun (V : World) (hV : Below w.heap.size w V) => (hV.cell hb).trans p5
        have p6 := fun (V : World) (hV : Below w.heap.size w V) => (hV.cell hb).trans p6
        have q0 := fun (V : World) (hV : Below w.heap.size w V) => (hV.cell hb').trans q0
        have q1 := fun (V : World) (hV : Below w.heap.size w V) => (hV.cell hb').trans q1
        have q2 := fun (V : World) (hV : Below w.heap.size w V) => (hV.cell hb').trans q2
        have q3 := fun (V : World) (hV : Below w.heap.size w V) => (hV.cell hb').trans q3
        have q4 := fun (V : World) (hV : Below w.heap.size w V) => (hV.cell hb').trans q4
        have q5 := fun (V : World) (hV : Below w.heap.size w V) => (hV.cell hb').trans q5
        have q6 := fun (V : World) (hV : Below w.heap.size w V) => (hV.cell hb').trans q6
        have i1 := idx_cell b o n1 c1 k hlt
        have i2 := idx_cell b' o' n1 c2 k hlt
        have NE := neq_cell (cellV l1 k) (cellV l2 k)
        have HEq : Hid (cellV l1 k = cellV l2 k ∨ cellV l1 k ≠ cellV l2 k ∧ l1 ≠ l2) := Lib.hid (by
          by_cases e : cellV l1 k = cellV l2 k
          · exact Or.inl e
          · exact Or.inr ⟨e, fun h => e (by rw [h])⟩)
        have HS : Hid (cellV l1 k = cellV l2 k → ∀ t, t < k + 1 → cellV l1 t = cellV l2 t) := Lib.hid fun e t ht => by
          by_cases htk : t = k
          · rw [htk]; exact e
          · exact HE.out t (by omega)
        generalize cellV l1 k = x at *
        generalize cellV l2 k = y at *
        clear hb hb'
        rcases HEq.out with e | ⟨e, h⟩
        · have NE2 : ∀ V, (binOp .neq 38 (ceV x) (ceV y)).run Try.prog V = .ok (.bool false) V := fun V => by
            have := NE V
            rwa [show decide (x ≠ y) = false by simp [e]] at this
          have H1' := Lib.hid (HS.out e)
          clear HE HEq HS e NE
          go_wp2_with fail
          go_region_held3 (fun V => Below w.heap.size w V) (assumption) (fail)
          go_wp2
          go_roundw
          case rel => exact ⟨k + 1, by omega, by go_num, H1', Lib.hid hd⟩
          case measure => simp [RowKit.intOf]; omega
        · have NE2 : ∀ V, (binOp .neq 38 (ceV x) (ceV y)).run Try.prog V = .ok (.bool true) V := fun V => by
            have := NE V
            rwa [show decide (x ≠ y) = true by simp [e]] at this
          have HF : Hid (decide (l1 = l2) = false) := Lib.hid (decide_eq_false h)
          clear HE HEq HS e h NE
          go_wp2_with fail
          go_region_held3 (fun V => Below w.heap.size w V) (assumption) (fail)
          go_wp2
          go_ret
          exact ⟨ret_bool HF.out.symm, hd⟩
      · have hkn : k = n1 := by omega
        have HF : Hid (decide (l1 = l2) = true) := Lib.hid (decide_eq_true (ext_cell (by rw [← HN.out.1, ← HN.out.2]) fun t ht => HE.out t (by rw [hkn, HN.out.1]; exact ht)))
        subst hkn
        clear HE
        go_wp2
        go_ret
        exact ⟨ret_bool HF.out.symm, HB.out⟩
  · have HF : decide (l1 = l2) = false := decide_eq_false fun e => hne (by rw [hn1, hn2, e])
    rw [HF]
    have g0 : ((n1 : Int) != (n2 : Int)) = true := by simp; omega
    clear h1 h2 hn1 hn2 R1 R2
    go_enter Try.func19, Try.ntmps19
    go_wp2
    go_ret
    exact ⟨rfl, Below.refl _ _⟩
end Go.Proofs.Ytifolcfnknlmdaa.Rw
