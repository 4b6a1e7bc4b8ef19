/- Layer 12: the law's same. -/
import Derived.Test.YtfkiihddcinckaaTbI
set_option linter.unusedVariables false
namespace Go.Proofs.Ytfkiihddcinckaa.Tb
open Go.RowKit

theorem ret_boolS {a b : Bool} (h : a = b) : Ending.returned (.bool a) = .returned (.bool b) := by rw [h]
theorem ext_get {l m : List Nat} (h : l.length = m.length) (hk : ∀ k, k < l.length → l.getD k 0 = m.getD k 0) : l = m := by
  refine List.ext_getElem h fun i h1 h2 => ?_
  have := hk i h1
  rwa [List.getD_eq_getElem?_getD, List.getElem?_eq_getElem h1, List.getD_eq_getElem?_getD, List.getElem?_eq_getElem h2] at this
set_option maxRecDepth 100000 in
set_option maxHeartbeats 2000000 in
theorem same_any (u1 u2 : Value) (l1 l2 : List Nat) (w : World) (h1 : LiesI w u1 l1) (h2 : LiesI w u2 l2) (hl : l1.length ≤ 100000) : Calls Try.prog 19 #[u1, u2] w fun e w' => e = .returned (.bool (decide (l1 = l2))) ∧ Below w.heap.size w w' := by
  obtain ⟨A1, c1, rfl, -, -, r1⟩ := id h1
  obtain ⟨A2, c2, rfl, -, -, r2⟩ := id h2
  obtain ⟨n1, hn1⟩ : ∃ n, n = l1.length := ⟨_, rfl⟩
  obtain ⟨n2, hn2⟩ : ∃ n, n = l2.length := ⟨_, rfl⟩
  rw [← hn1, ← hn2]
  rw [← hn1] at hl
  by_cases hne : n1 = n2
  · have HC1 : Hid (∀ k, k < n1 → ∃ b, A1 = some ⟨b, 0, none⟩ ∧ b < w.heap.size ∧ w.cell? ⟨b, k, none⟩ = some (.int .i64 (l1.getD k 0 : Nat))) := Lib.hid fun k hk => by
      obtain ⟨b, e, hb, hc⟩ := r1 (by omega)
      exact ⟨b, e, hb, hc k (by omega)⟩
    have HC2 : Hid (∀ k, k < n1 → ∃ b, A2 = some ⟨b, 0, none⟩ ∧ b < w.heap.size ∧ w.cell? ⟨b, k, none⟩ = some (.int .i64 (l2.getD k 0 : Nat))) := Lib.hid fun k hk => by
      obtain ⟨b, e, hb, hc⟩ := r2 (by omega)
      exact ⟨b, e, hb, hc k (by omega)⟩
    have HN := Lib.hid (And.intro hn1 (hne.trans hn2))
    subst hne
    have g0 : ((n1 : Int) != (n1 : Int)) = false := by simp
    clear h1 h2 hn1 hn2 r1 r2
    go_enter Try.func19, Try.ntmps19
    go_wp2
    go_loopw [5] (fun i wr => ∃ k : Nat, k ≤ n1 ∧ i = .int .i64 k ∧ Hid (∀ t, t < k → l1.getD t 0 = l2.getD t 0) ∧ Hid (Below w.heap.size w wr)) (fun i _ => n1 - (RowKit.intOf i).toNat)
    case atStart => exact ⟨0, Nat.zero_le _, rfl, Lib.hid fun t ht => absurd ht (by omega), Lib.hid (Below.refl _ _)⟩
    case round =>
      obtain ⟨k, hk, rfl, HE, HB⟩ := hrel
      rename_i wr
      by_cases hlt : k < n1
      · have glt : decide ((k : Int) < (n1 : Int)) = true := by simp; omega
        obtain ⟨b, rfl, hb, p0⟩ := HC1.out k hlt
        obtain ⟨b', rfl, hb', q0⟩ := HC2.out k hlt
        have hd := below_drew HB.out 1
        have p0 := fun (V : World) (hV : Below w.heap.size w V) => (hV.cell hb).trans p0
        have q0 := fun (V : World) (hV : Below w.heap.size w V) => (hV.cell hb').trans q0
        have i1 := idx_int b n1 c1 k hlt
        have i2 := idx_int b' n1 c2 k hlt
        have z1 : IntKind.i64.wrap ((k : Int) + 1) = (k : Int) + 1 := IntWalk.i64_in _ (by omega)
        have HEq : Hid (l1.getD k 0 = l2.getD k 0 ∨ l1.getD k 0 ≠ l2.getD k 0 ∧ l1 ≠ l2) := Lib.hid (by
          by_cases e : l1.getD k 0 = l2.getD k 0
          · exact Or.inl e
          · exact Or.inr ⟨e, fun h => e (by rw [h])⟩)
        have HS : Hid (l1.getD k 0 = l2.getD k 0 → ∀ t, t < k + 1 → l1.getD t 0 = l2.getD t 0) := Lib.hid fun e t ht => by
          by_cases htk : t = k
          · rw [htk]; exact e
          · exact HE.out t (by omega)
        generalize l1.getD k 0 = x at *
        generalize l2.getD k 0 = y at *
        clear hb hb'
        rcases HEq.out with e | ⟨e, h⟩
        · have gx : ((x : Int) != (y : Int)) = false := by simp [e]
          have H1' := Lib.hid (HS.out e)
          clear HE HEq HS e
          go_wp2_with fail
          go_region_held3 (fun V => Below w.heap.size w V) (assumption) (fail)
          go_wp2
          go_roundw
          case rel => exact ⟨k + 1, by omega, by go_num, H1', Lib.hid hd⟩
          case measure => simp [RowKit.intOf] <;> omega
        · have gx : ((x : Int) != (y : Int)) = true := by simp; omega
          have HF : Hid (decide (l1 = l2) = false) := Lib.hid (decide_eq_false h)
          clear HE HEq HS e h
          go_wp2_with fail
          go_region_held3 (fun V => Below w.heap.size w V) (assumption) (fail)
          go_wp2
          go_ret
          exact ⟨ret_boolS HF.out.symm, hd⟩
      · have hkn : k = n1 := by omega
        have HF : Hid (decide (l1 = l2) = true) := Lib.hid (decide_eq_true (ext_get (by rw [← HN.out.1, ← HN.out.2]) fun t ht => HE.out t (by rw [hkn, HN.out.1]; exact ht)))
        subst hkn
        clear HE
        go_wp2
        go_ret
        exact ⟨ret_boolS HF.out.symm, HB.out⟩
  · have HF : decide (l1 = l2) = false := decide_eq_false fun e => hne (by rw [hn1, hn2, e])
    rw [HF]
    have g0 : ((n1 : Int) != (n2 : Int)) = true := by simp; omega
    clear h1 h2 hn1 hn2 r1 r2
    go_enter Try.func19, Try.ntmps19
    go_wp2
    go_ret
    exact ⟨rfl, Below.refl _ _⟩
end Go.Proofs.Ytfkiihddcinckaa.Tb
