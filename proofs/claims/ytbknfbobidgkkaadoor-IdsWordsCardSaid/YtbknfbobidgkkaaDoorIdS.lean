/- Layer 4: the document's number. Written by wip/gen_num.py. -/
import Derived.Test.YtbknfbobidgkkaaDoorIdR
import Derived.Test.YtbknfbobidgkkaaDoorIdN
import Derived.LoopTactic
namespace Go.Proofs.YtbknfbobidgkkaaDoor
open Go.RowKit Ids

/-- What number answers of the bytes from f on. -/
def NumPost (l : List UInt8) (f : Nat) (w : World) (e : Ending) (w' : World) : Prop :=
  w = w' ∧ ((∃ (n k : Nat), numL (l.drop f) = some (n, l.drop k) ∧ f ≤ k ∧ k ≤ l.length ∧ e = .returned (.tuple #[.int .i64 n, .int .i64 k])) ∨ (numL (l.drop f) = none ∧ ∃ x : Int, e = .returned (.tuple #[.int .i64 (-1), .int .i64 x])))

theorem num_none {l : List UInt8} {f : Nat} (h : numGo 0 (l.drop f) = none) : numL (l.drop f) = none := by simp [numL, h]

theorem head_at (l : List UInt8) (f : Nat) : (l.drop f).head? = l[f]? := by simp

theorem num_poor {l : List UInt8} {f k n : Nat} (h : numGo 0 (l.drop f) = some (n, l.drop k)) (hk : k ≤ l.length) (hp : k = f ∨ (f + 1 < k ∧ l[f]? = some 48)) : numL (l.drop f) = none := by
  simp only [numL, h]
  rw [if_pos]
  simp only [poor, Bool.or_eq_true, Bool.and_eq_true, decide_eq_true_eq, beq_iff_eq, List.length_drop, head_at]
  rcases hp with rfl | ⟨h1, h2⟩
  · exact Or.inl rfl
  · exact Or.inr ⟨by omega, h2⟩

theorem num_fine {l : List UInt8} {f k n : Nat} (h : numGo 0 (l.drop f) = some (n, l.drop k)) (hf : f < k) (hk : k ≤ l.length) (hp : f + 1 < k → l[f]? ≠ some 48) : numL (l.drop f) = some (n, l.drop k) := by
  simp only [numL, h]
  rw [if_neg]
  simp only [poor, Bool.or_eq_true, Bool.and_eq_true, decide_eq_true_eq, beq_iff_eq, List.length_drop, head_at]
  rintro (h1 | ⟨h1, h2⟩)
  · omega
  · exact hp (by omega) h2

theorem drop_at (s : ByteArray) (k : Nat) (h : k < s.size) : s.data.toList.drop k = s[k] :: s.data.toList.drop (k + 1) := by
  rw [List.drop_eq_getElem_cons (by simpa using h)]; rfl
theorem at_some (s : ByteArray) (k : Nat) (h : k < s.size) : s.data.toList[k]? = some s[k] := by
  rw [List.getElem?_eq_getElem (by simpa using h)]; rfl

theorem go_digit {n : Nat} {c : UInt8} {r : List UInt8} (h1 : 48 ≤ c.toNat) (h2 : c.toNat ≤ 57) (h3 : ¬ 2147483647 < addD n c) : numGo n (c :: r) = numGo (addD n c) r := by
  simp [numGo, isDig, h1, h2, h3]
theorem go_over {n : Nat} {c : UInt8} {r : List UInt8} (h1 : 48 ≤ c.toNat) (h2 : c.toNat ≤ 57) (h3 : 2147483647 < addD n c) : numGo n (c :: r) = none := by
  simp [numGo, isDig, h1, h2, h3]
theorem go_else {n : Nat} {c : UInt8} {r : List UInt8} (h : ¬ (48 ≤ c.toNat ∧ c.toNat ≤ 57)) : numGo n (c :: r) = some (n, c :: r) := by
  have : isDig c = false := by simp only [isDig, Bool.and_eq_false_iff, decide_eq_false_iff_not]; omega
  simp [numGo, this]

set_option maxRecDepth 100000 in
set_option maxHeartbeats 4000000 in
theorem number_any (s : ByteArray) (f : Nat) (w : World) (hs : s.size ≤ 100000) (hf : f ≤ s.size) :
    Calls Tryd.prog 25 #[.string s, .int .i64 f] w (NumPost s.data.toList f w) := by
  have HS := Lib.hid (show s.data.toList.length = s.size by simp)
  go_enter Tryd.func25, Tryd.ntmps25
  go_wp2
  go_loop [1, 7] (fun i n => ∃ k m : Nat, f ≤ k ∧ k ≤ s.size ∧ m ≤ 2147483647 ∧ i = .int .i64 k ∧ n = .int .i64 m ∧ numGo 0 (s.data.toList.drop f) = numGo m (s.data.toList.drop k)) (fun i _ => s.size - (intOf i).toNat)
  case atStart => exact ⟨f, 0, Nat.le_refl _, hf, by omega, rfl, rfl, rfl⟩
  case round =>
    obtain ⟨k, m, hfk, hks, hm, rfl, rfl, hgo⟩ := hrel
    have HG := Lib.hid hgo
    clear hgo
    by_cases hlt : k < s.size
    · have HD := Lib.hid (drop_at s k hlt)
      have hcb : s[k].toNat < 256 := s[k].toNat_lt
      by_cases h1 : 48 ≤ s[k].toNat
      · by_cases h2 : s[k].toNat ≤ 57
        · have d1 : (48 : Int) ≤ (s[k].toNat : Int) := by omega
          have d2 : (s[k].toNat : Int) ≤ 57 := by omega
          have hx : ∃ x : Nat, x = 10 * m + (s[k].toNat - 48) := ⟨_, rfl⟩
          obtain ⟨x, hx⟩ := hx
          have hxe : 10 * (m : Int) + (s[k].toNat : Int) - 48 = (x : Int) := by omega
          have HX := Lib.hid (hx.trans (addD_eq m s[k]).symm)
          have HXE := Lib.hid hxe
          by_cases h3 : 2147483647 < x
          · have HN : Hid (numL (s.data.toList.drop f) = none) := Lib.hid (num_none (by rw [HG.out, HD.out]; exact go_over h1 h2 (by rw [← HX.out]; exact h3)))
            have h3' : 2147483647 < 10 * (m : Int) + (s[k].toNat : Int) - 48 := by omega
            clear hx hxe h3
            go_wp2
            go_ret2
            exact ⟨rfl, Or.inr ⟨HN.out, _, rfl⟩⟩
          · have HN : Hid (numGo 0 (s.data.toList.drop f) = numGo x (s.data.toList.drop (k + 1))) := Lib.hid (by rw [HG.out, HD.out, go_digit h1 h2 (by rw [← HX.out]; exact h3), HX.out])
            have h3' : decide (2147483647 < 10 * (m : Int) + (s[k].toNat : Int) - 48) = false := by simp; omega
            clear hx hxe
            go_wp2
            go_round
            case rel => exact ⟨k + 1, x, by omega, by omega, by omega, by go_num, by rw [HXE.out], HN.out⟩
            case measure => simp [intOf]; omega
        · have d1 : (48 : Int) ≤ (s[k].toNat : Int) := by omega
          have d2 : decide ((s[k].toNat : Int) ≤ 57) = false := by simp; omega
          have HE : Hid (numGo 0 (s.data.toList.drop f) = some (m, s.data.toList.drop k)) := Lib.hid (by rw [HG.out, HD.out]; exact go_else (by omega))
          clear h1 h2
          by_cases e1 : k = f
          · have e2 : ((k : Int) == (f : Int)) = true := by simp; omega
            have HN : Hid (numL (s.data.toList.drop f) = none) := Lib.hid (num_poor HE.out (by rw [HS.out]; omega) (Or.inl e1))
            clear e1
            go_wp2
            go_ret2
            exact ⟨rfl, Or.inr ⟨HN.out, _, rfl⟩⟩
          · have e2 : ((k : Int) == (f : Int)) = false := by simp; omega
            by_cases e3 : f + 1 < k
            · have hfs : f < s.size := by omega
              have e4 : decide ((f : Int) + 1 < (k : Int)) = true := by simp; omega
              by_cases e5 : s[f] = 48
              · have HN : Hid (numL (s.data.toList.drop f) = none) := Lib.hid (num_poor HE.out (by rw [HS.out]; omega) (Or.inr ⟨e3, by rw [at_some s f hfs, e5]⟩))
                have e6 : ((s[f].toNat : Int) == 48) = true := by rw [e5]; rfl
                clear e1 e3 e5
                go_wp2
                go_ret2
                exact ⟨rfl, Or.inr ⟨HN.out, _, rfl⟩⟩
              · have HN : Hid (numL (s.data.toList.drop f) = some (m, s.data.toList.drop k)) := Lib.hid (num_fine HE.out (by omega) (by rw [HS.out]; omega) (fun _ => by rw [at_some s f hfs]; simpa using e5))
                have e6 : ((s[f].toNat : Int) == 48) = false := by
                  have : s[f].toNat ≠ 48 := fun h => e5 (UInt8.toNat_inj.1 (by simpa using h))
                  simp; omega
                have HK := Lib.hid (show f ≤ k ∧ k ≤ s.data.toList.length by rw [HS.out]; omega)
                clear e1 e3 e5
                go_wp2
                go_ret2
                exact ⟨rfl, Or.inl ⟨m, k, HN.out, HK.out.1, HK.out.2, rfl⟩⟩
            · have e4 : decide ((f : Int) + 1 < (k : Int)) = false := by simp; omega
              have HN : Hid (numL (s.data.toList.drop f) = some (m, s.data.toList.drop k)) := Lib.hid (num_fine HE.out (by omega) (by rw [HS.out]; omega) (fun h => absurd h e3))
              have HK := Lib.hid (show f ≤ k ∧ k ≤ s.data.toList.length by rw [HS.out]; omega)
              clear e1 e3
              go_wp2
              go_ret2
              exact ⟨rfl, Or.inl ⟨m, k, HN.out, HK.out.1, HK.out.2, rfl⟩⟩
      · have d1 : decide ((48 : Int) ≤ (s[k].toNat : Int)) = false := by simp; omega
        have HE : Hid (numGo 0 (s.data.toList.drop f) = some (m, s.data.toList.drop k)) := Lib.hid (by rw [HG.out, HD.out]; exact go_else (by omega))
        clear h1
        by_cases e1 : k = f
        · have e2 : ((k : Int) == (f : Int)) = true := by simp; omega
          have HN : Hid (numL (s.data.toList.drop f) = none) := Lib.hid (num_poor HE.out (by rw [HS.out]; omega) (Or.inl e1))
          clear e1
          go_wp2
          go_ret2
          exact ⟨rfl, Or.inr ⟨HN.out, _, rfl⟩⟩
        · have e2 : ((k : Int) == (f : Int)) = false := by simp; omega
          by_cases e3 : f + 1 < k
          · have hfs : f < s.size := by omega
            have e4 : decide ((f : Int) + 1 < (k : Int)) = true := by simp; omega
            by_cases e5 : s[f] = 48
            · have HN : Hid (numL (s.data.toList.drop f) = none) := Lib.hid (num_poor HE.out (by rw [HS.out]; omega) (Or.inr ⟨e3, by rw [at_some s f hfs, e5]⟩))
              have e6 : ((s[f].toNat : Int) == 48) = true := by rw [e5]; rfl
              clear e1 e3 e5
              go_wp2
              go_ret2
              exact ⟨rfl, Or.inr ⟨HN.out, _, rfl⟩⟩
            · have HN : Hid (numL (s.data.toList.drop f) = some (m, s.data.toList.drop k)) := Lib.hid (num_fine HE.out (by omega) (by rw [HS.out]; omega) (fun _ => by rw [at_some s f hfs]; simpa using e5))
              have e6 : ((s[f].toNat : Int) == 48) = false := by
                have : s[f].toNat ≠ 48 := fun h => e5 (UInt8.toNat_inj.1 (by simpa using h))
                simp; omega
              have HK := Lib.hid (show f ≤ k ∧ k ≤ s.data.toList.length by rw [HS.out]; omega)
              clear e1 e3 e5
              go_wp2
              go_ret2
              exact ⟨rfl, Or.inl ⟨m, k, HN.out, HK.out.1, HK.out.2, rfl⟩⟩
          · have e4 : decide ((f : Int) + 1 < (k : Int)) = false := by simp; omega
            have HN : Hid (numL (s.data.toList.drop f) = some (m, s.data.toList.drop k)) := Lib.hid (num_fine HE.out (by omega) (by rw [HS.out]; omega) (fun h => absurd h e3))
            have HK := Lib.hid (show f ≤ k ∧ k ≤ s.data.toList.length by rw [HS.out]; omega)
            clear e1 e3
            go_wp2
            go_ret2
            exact ⟨rfl, Or.inl ⟨m, k, HN.out, HK.out.1, HK.out.2, rfl⟩⟩
    · have HE : Hid (numGo 0 (s.data.toList.drop f) = some (m, s.data.toList.drop k)) := Lib.hid (by
        rw [HG.out, List.drop_eq_nil_of_le (by rw [HS.out]; omega)]; rfl)
      by_cases e1 : k = f
      · have e2 : ((k : Int) == (f : Int)) = true := by simp; omega
        have HN : Hid (numL (s.data.toList.drop f) = none) := Lib.hid (num_poor HE.out (by rw [HS.out]; omega) (Or.inl e1))
        clear e1
        go_wp2
        go_ret2
        exact ⟨rfl, Or.inr ⟨HN.out, _, rfl⟩⟩
      · have e2 : ((k : Int) == (f : Int)) = false := by simp; omega
        by_cases e3 : f + 1 < k
        · have hfs : f < s.size := by omega
          have e4 : decide ((f : Int) + 1 < (k : Int)) = true := by simp; omega
          by_cases e5 : s[f] = 48
          · have HN : Hid (numL (s.data.toList.drop f) = none) := Lib.hid (num_poor HE.out (by rw [HS.out]; omega) (Or.inr ⟨e3, by rw [at_some s f hfs, e5]⟩))
            have e6 : ((s[f].toNat : Int) == 48) = true := by rw [e5]; rfl
            clear e1 e3 e5
            go_wp2
            go_ret2
            exact ⟨rfl, Or.inr ⟨HN.out, _, rfl⟩⟩
          · have HN : Hid (numL (s.data.toList.drop f) = some (m, s.data.toList.drop k)) := Lib.hid (num_fine HE.out (by omega) (by rw [HS.out]; omega) (fun _ => by rw [at_some s f hfs]; simpa using e5))
            have e6 : ((s[f].toNat : Int) == 48) = false := by
              have : s[f].toNat ≠ 48 := fun h => e5 (UInt8.toNat_inj.1 (by simpa using h))
              simp; omega
            have HK := Lib.hid (show f ≤ k ∧ k ≤ s.data.toList.length by rw [HS.out]; omega)
            clear e1 e3 e5
            go_wp2
            go_ret2
            exact ⟨rfl, Or.inl ⟨m, k, HN.out, HK.out.1, HK.out.2, rfl⟩⟩
        · have e4 : decide ((f : Int) + 1 < (k : Int)) = false := by simp; omega
          have HN : Hid (numL (s.data.toList.drop f) = some (m, s.data.toList.drop k)) := Lib.hid (num_fine HE.out (by omega) (by rw [HS.out]; omega) (fun h => absurd h e3))
          have HK := Lib.hid (show f ≤ k ∧ k ≤ s.data.toList.length by rw [HS.out]; omega)
          clear e1 e3
          go_wp2
          go_ret2
          exact ⟨rfl, Or.inl ⟨m, k, HN.out, HK.out.1, HK.out.2, rfl⟩⟩

end Go.Proofs.YtbknfbobidgkkaaDoor
