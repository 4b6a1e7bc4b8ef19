/- Layer 6: the document's Next (written by gen_ste.py). -/
import Derived.Test.YthflnllmenapkaaStD
import Derived.IntWalk
namespace Go.Proofs.Ythflnllmenapkaa
open Go.RowKit Sta

theorem flat5 : ∀ (l : List (Int × Int × Int × Int × Int)) (i : Nat) (h : i < l.length), (l.flatMap rowC)[i * 5]? = some (.int .i64 l[i].1) ∧ (l.flatMap rowC)[i * 5 + 1]? = some (.int .i64 l[i].2.1) ∧ (l.flatMap rowC)[i * 5 + 2]? = some (.int .i64 l[i].2.2.1) ∧
    (l.flatMap rowC)[i * 5 + 3]? = some (.int .i64 l[i].2.2.2.1) ∧ (l.flatMap rowC)[i * 5 + 4]? = some (.int .i64 l[i].2.2.2.2)
  | [], i, h => absurd h (by simp)
  | x :: l, 0, _ => ⟨rfl, rfl, rfl, rfl, rfl⟩
  | x :: l, i + 1, h => by
    have ih := flat5 l i (by simpa using h)
    have e : ∀ j, (List.flatMap rowC (x :: l))[(i + 1) * 5 + j]? = (l.flatMap rowC)[i * 5 + j]? := fun j => by
      rw [List.flatMap_cons, show (i + 1) * 5 + j = (rowC x).length + (i * 5 + j) by simp [rowC]; omega, List.getElem?_append_right (by omega)]
      congr 1
      omega
    refine ⟨(e 0).trans ih.1, (e 1).trans ih.2.1, (e 2).trans ih.2.2.1, (e 3).trans ih.2.2.2.1, (e 4).trans ih.2.2.2.2⟩

theorem row_cells {w : World} {g : Nat} (h : w.heap[g]? = some (.cells rowsC 35 (0, 0))) (k : Nat) (hk : k < tab.length) :
    w.cell? ⟨g, k * 5, none⟩ = some (.int .i64 tab[k].1) ∧ w.cell? ⟨g, k * 5 + 1, none⟩ = some (.int .i64 tab[k].2.1) ∧ w.cell? ⟨g, k * 5 + 2, none⟩ = some (.int .i64 tab[k].2.2.1) ∧
    w.cell? ⟨g, k * 5 + 3, none⟩ = some (.int .i64 tab[k].2.2.2.1) ∧ w.cell? ⟨g, k * 5 + 4, none⟩ = some (.int .i64 tab[k].2.2.2.2) := by
  obtain ⟨h0, h1, h2, h3, h4⟩ := flat5 tab k hk
  have e : ∀ j, rowsC[j]? = (tab.flatMap rowC)[j]? := fun j => by unfold rowsC; exact List.getElem?_toArray
  refine ⟨?_, ?_, ?_, ?_, ?_⟩
  · simp [World.cell?, h, e, h0]
  · simp [World.cell?, h, e, h1]
  · simp [World.cell?, h, e, h2]
  · simp [World.cell?, h, e, h3]
  · simp [World.cell?, h, e, h4]

theorem find_drop (z c : Int) (k : Nat) (hk : k < tab.length) : findV z c (tab.drop k) = if fitsR z c tab[k] then (tab[k].2.2.2.1, tab[k].2.2.2.2) else findV z c (tab.drop (k + 1)) := by
  rw [List.drop_eq_getElem_cons hk]
  rfl

attribute [local irreducible] tab rowsC

theorem refNext_few (s c : Int) (c0 : 0 ≤ c) (c255 : c < 256) (h : c = 24 ∨ c = 26 ∨ c = 27) (w : World) : Calls Try.prog 13 #[.int .i64 s, .int .u8 c] w fun r w' => r = .returned (.tuple #[.int .i64 (refV s c).1, .int .i64 (refV s c).2]) ∧ Below w.heap.size w w' := by
  obtain rfl | rfl | rfl := h
  all_goals
    go_enter Try.func13, Try.ntmps13
    go_wp2
    go_ret2
    exact ⟨rfl, Below.refl _ _⟩

set_option maxRecDepth 100000 in
set_option maxHeartbeats 3200000 in
theorem refNext_in (s c : Int) (c0 : 0 ≤ c) (c255 : c < 256) (h24 : ¬ c = 24) (h26 : ¬ c = 26) (h27 : ¬ c = 27) (s0 : 0 ≤ s) (s13 : s ≤ 13) (w : World) : Calls Try.prog 13 #[.int .i64 s, .int .u8 c] w fun r w' => r = .returned (.tuple #[.int .i64 (refV s c).1, .int .i64 (refV s c).2]) ∧ Below w.heap.size w w' := by
  have d24 : (c == 24) = false := by simpa using h24
  have d26 : (c == 26) = false := by simpa using h26
  have d27 : (c == 27) = false := by simpa using h27
  have HR : Hid (refV s c = findV s c tab) := Lib.hid (by unfold refV; rw [if_neg h24, if_neg h26, if_neg h27, show clampV s = s by unfold clampV; rw [if_neg (by omega), if_neg (by omega)]])
  clear h24 h26 h27
  have q0 : decide (s < 0) = false := by simp; omega
  have q1 : decide (13 < s) = false := by simp; omega
  clear s0 s13
  go_enter Try.func13, Try.ntmps13
  go_wp2_with fail
  refine (rows_any _).mono ?_
  rintro e w1 ⟨rfl, hg, hb⟩
  have HB := Lib.hid hb
  have HG := Lib.hid hg
  obtain ⟨g, hgw⟩ : ∃ g, g = w.heap.size := ⟨_, rfl⟩
  have HGW := Lib.hid hgw
  rw [← hgw] at HG ⊢
  clear hb hg hgw
  go_wp2
  go_loopw [7] (fun i wr => ∃ k n : Nat, k ≤ 96 ∧ i = .int .i64 k ∧ wr = w1.drewN n ∧ Hid (findV s c (tab.drop k) = findV s c tab)) (fun i _ => 96 - (RowKit.intOf i).toNat)
  case atStart => exact ⟨0, 0, by omega, rfl, rfl, Lib.hid rfl⟩
  case round =>
    obtain ⟨k, n, hk, rfl, rfl, HF⟩ := hrel
    by_cases hlt : k < 96
    · have hkt : k < tab.length := by rw [tab_len]; exact hlt
      have cs := fun j : Nat => row_cells (w := w1.drewN j) HG.out k hkt
      have HD := Lib.hid (find_drop s c k hkt)
      generalize tab[k] = x at cs HD
      obtain ⟨x1, x2, x3, x4, x5⟩ := x
      have c1 : ∀ j : Nat, (w1.drewN j).cell? ⟨g, k * 5, none⟩ = some (.int .i64 x1) := fun j => (cs j).1
      have c2 : ∀ j : Nat, (w1.drewN j).cell? ⟨g, k * 5 + 1, none⟩ = some (.int .i64 x2) := fun j => (cs j).2.1
      have c3 : ∀ j : Nat, (w1.drewN j).cell? ⟨g, k * 5 + 2, none⟩ = some (.int .i64 x3) := fun j => (cs j).2.2.1
      have c4 : ∀ j : Nat, (w1.drewN j).cell? ⟨g, k * 5 + 3, none⟩ = some (.int .i64 x4) := fun j => (cs j).2.2.2.1
      have c5 : ∀ j : Nat, (w1.drewN j).cell? ⟨g, k * 5 + 4, none⟩ = some (.int .i64 x5) := fun j => (cs j).2.2.2.2
      clear cs hkt
      cases k1 : (x1 == s)
      · have E : Hid (findV s c (tab.drop (k + 1)) = findV s c tab) := Lib.hid (by rw [← HF.out, HD.out]; simp [fitsR, k1])
        go_wp2
        go_roundw
        case rel => exact ⟨k + 1, _, by omega, by go_num, rfl, E⟩
        case measure => simp [RowKit.intOf]; omega
      · cases k2 : decide (x2 ≤ c)
        · have E : Hid (findV s c (tab.drop (k + 1)) = findV s c tab) := Lib.hid (by rw [← HF.out, HD.out]; simp [fitsR, k1, k2])
          go_wp2
          go_roundw
          case rel => exact ⟨k + 1, _, by omega, by go_num, rfl, E⟩
          case measure => simp [RowKit.intOf]; omega
        · cases k3 : decide (c ≤ x3)
          · have E : Hid (findV s c (tab.drop (k + 1)) = findV s c tab) := Lib.hid (by rw [← HF.out, HD.out]; simp [fitsR, k1, k2, k3])
            go_wp2
            go_roundw
            case rel => exact ⟨k + 1, _, by omega, by go_num, rfl, E⟩
            case measure => simp [RowKit.intOf]; omega
          · have E : Hid (refV s c = (x4, x5)) := Lib.hid (by rw [HR.out, ← HF.out, HD.out]; simp [fitsR, k1, k2, k3])
            have HB2 : Hid (∀ j, Below w.heap.size w (w1.drewN j)) := Lib.hid (below_drew HB.out)
            go_wp2
            go_quiet (fail)
            go_wp2
            go_ret2
            exact ⟨ret_pair E.out, below_drew (HB2.out n) _⟩
    · have hkn : k = 96 := by omega
      have E : Hid (refV s c = (0, 0)) := Lib.hid (by rw [HR.out, ← HF.out, hkn, List.drop_eq_nil_of_le (by rw [tab_len]; omega)]; rfl)
      have HB2 : Hid (Below w.heap.size w (w1.drewN n)) := Lib.hid (below_drew HB.out n)
      clear HF
      subst hkn
      go_wp2
      go_ret2
      exact ⟨ret_pair E.out, HB2.out⟩

set_option maxRecDepth 100000 in
set_option maxHeartbeats 3200000 in
theorem refNext_low (s c : Int) (c0 : 0 ≤ c) (c255 : c < 256) (h24 : ¬ c = 24) (h26 : ¬ c = 26) (h27 : ¬ c = 27) (h : s < 0) (w : World) : Calls Try.prog 13 #[.int .i64 s, .int .u8 c] w fun r w' => r = .returned (.tuple #[.int .i64 (refV s c).1, .int .i64 (refV s c).2]) ∧ Below w.heap.size w w' := by
  have d24 : (c == 24) = false := by simpa using h24
  have d26 : (c == 26) = false := by simpa using h26
  have d27 : (c == 27) = false := by simpa using h27
  have HR : Hid (refV s c = findV 0 c tab) := Lib.hid (by unfold refV; rw [if_neg h24, if_neg h26, if_neg h27, show clampV s = 0 by unfold clampV; rw [if_pos h]])
  clear h24 h26 h27
  have q0 : decide (s < 0) = true := by simpa using h
  clear h
  go_enter Try.func13, Try.ntmps13
  go_wp2_with fail
  refine (rows_any _).mono ?_
  rintro e w1 ⟨rfl, hg, hb⟩
  have HB := Lib.hid hb
  have HG := Lib.hid hg
  obtain ⟨g, hgw⟩ : ∃ g, g = w.heap.size := ⟨_, rfl⟩
  have HGW := Lib.hid hgw
  rw [← hgw] at HG ⊢
  clear hb hg hgw
  go_wp2
  go_loopw [7] (fun i wr => ∃ k n : Nat, k ≤ 96 ∧ i = .int .i64 k ∧ wr = w1.drewN n ∧ Hid (findV 0 c (tab.drop k) = findV 0 c tab)) (fun i _ => 96 - (RowKit.intOf i).toNat)
  case atStart => exact ⟨0, 0, by omega, rfl, rfl, Lib.hid rfl⟩
  case round =>
    obtain ⟨k, n, hk, rfl, rfl, HF⟩ := hrel
    by_cases hlt : k < 96
    · have hkt : k < tab.length := by rw [tab_len]; exact hlt
      have cs := fun j : Nat => row_cells (w := w1.drewN j) HG.out k hkt
      have HD := Lib.hid (find_drop 0 c k hkt)
      generalize tab[k] = x at cs HD
      obtain ⟨x1, x2, x3, x4, x5⟩ := x
      have c1 : ∀ j : Nat, (w1.drewN j).cell? ⟨g, k * 5, none⟩ = some (.int .i64 x1) := fun j => (cs j).1
      have c2 : ∀ j : Nat, (w1.drewN j).cell? ⟨g, k * 5 + 1, none⟩ = some (.int .i64 x2) := fun j => (cs j).2.1
      have c3 : ∀ j : Nat, (w1.drewN j).cell? ⟨g, k * 5 + 2, none⟩ = some (.int .i64 x3) := fun j => (cs j).2.2.1
      have c4 : ∀ j : Nat, (w1.drewN j).cell? ⟨g, k * 5 + 3, none⟩ = some (.int .i64 x4) := fun j => (cs j).2.2.2.1
      have c5 : ∀ j : Nat, (w1.drewN j).cell? ⟨g, k * 5 + 4, none⟩ = some (.int .i64 x5) := fun j => (cs j).2.2.2.2
      clear cs hkt
      cases k1 : (x1 == 0)
      · have E : Hid (findV 0 c (tab.drop (k + 1)) = findV 0 c tab) := Lib.hid (by rw [← HF.out, HD.out]; simp [fitsR, k1])
        go_wp2
        go_roundw
        case rel => exact ⟨k + 1, _, by omega, by go_num, rfl, E⟩
        case measure => simp [RowKit.intOf]; omega
      · cases k2 : decide (x2 ≤ c)
        · have E : Hid (findV 0 c (tab.drop (k + 1)) = findV 0 c tab) := Lib.hid (by rw [← HF.out, HD.out]; simp [fitsR, k1, k2])
          go_wp2
          go_roundw
          case rel => exact ⟨k + 1, _, by omega, by go_num, rfl, E⟩
          case measure => simp [RowKit.intOf]; omega
        · cases k3 : decide (c ≤ x3)
          · have E : Hid (findV 0 c (tab.drop (k + 1)) = findV 0 c tab) := Lib.hid (by rw [← HF.out, HD.out]; simp [fitsR, k1, k2, k3])
            go_wp2
            go_roundw
            case rel => exact ⟨k + 1, _, by omega, by go_num, rfl, E⟩
            case measure => simp [RowKit.intOf]; omega
          · have E : Hid (refV s c = (x4, x5)) := Lib.hid (by rw [HR.out, ← HF.out, HD.out]; simp [fitsR, k1, k2, k3])
            have HB2 : Hid (∀ j, Below w.heap.size w (w1.drewN j)) := Lib.hid (below_drew HB.out)
            go_wp2
            go_quiet (fail)
            go_wp2
            go_ret2
            exact ⟨ret_pair E.out, below_drew (HB2.out n) _⟩
    · have hkn : k = 96 := by omega
      have E : Hid (refV s c = (0, 0)) := Lib.hid (by rw [HR.out, ← HF.out, hkn, List.drop_eq_nil_of_le (by rw [tab_len]; omega)]; rfl)
      have HB2 : Hid (Below w.heap.size w (w1.drewN n)) := Lib.hid (below_drew HB.out n)
      clear HF
      subst hkn
      go_wp2
      go_ret2
      exact ⟨ret_pair E.out, HB2.out⟩

set_option maxRecDepth 100000 in
set_option maxHeartbeats 3200000 in
theorem refNext_high (s c : Int) (c0 : 0 ≤ c) (c255 : c < 256) (h24 : ¬ c = 24) (h26 : ¬ c = 26) (h27 : ¬ c = 27) (h : 13 < s) (w : World) : Calls Try.prog 13 #[.int .i64 s, .int .u8 c] w fun r w' => r = .returned (.tuple #[.int .i64 (refV s c).1, .int .i64 (refV s c).2]) ∧ Below w.heap.size w w' := by
  have d24 : (c == 24) = false := by simpa using h24
  have d26 : (c == 26) = false := by simpa using h26
  have d27 : (c == 27) = false := by simpa using h27
  have HR : Hid (refV s c = findV 0 c tab) := Lib.hid (by unfold refV; rw [if_neg h24, if_neg h26, if_neg h27, show clampV s = 0 by unfold clampV; rw [if_neg (by omega), if_pos h]])
  clear h24 h26 h27
  have q0 : decide (s < 0) = false := by simp; omega
  have q1 : decide (13 < s) = true := by simpa using h
  clear h
  go_enter Try.func13, Try.ntmps13
  go_wp2_with fail
  refine (rows_any _).mono ?_
  rintro e w1 ⟨rfl, hg, hb⟩
  have HB := Lib.hid hb
  have HG := Lib.hid hg
  obtain ⟨g, hgw⟩ : ∃ g, g = w.heap.size := ⟨_, rfl⟩
  have HGW := Lib.hid hgw
  rw [← hgw] at HG ⊢
  clear hb hg hgw
  go_wp2
  go_loopw [7] (fun i wr => ∃ k n : Nat, k ≤ 96 ∧ i = .int .i64 k ∧ wr = w1.drewN n ∧ Hid (findV 0 c (tab.drop k) = findV 0 c tab)) (fun i _ => 96 - (RowKit.intOf i).toNat)
  case atStart => exact ⟨0, 0, by omega, rfl, rfl, Lib.hid rfl⟩
  case round =>
    obtain ⟨k, n, hk, rfl, rfl, HF⟩ := hrel
    by_cases hlt : k < 96
    · have hkt : k < tab.length := by rw [tab_len]; exact hlt
      have cs := fun j : Nat => row_cells (w := w1.drewN j) HG.out k hkt
      have HD := Lib.hid (find_drop 0 c k hkt)
      generalize tab[k] = x at cs HD
      obtain ⟨x1, x2, x3, x4, x5⟩ := x
      have c1 : ∀ j : Nat, (w1.drewN j).cell? ⟨g, k * 5, none⟩ = some (.int .i64 x1) := fun j => (cs j).1
      have c2 : ∀ j : Nat, (w1.drewN j).cell? ⟨g, k * 5 + 1, none⟩ = some (.int .i64 x2) := fun j => (cs j).2.1
      have c3 : ∀ j : Nat, (w1.drewN j).cell? ⟨g, k * 5 + 2, none⟩ = some (.int .i64 x3) := fun j => (cs j).2.2.1
      have c4 : ∀ j : Nat, (w1.drewN j).cell? ⟨g, k * 5 + 3, none⟩ = some (.int .i64 x4) := fun j => (cs j).2.2.2.1
      have c5 : ∀ j : Nat, (w1.drewN j).cell? ⟨g, k * 5 + 4, none⟩ = some (.int .i64 x5) := fun j => (cs j).2.2.2.2
      clear cs hkt
      cases k1 : (x1 == 0)
      · have E : Hid (findV 0 c (tab.drop (k + 1)) = findV 0 c tab) := Lib.hid (by rw [← HF.out, HD.out]; simp [fitsR, k1])
        go_wp2
        go_roundw
        case rel => exact ⟨k + 1, _, by omega, by go_num, rfl, E⟩
        case measure => simp [RowKit.intOf]; omega
      · cases k2 : decide (x2 ≤ c)
        · have E : Hid (findV 0 c (tab.drop (k + 1)) = findV 0 c tab) := Lib.hid (by rw [← HF.out, HD.out]; simp [fitsR, k1, k2])
          go_wp2
          go_roundw
          case rel => exact ⟨k + 1, _, by omega, by go_num, rfl, E⟩
          case measure => simp [RowKit.intOf]; omega
        · cases k3 : decide (c ≤ x3)
          · have E : Hid (findV 0 c (tab.drop (k + 1)) = findV 0 c tab) := Lib.hid (by rw [← HF.out, HD.out]; simp [fitsR, k1, k2, k3])
            go_wp2
            go_roundw
            case rel => exact ⟨k + 1, _, by omega, by go_num, rfl, E⟩
            case measure => simp [RowKit.intOf]; omega
          · have E : Hid (refV s c = (x4, x5)) := Lib.hid (by rw [HR.out, ← HF.out, HD.out]; simp [fitsR, k1, k2, k3])
            have HB2 : Hid (∀ j, Below w.heap.size w (w1.drewN j)) := Lib.hid (below_drew HB.out)
            go_wp2
            go_quiet (fail)
            go_wp2
            go_ret2
            exact ⟨ret_pair E.out, below_drew (HB2.out n) _⟩
    · have hkn : k = 96 := by omega
      have E : Hid (refV s c = (0, 0)) := Lib.hid (by rw [HR.out, ← HF.out, hkn, List.drop_eq_nil_of_le (by rw [tab_len]; omega)]; rfl)
      have HB2 : Hid (Below w.heap.size w (w1.drewN n)) := Lib.hid (below_drew HB.out n)
      clear HF
      subst hkn
      go_wp2
      go_ret2
      exact ⟨ret_pair E.out, HB2.out⟩

theorem refNext_any (s c : Int) (c0 : 0 ≤ c) (c255 : c < 256) (w : World) : Calls Try.prog 13 #[.int .i64 s, .int .u8 c] w fun r w' => r = .returned (.tuple #[.int .i64 (refV s c).1, .int .i64 (refV s c).2]) ∧ Below w.heap.size w w' := by
  by_cases h24 : c = 24
  · exact refNext_few s c c0 c255 (Or.inl h24) w
  by_cases h26 : c = 26
  · exact refNext_few s c c0 c255 (Or.inr (Or.inl h26)) w
  by_cases h27 : c = 27
  · exact refNext_few s c c0 c255 (Or.inr (Or.inr h27)) w
  by_cases h : s < 0
  · exact refNext_low s c c0 c255 h24 h26 h27 h w
  by_cases h13 : 13 < s
  · exact refNext_high s c c0 c255 h24 h26 h27 h13 w
  exact refNext_in s c c0 c255 h24 h26 h27 (by omega) (by omega) w

end Go.Proofs.Ythflnllmenapkaa
