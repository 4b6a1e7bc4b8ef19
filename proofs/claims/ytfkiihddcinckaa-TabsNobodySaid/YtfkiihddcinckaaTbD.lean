/- Layer 12: the document's stops: Is, Next, Prev. -/
import Derived.Test.YtfkiihddcinckaaTbI
set_option linter.unusedVariables false
namespace Go.Proofs.Ytfkiihddcinckaa.Tb
open Go.RowKit

abbrev refO (W : Nat) (v : Value) : Obj := .cells #[.int .i64 (W : Int), v] 28 (0, 0)
abbrev refV (W : Nat) (v : Value) : Value := .agg #[.int .i64 (W : Int), v]
theorem box_ref (w : World) (W : Nat) (v : Value) : ∃ W0, W0 = w.alloc (refO W v) ∧ Below w.heap.size w W0 ∧ w.heap.size + 1 = W0.heap.size ∧ W0.cell? ⟨w.heap.size, 0, none⟩ = some (.int .i64 (W : Int)) ∧ W0.cell? ⟨w.heap.size, 1, none⟩ = some v ∧ W0.heap[w.heap.size]? = some (refO W v) := by
  have h := heap_new w (refO W v)
  exact ⟨_, rfl, (Below.refl _ _).alloc (Nat.le_refl _) _, by simp, cell_of h 0, cell_of h 1, h⟩
def isL (l : List Nat) (x : Int) : Bool := l.any fun k => decide ((k : Int) = x)
theorem is_drop {l : List Nat} {k : Nat} (h : k < l.length) (x : Int) : isL (l.drop k) x = (decide (((l.getD k 0 : Nat) : Int) = x) || isL (l.drop (k + 1)) x) := by
  rw [List.drop_eq_getElem_cons h, List.getD_eq_getElem?_getD, List.getElem?_eq_getElem h]
  rfl
theorem ret_bool {a b : Bool} (h : a = b) : Ending.returned (.bool a) = .returned (.bool b) := by rw [h]

set_option maxRecDepth 100000 in
set_option maxHeartbeats 1000000 in
theorem ris_any (W : Nat) (v : Value) (l : List Nat) (x : Int) (w : World) (h : LiesI w v l) (hl : l.length ≤ 100000) : Calls Try.prog 39 #[refV W v, .int .i64 x] w fun e w' => e = .returned (.bool (isL l x)) ∧ Below w.heap.size w w' := by
  obtain ⟨A, c, rfl, -, -, hcell⟩ := id h
  obtain ⟨W0, hW, hB, hs, c0, c1, -⟩ := box_ref w W (.slice A l.length c)
  obtain ⟨n, hn⟩ : ∃ n, n = l.length := ⟨_, rfl⟩
  rw [← hn] at c1 hl hW ⊢
  have HN := Lib.hid hn
  have HB := Lib.hid hB
  have HC : Hid (∀ k, k < n → ∃ b, A = some ⟨b, 0, none⟩ ∧ W0.cell? ⟨b, k, none⟩ = some (.int .i64 (l.getD k 0 : Nat))) := Lib.hid fun k hk => by
    obtain ⟨b, e, hb, hc⟩ := hcell (by omega)
    exact ⟨b, e, (hB.cell hb).trans (hc k (by omega))⟩
  obtain ⟨R, hR⟩ : ∃ R, R = isL l x := ⟨_, rfl⟩
  rw [← hR]
  have HR := Lib.hid hR
  have HW := Lib.hid hW
  obtain ⟨p, hp⟩ : ∃ p, p = w.heap.size := ⟨_, rfl⟩
  rw [← hp] at c0 c1
  have HP := Lib.hid hp
  clear h hn hB hcell hR hs hW hp
  go_enter Try.func39, Try.ntmps39
  go_upto_region 1 with fail
  change Code.wp _ _ _ _ (w.alloc (refO W (.slice A n c)))
  rw [← HW.out, ← HP.out]
  clear HW
  go_wp2
  go_loopw [5] (fun i wr => ∃ k : Nat, k ≤ n ∧ i = .int .i64 k ∧ Hid (R = isL (l.drop k) x) ∧ W0 = wr) (fun i _ => n - (RowKit.intOf i).toNat)
  case atStart => exact ⟨0, Nat.zero_le _, rfl, HR, rfl⟩
  case round =>
    obtain ⟨k, hk, rfl, HE, rfl⟩ := hrel
    by_cases hlt : k < n
    · have glt : decide ((k : Int) < (n : Int)) = true := by simp; omega
      obtain ⟨b, rfl, hc⟩ := HC.out k hlt
      have i1 := idx_int b n c k hlt
      have HD := Lib.hid (is_drop (l := l) (k := k) (by rw [← HN.out]; exact hlt) x)
      generalize l.getD k 0 = y at *
      by_cases hy : (y : Int) = x
      · have g1 : ((y : Int) == x) = true := by simpa using hy
        have HF : Hid (true = R) := Lib.hid (by rw [HE.out, HD.out, decide_eq_true hy]; rfl)
        clear hy HD HE
        go_wp2
        go_ret
        exact ⟨ret_bool HF.out, HB.out⟩
      · have g1 : ((y : Int) == x) = false := by simpa using hy
        have HF : Hid (R = isL (l.drop (k + 1)) x) := Lib.hid (by rw [HE.out, HD.out, decide_eq_false hy]; rfl)
        have z1 : IntKind.i64.wrap ((k : Int) + 1) = (k : Int) + 1 := IntWalk.i64_in _ (by omega)
        clear hy HD HE
        go_wp2
        go_roundw
        case rel => exact ⟨k + 1, by omega, by go_num, HF, by first | rfl | trivial⟩
        case measure => simp [RowKit.intOf]; omega
    · have hkn : k = n := by omega
      have glt : decide ((k : Int) < (n : Int)) = false := by simp; omega
      have HF : Hid (false = R) := Lib.hid (by rw [HE.out, List.drop_eq_nil_of_le (by rw [hkn, HN.out]; exact Nat.le_refl _)]; rfl)
      clear HE
      go_wp2
      go_ret
      exact ⟨ret_bool HF.out, HB.out⟩

/-! ### Next, Prev -/
theorem nth_yes {p : Nat → Bool} {y : Nat} {l : List Nat} (h : p y = true) (m d : Nat) : ((y :: l).filter p).getD m d = if m = 0 then y else (l.filter p).getD (m - 1) d := by
  rw [List.filter_cons_of_pos h]
  cases m with
  | zero => rfl
  | succ m => simp
theorem nth_no {p : Nat → Bool} {y : Nat} {l : List Nat} (h : p y = false) (m d : Nat) : ((y :: l).filter p).getD m d = (l.filter p).getD m d := by
  rw [List.filter_cons_of_neg (by simp [h])]
theorem drop_get {l : List Nat} {k : Nat} (h : k < l.length) : l.drop k = l.getD k 0 :: l.drop (k + 1) := by
  rw [List.drop_eq_getElem_cons h, List.getD_eq_getElem?_getD, List.getElem?_eq_getElem h]; rfl
theorem back_get {l : List Nat} {k : Nat} (h : k < l.length) : (l.take (k + 1)).reverse = l.getD k 0 :: (l.take k).reverse := by
  rw [List.take_add_one, List.getElem?_eq_getElem h, List.getD_eq_getElem?_getD, List.getElem?_eq_getElem h]
  simp
theorem nth_int (n : Int) : ∃ m : Nat, nthV n = m ∧ ((1 ≤ n ∧ n = (m : Int) + 1) ∨ (n < 1 ∧ m = 0)) := by
  refine ⟨nthV n, rfl, ?_⟩
  unfold nthV
  omega
def nextL (l : List Nat) (W : Nat) (x n : Int) : Nat := (l.filter fun k : Nat => decide (x < (k : Int))).getD (nthV n) (W - 1)
def prevL (l : List Nat) (x n : Int) : Nat := (l.reverse.filter fun k : Nat => decide ((k : Int) < x)).getD (nthV n) 0

set_option maxRecDepth 100000 in
set_option maxHeartbeats 2000000 in
theorem rnext_any (W : Nat) (v : Value) (l : List Nat) (x n : Int) (w : World) (h : LiesI w v l) (hl : l.length ≤ 100000) (hW : 1 ≤ W ∧ W ≤ 100000) (hnn : IntIn n) : Calls Try.prog 22 #[refV W v, .int .i64 x, .int .i64 n] w fun e w' => e = .returned (.int .i64 (nextL l W x n : Nat)) ∧ Below w.heap.size w w' := by
  obtain ⟨A, c, rfl, -, -, hcell⟩ := id h
  obtain ⟨W0, hW0, hB, hs, c0, c1, -⟩ := box_ref w W (.slice A l.length c)
  obtain ⟨N, hn⟩ : ∃ N, N = l.length := ⟨_, rfl⟩
  rw [← hn] at c1 hl hW0 ⊢
  have HN := Lib.hid hn
  have HB := Lib.hid hB
  have HC : Hid (∀ k, k < N → ∃ b, A = some ⟨b, 0, none⟩ ∧ W0.cell? ⟨b, k, none⟩ = some (.int .i64 (l.getD k 0 : Nat))) := Lib.hid fun k hk => by
    obtain ⟨b, e, hb, hc⟩ := hcell (by omega)
    exact ⟨b, e, (hB.cell hb).trans (hc k (by omega))⟩
  obtain ⟨m0, hm0, hm⟩ := nth_int n
  obtain ⟨R, hR⟩ : ∃ R, R = nextL l W x n := ⟨_, rfl⟩
  rw [← hR]
  unfold nextL at hR
  rw [hm0] at hR
  have HR := Lib.hid hR
  have HW := Lib.hid hW0
  obtain ⟨p, hp⟩ : ∃ p, p = w.heap.size := ⟨_, rfl⟩
  rw [← hp] at c0 c1
  have HP := Lib.hid hp
  have HWb := Lib.hid hW
  have z0 : IntKind.i64.wrap ((W : Int) - 1) = ((W - 1 : Nat) : Int) := by rw [IntWalk.i64_in _ (by omega)]; omega
  have key : decide (n < 1) = true ∧ m0 = 0 ∨ decide (n < 1) = false ∧ n = (m0 : Int) + 1 := by
    rcases hm with ⟨h1, h2⟩ | ⟨h1, h2⟩
    · exact Or.inr ⟨by simp; omega, h2⟩
    · exact Or.inl ⟨by simpa using h1, h2⟩
  have HMb : Hid ((m0 : Int) + 1 ≤ 9223372036854775807) := Lib.hid (by unfold IntIn at hnn; omega)
  clear h hn hB hcell hR hs hW0 hp hm0 hm hW hnn
  rcases key with ⟨gn, hm⟩ | ⟨gn, hm⟩
  case' inr => subst hm
  all_goals
    go_enter Try.func22, Try.ntmps22
    go_upto_region 1 with fail
    change Code.wp _ _ _ _ (w.alloc (refO W (.slice A N c)))
    rw [← HW.out, ← HP.out]
    clear HW
    go_wp2
    go_loopw [7, 2] (fun i y wr => ∃ (k m : Nat) (M : Int), k ≤ N ∧ i = .int .i64 k ∧ y = .int .i64 M ∧ Hid (M = (m : Int) + 1 ∧ (m : Int) + 1 ≤ 9223372036854775807) ∧ Hid (R = ((l.drop k).filter fun k : Nat => decide (x < (k : Int))).getD m (W - 1)) ∧ W0 = wr) (fun i _ _ => N - (RowKit.intOf i).toNat)
    case atStart =>
      first
      | exact ⟨0, 0, 1, Nat.zero_le _, rfl, rfl, Lib.hid (by decide), Lib.hid (by rw [HR.out, hm, List.drop_zero]), rfl⟩
      | exact ⟨0, m0, _, Nat.zero_le _, rfl, rfl, Lib.hid ⟨rfl, HMb.out⟩, Lib.hid (by rw [HR.out, List.drop_zero]), rfl⟩
    case round =>
      obtain ⟨k, m, M, hk, rfl, rfl, HM, HE, rfl⟩ := hrel
      by_cases hlt : k < N
      · have glt : decide ((k : Int) < (N : Int)) = true := by simp; omega
        obtain ⟨b, rfl, hc⟩ := HC.out k hlt
        have i1 := idx_int b N c k hlt
        have HD := Lib.hid (drop_get (l := l) (k := k) (by rw [← HN.out]; exact hlt))
        have z1 : IntKind.i64.wrap ((k : Int) + 1) = (k : Int) + 1 := IntWalk.i64_in _ (by omega)
        generalize l.getD k 0 = y at *
        by_cases hy : x < (y : Int)
        · have g1 : decide ((y : Int) > x) = true := by simpa using hy
          obtain ⟨M1, hM1⟩ : ∃ M1, M1 = M - 1 := ⟨_, rfl⟩
          have z2 : IntKind.i64.wrap (M - 1) = M1 := by rw [IntWalk.i64_in _ (by have := HM.out; omega)]; exact hM1.symm
          have HM1 : Hid (M1 = (m : Int)) := Lib.hid (by have := HM.out; omega)
          clear hM1
          have HF : Hid (R = if m = 0 then y else ((l.drop (k + 1)).filter fun k : Nat => decide (x < (k : Int))).getD (m - 1) (W - 1)) := Lib.hid (by rw [HE.out, HD.out, nth_yes (by simpa using hy)])
          clear hy HD HE
          by_cases hm0 : m = 0
          · have g2 : (M1 == 0) = true := by simp [HM1.out, hm0]
            have HF2 : Hid (R = y) := Lib.hid (by rw [HF.out, if_pos hm0])
            clear hm0
            clear HF
            go_wp2
            go_ret
            exact ⟨by rw [HF2.out]; rfl, HB.out⟩
          · have g2 : (M1 == 0) = false := by have := HM1.out; simp; omega
            obtain ⟨m1, hm1⟩ : ∃ m1, m = m1 + 1 := ⟨m - 1, by omega⟩
            have HF2 : Hid (R = ((l.drop (k + 1)).filter fun k : Nat => decide (x < (k : Int))).getD m1 (W - 1)) := Lib.hid (by rw [HF.out, if_neg (by omega), hm1]; rfl)
            have HM2 : Hid (M1 = (m1 : Int) + 1 ∧ (m1 : Int) + 1 ≤ 9223372036854775807) := Lib.hid (by have := HM.out; have := HM1.out; omega)
            clear HF hm0 hm1
            go_wp2
            go_roundw
            case rel => exact ⟨k + 1, m1, M1, by omega, by go_num, rfl, HM2, HF2, by first | rfl | trivial⟩
            case measure => simp [RowKit.intOf]; omega
        · have g1 : decide ((y : Int) > x) = false := by simpa using hy
          have HF : Hid (R = ((l.drop (k + 1)).filter fun k : Nat => decide (x < (k : Int))).getD m (W - 1)) := Lib.hid (by rw [HE.out, HD.out, nth_no (by simpa using hy)])
          clear hy HD HE
          go_wp2
          go_roundw
          case rel => exact ⟨k + 1, m, M, by omega, by go_num, rfl, HM, HF, by first | rfl | trivial⟩
          case measure => simp [RowKit.intOf]; omega
      · have hkn : k = N := by omega
        have glt : decide ((k : Int) < (N : Int)) = false := by simp; omega
        have HF : Hid (R = W - 1) := Lib.hid (by rw [HE.out, List.drop_eq_nil_of_le (by rw [hkn, HN.out]; exact Nat.le_refl _)]; rfl)
        clear HE
        go_wp2
        go_ret
        exact ⟨by rw [HF.out]; first | rfl | simp, HB.out⟩

set_option maxRecDepth 100000 in
set_option maxHeartbeats 2000000 in
theorem rprev_any (W : Nat) (v : Value) (l : List Nat) (x n : Int) (w : World) (h : LiesI w v l) (hl : l.length ≤ 100000) (hnn : IntIn n) : Calls Try.prog 24 #[refV W v, .int .i64 x, .int .i64 n] w fun e w' => e = .returned (.int .i64 (prevL l x n : Nat)) ∧ Below w.heap.size w w' := by
  obtain ⟨A, c, rfl, -, -, hcell⟩ := id h
  obtain ⟨W0, hW0, hB, hs, c0, c1, -⟩ := box_ref w W (.slice A l.length c)
  obtain ⟨N, hn⟩ : ∃ N, N = l.length := ⟨_, rfl⟩
  rw [← hn] at c1 hl hW0 ⊢
  have HN := Lib.hid hn
  have HB := Lib.hid hB
  have HC : Hid (∀ k, k < N → ∃ b, A = some ⟨b, 0, none⟩ ∧ W0.cell? ⟨b, k, none⟩ = some (.int .i64 (l.getD k 0 : Nat))) := Lib.hid fun k hk => by
    obtain ⟨b, e, hb, hc⟩ := hcell (by omega)
    exact ⟨b, e, (hB.cell hb).trans (hc k (by omega))⟩
  obtain ⟨m0, hm0, hm⟩ := nth_int n
  obtain ⟨R, hR⟩ : ∃ R, R = prevL l x n := ⟨_, rfl⟩
  rw [← hR]
  unfold prevL at hR
  rw [hm0] at hR
  have HR := Lib.hid hR
  have HW := Lib.hid hW0
  obtain ⟨p, hp⟩ : ∃ p, p = w.heap.size := ⟨_, rfl⟩
  rw [← hp] at c0 c1
  have HP := Lib.hid hp
  have z0 : IntKind.i64.wrap ((N : Int) - 1) = (N : Int) - 1 := IntWalk.i64_in _ (by omega)
  have key : decide (n < 1) = true ∧ m0 = 0 ∨ decide (n < 1) = false ∧ n = (m0 : Int) + 1 := by
    rcases hm with ⟨h1, h2⟩ | ⟨h1, h2⟩
    · exact Or.inr ⟨by simp; omega, h2⟩
    · exact Or.inl ⟨by simpa using h1, h2⟩
  have HMb : Hid ((m0 : Int) + 1 ≤ 9223372036854775807) := Lib.hid (by unfold IntIn at hnn; omega)
  clear h hn hB hcell hR hs hW0 hp hm0 hm hnn
  rcases key with ⟨gn, hm⟩ | ⟨gn, hm⟩
  case' inr => subst hm
  all_goals
    go_enter Try.func24, Try.ntmps24
    go_upto_region 1 with fail
    change Code.wp _ _ _ _ (w.alloc (refO W (.slice A N c)))
    rw [← HW.out, ← HP.out]
    clear HW
    go_wp2
    go_loopw [7, 2] (fun i y wr => ∃ (k m : Nat) (M j : Int), k ≤ N ∧ i = .int .i64 j ∧ y = .int .i64 M ∧ Hid (j = (k : Int) - 1) ∧ Hid (M = (m : Int) + 1 ∧ (m : Int) + 1 ≤ 9223372036854775807) ∧ Hid (R = (((l.take k).reverse).filter fun k : Nat => decide ((k : Int) < x)).getD m 0) ∧ W0 = wr) (fun i _ _ => (RowKit.intOf i + 1).toNat)
    case atStart =>
      first
      | exact ⟨N, 0, 1, _, Nat.le_refl _, rfl, rfl, Lib.hid rfl, Lib.hid (by decide), Lib.hid (by rw [HR.out, hm, HN.out, List.take_of_length_le (Nat.le_refl _)]), rfl⟩
      | exact ⟨N, m0, _, _, Nat.le_refl _, rfl, rfl, Lib.hid rfl, Lib.hid ⟨rfl, HMb.out⟩, Lib.hid (by rw [HR.out, HN.out, List.take_of_length_le (Nat.le_refl _)]), rfl⟩
    case round =>
      obtain ⟨k', m, M, j, hk, rfl, rfl, HJ, HM, HE, rfl⟩ := hrel
      by_cases hlt : 0 < k'
      · obtain ⟨k, rfl⟩ : ∃ k, k' = k + 1 := ⟨k' - 1, by omega⟩
        have e : j = (k : Int) := by have := HJ.out; omega
        subst e
        have glt : decide ((k : Int) ≥ 0) = true := by simp
        obtain ⟨b, rfl, hc⟩ := HC.out k (by omega)
        have i1 := idx_int b N c k (by omega)
        have HD := Lib.hid (back_get (l := l) (k := k) (by rw [← HN.out]; omega))
        have z1 : IntKind.i64.wrap ((k : Int) - 1) = (k : Int) - 1 := IntWalk.i64_in _ (by omega)
        generalize l.getD k 0 = y at *
        have HJ2 : Hid ((k : Int) - 1 = (k : Int) - 1) := Lib.hid rfl
        clear HJ
        by_cases hy : (y : Int) < x
        · have g1 : decide ((y : Int) < x) = true := by simpa using hy
          obtain ⟨M1, hM1⟩ : ∃ M1, M1 = M - 1 := ⟨_, rfl⟩
          have z2 : IntKind.i64.wrap (M - 1) = M1 := by rw [IntWalk.i64_in _ (by have := HM.out; omega)]; exact hM1.symm
          have HM1 : Hid (M1 = (m : Int)) := Lib.hid (by have := HM.out; omega)
          clear hM1
          have HF : Hid (R = if m = 0 then y else (((l.take k).reverse).filter fun k : Nat => decide ((k : Int) < x)).getD (m - 1) 0) := Lib.hid (by rw [HE.out, HD.out, nth_yes (by simpa using hy)])
          clear hy HD HE
          by_cases hm0 : m = 0
          · have g2 : (M1 == 0) = true := by simp [HM1.out, hm0]
            have HF2 : Hid (R = y) := Lib.hid (by rw [HF.out, if_pos hm0])
            clear hm0
            clear HF
            go_wp2
            go_ret
            exact ⟨by rw [HF2.out]; rfl, HB.out⟩
          · have g2 : (M1 == 0) = false := by have := HM1.out; simp; omega
            obtain ⟨m1, hm1⟩ : ∃ m1, m = m1 + 1 := ⟨m - 1, by omega⟩
            have HF2 : Hid (R = (((l.take k).reverse).filter fun k : Nat => decide ((k : Int) < x)).getD m1 0) := Lib.hid (by rw [HF.out, if_neg (by omega), hm1]; rfl)
            have HM2 : Hid (M1 = (m1 : Int) + 1 ∧ (m1 : Int) + 1 ≤ 9223372036854775807) := Lib.hid (by have := HM.out; have := HM1.out; omega)
            clear HF hm0 hm1
            go_wp2
            go_roundw
            case rel => exact ⟨k, m1, M1, (k : Int) - 1, by omega, rfl, rfl, HJ2, HM2, HF2, by first | rfl | trivial⟩
            case measure => simp [RowKit.intOf] <;> omega
        · have g1 : decide ((y : Int) < x) = false := by simpa using hy
          have HF : Hid (R = (((l.take k).reverse).filter fun k : Nat => decide ((k : Int) < x)).getD m 0) := Lib.hid (by rw [HE.out, HD.out, nth_no (by simpa using hy)])
          clear hy HD HE
          go_wp2
          go_roundw
          case rel => exact ⟨k, m, M, (k : Int) - 1, by omega, rfl, rfl, HJ2, HM, HF, by first | rfl | trivial⟩
          case measure => simp [RowKit.intOf] <;> omega
      · obtain rfl : k' = 0 := by omega
        have glt : decide (j ≥ 0) = false := by have := HJ.out; simp; omega
        clear HJ
        have HF : Hid (R = 0) := Lib.hid (by rw [HE.out]; rfl)
        clear HE
        go_wp2
        go_ret
        exact ⟨by rw [HF.out]; first | rfl | simp, HB.out⟩
end Go.Proofs.Ytfkiihddcinckaa.Tb
