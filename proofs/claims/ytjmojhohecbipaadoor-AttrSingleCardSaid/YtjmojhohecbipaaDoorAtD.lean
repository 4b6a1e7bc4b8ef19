/- Layer 10: the document's Right and Between. -/
import Derived.Test.YtjmojhohecbipaaDoorAtC
import Derived.Laws.BitsAll
set_option linter.unusedVariables false
namespace Go.Proofs.YtjmojhohecbipaaDoor.A10
open Go.RowKit Sgr

theorem says_any (m : Nat) (hm : m < 100) (c : Co) (hc : CoOk c) (w : World) : Calls Tryd.prog 29 #[.string (strL (Lib.decDigits m)), coA c] w fun e w' => e = .returned (.string (strL (colT m c))) ∧ Below w.heap.size w w' := by
  by_cases h1 : c.kind = 1
  · obtain ⟨k, n⟩ := c
    dsimp only at h1
    subst h1
    exact says_one m hm n hc.2 w
  by_cases h2 : c.kind = 2
  · obtain ⟨k, n⟩ := c
    dsimp only at h2
    subst h2
    exact says_two m hm n hc.2 w
  · exact says_none m _ c h1 h2 w

theorem right_any (a : At) (ha : AtOk a) (w : World) : Calls Tryd.prog 14 #[atA a] w fun e w' => e = .returned (.bool (rightB a)) ∧ Below w.heap.size w w' := by
  obtain ⟨f, c, d⟩ := a
  have hf := ha.1
  dsimp only at hf
  have C1 : Hid (∀ W, Calls Tryd.prog 27 #[.agg #[.int .u8 c.kind, .int .u32 c.n]] W fun e w' => e = .returned (.bool (colB c)) ∧ Below W.heap.size W w') := Lib.hid fun W => color_any c ha.2.1 W
  have C2 : Hid (∀ W, Calls Tryd.prog 27 #[.agg #[.int .u8 d.kind, .int .u32 d.n]] W fun e w' => e = .returned (.bool (colB d)) ∧ Below W.heap.size W w') := Lib.hid fun W => color_any d ha.2.2 W
  have e : rightB ⟨f, c, d⟩ = (decide ((f : Int) ≤ 255) && colB c && colB d) := by
    unfold rightB
    congr 2
    simp; omega
  rw [e]
  clear e ha
  obtain ⟨W, hW⟩ : ∃ W, W = w.alloc (.cells #[.int .u16 (f : Int), .int .u8 (c.kind : Int), .int .u32 (c.n : Int), .int .u8 (d.kind : Int), .int .u32 (d.n : Int)] 27) := ⟨_, rfl⟩
  have hB : Below w.heap.size w W := by rw [hW]; exact (Below.refl _ _).alloc (Nat.le_refl _) _
  have hsz : w.heap.size < W.heap.size := by rw [hW]; simp
  have cc : ∀ i v, (#[Value.int .u16 (f : Int), .int .u8 (c.kind : Int), .int .u32 (c.n : Int), .int .u8 (d.kind : Int), .int .u32 (d.n : Int)] : Array Value)[i]? = some v → ∀ V, Below W.heap.size W V → V.cell? ⟨w.heap.size, i, none⟩ = some v := fun i v hi V hV => (hV.cell (p := ⟨w.heap.size, i, none⟩) hsz).trans (by rw [hW]; exact box_cell _ _ _ _ _ hi)
  have HC := Lib.hid cc
  have HB := Lib.hid hB
  have HW := Lib.hid hW
  unfold atA
  dsimp only
  clear cc hB hW hsz
  by_cases h : f ≤ 255
  · have g : decide ((f : Int) ≤ 255) = true := by simp; omega
    rw [g]
    obtain ⟨x, hx⟩ : ∃ x, x = colB c := ⟨_, rfl⟩
    obtain ⟨y, hy⟩ : ∃ y, y = colB d := ⟨_, rfl⟩
    rw [← hx] at C1 ⊢
    rw [← hy] at C2 ⊢
    clear hx hy
    cases x
    all_goals
      go_enter Tryd.func14, Tryd.ntmps14
      go_wp2_with fail
      refine (C1.out _).mono ?_
      rintro e w1 ⟨rfl, b1⟩
      rw [← HW.out] at b1
      have q3 := HC.out 3 _ rfl w1 b1
      have q4 := HC.out 4 _ rfl w1 b1
      have B1 := Lib.hid b1
      clear b1 C1
    · go_wp2
      go_ret
      exact ⟨rfl, HB.out.trans (B1.out.mono HB.out.size)⟩
    · go_wp2_with fail
      refine (C2.out _).mono ?_
      rintro e w2 ⟨rfl, b2⟩
      have B2 := Lib.hid (HB.out.trans ((B1.out.trans (b2.mono B1.out.size)).mono HB.out.size))
      clear b2 C2
      cases y
      all_goals
        go_wp2
        go_ret
        exact ⟨rfl, B2.out⟩
  · have g : decide ((f : Int) ≤ 255) = false := by simp; omega
    rw [g]
    clear C1 C2
    go_enter Tryd.func14, Tryd.ntmps14
    go_wp2
    go_ret
    refine ⟨rfl, ?_⟩
    rw [← HW.out]
    exact HB.out

/-! ### Between -/
/-- The numbers of flags below k. -/
def setsK (f k : Nat) : List Nat := (List.range k).filter fun (n : Nat) => f &&& bitV (n : Int) != 0
theorem sets_end (f : Nat) : setsK f 10 = setsV f := by
  have e : List.range 10 = [0, 1, 2, 3, 4, 5, 6, 7, 8, 9] := rfl
  have e0 : bitV ((0 : Nat) : Int) = 0 := rfl
  have e6 : bitV ((6 : Nat) : Int) = 0 := rfl
  unfold setsK setsV flagsN
  rw [e]
  simp only [List.filter_cons, e0, e6, Nat.and_zero, bne_self_eq_false, Bool.false_eq_true, if_false]
theorem sets_one (f : Nat) : setsK f 1 = [] := by
  have e0 : bitV 0 = 0 := rfl
  simp [setsK, List.range_succ, e0]
theorem sets_yes {f k : Nat} (h : f &&& bitV (k : Int) ≠ 0) : setsK f (k + 1) = setsK f k ++ [k] := by
  simp [setsK, List.range_succ, List.filter_append, h]
theorem sets_no {f k : Nat} (h : f &&& bitV (k : Int) = 0) : setsK f (k + 1) = setsK f k := by
  simp [setsK, List.range_succ, List.filter_append, h]
theorem setsK_len (f k : Nat) : (setsK f k).length ≤ k := Nat.le_trans (List.length_filter_le _ _) (by simp)
theorem setsK_lt (f k : Nat) : ∀ n ∈ setsK f k, n < k := fun n hn => by simpa using (List.mem_filter.1 hn).1
theorem flagT_len : ∀ (l : List Nat), (∀ n ∈ l, n < 10) → (flagT l).length = 2 * l.length
  | [], _ => rfl
  | n :: l, h => by
    have h1 := flagT_len l fun x hx => h x (List.mem_cons_of_mem _ hx)
    have e : flagT (n :: l) = (59 :: Lib.decDigits n) ++ flagT l := by simp [flagT]
    rw [e, Lib.decDigits_one (h n (List.mem_cons_self ..)), List.length_append, h1]
    simp; omega
/-- What is said so far. -/
def soT (f k : Nat) : List UInt8 := [27, 91, 48] ++ flagT (setsK f k)
theorem so_len {f k : Nat} (hk : k ≤ 10) : (soT f k).length ≤ 30 := by
  have h1 := flagT_len (setsK f k) fun n hn => Nat.lt_of_lt_of_le (setsK_lt f k n hn) hk
  have h2 := setsK_len f k
  unfold soT
  rw [List.length_append, h1]
  simp; omega
theorem so_yes {f k : Nat} (h : f &&& bitV (k : Int) ≠ 0) : strL (soT f (k + 1)) = strL (soT f k) ++ ⟨#[59]⟩ ++ strL (Lib.decDigits k) := by
  unfold soT
  rw [sets_yes h]
  apply ByteArray.ext
  simp [strL, flagT, ByteArray.data_append]
theorem so_no {f k : Nat} (h : f &&& bitV (k : Int) = 0) : soT f (k + 1) = soT f k := by unfold soT; rw [sets_no h]
theorem so_end (b : At) : strL (saysT b) = strL (soT b.fl 10) ++ strL (colT 38 b.fg) ++ strL (colT 48 b.bg) ++ ⟨#[109]⟩ := by
  unfold soT saysT
  rw [sets_end]
  apply ByteArray.ext
  simp [strL, ByteArray.data_append]
theorem col_size (m : Nat) (hm : m < 100) (c : Co) (hc : CoOk c) : (strL (colT m c)).size ≤ 60 := by
  rw [str_size]
  have s1 := digits_ten (n := m) (by omega)
  have s2 := digits_ten (n := c.n) hc.2
  have s3 := digits_ten (n := c.n / 65536) (by have := hc.2; omega)
  have s4 := digits_ten (n := c.n / 256 % 256) (by omega)
  have s5 := digits_ten (n := c.n % 256) (by omega)
  unfold colT
  split
  · simp; omega
  split
  · simp; omega
  · simp

theorem eq_attr (a b : At) (w : World) : (binOp .eql 27 (atA a) (atA b)).run Tryd.prog w = .ok (.bool (decide (a = b))) w := by
  obtain ⟨f, ⟨k, n⟩, ⟨l, m⟩⟩ := a
  obtain ⟨f', ⟨k', n'⟩, ⟨l', m'⟩⟩ := b
  unfold atA
  dsimp only
  go_simp
  by_cases h1 : f = f'
  · by_cases h2 : k = k'
    · by_cases h3 : n = n'
      · by_cases h4 : l = l'
        · by_cases h5 : m = m'
          · simp [h1, h2, h3, h4, h5]
          · have g : ¬ (m : Int) = m' := by omega
            simp [h1, h2, h3, h4, h5, g]
        · have g : ¬ (l : Int) = l' := by omega
          simp [h1, h2, h3, h4, g]
      · have g : ¬ (n : Int) = n' := by omega
        simp [h1, h2, h3, g]
    · have g : ¬ (k : Int) = k' := by omega
      simp [h1, h2, g]
  · have g : ¬ (f : Int) = f' := by omega
    simp [h1, g]

theorem between_no (a b : At) (hb : AtOk b) (h : a = b ∨ rightB b = false) (w : World) : Calls Tryd.prog 15 #[atA a, atA b] w fun e w' => e = .returned (.string ⟨#[]⟩) ∧ Below w.heap.size w w' := by
  have HE := fun W => eq_attr a b W
  have HR := Lib.hid fun W => right_any b hb W
  obtain ⟨x, hx⟩ : ∃ x, x = decide (a = b) := ⟨_, rfl⟩
  obtain ⟨y, hy⟩ : ∃ y, y = rightB b := ⟨_, rfl⟩
  rw [← hx] at HE
  rw [← hy] at HR
  have hxy : x = true ∨ x = false ∧ y = false := by
    rcases h with h | h
    · exact Or.inl (by rw [hx]; simpa using h)
    · cases x
      · exact Or.inr ⟨rfl, by rw [hy]; exact h⟩
      · exact Or.inl rfl
  clear hx hy h hb
  unfold atA at *
  have HA : Hid (∀ o o', Below w.heap.size w ((w.alloc o).alloc o')) := Lib.hid fun o o' => ((Below.refl _ _).alloc (Nat.le_refl _) _).alloc (by simp) _
  rcases hxy with rfl | ⟨rfl, rfl⟩
  · go_enter Tryd.func15, Tryd.ntmps15
    go_wp2_with fail
    go_ret
    exact ⟨rfl, HA.out _ _⟩
  · go_enter Tryd.func15, Tryd.ntmps15
    go_wp2_with fail
    refine (HR.out _).mono ?_
    rintro e w1 ⟨rfl, b1⟩
    have B1 := Lib.hid ((HA.out _ _).trans (b1.mono (HA.out _ _).size))
    clear b1 HR HE
    go_wp2
    go_ret
    exact ⟨rfl, B1.out⟩

theorem and_u16 (a b : Nat) (ha : a < 65536) (hb : b < 65536) : bits .and .u16 (a : Int) (b : Int) = ((a &&& b : Nat) : Int) := by
  simpa using u16_and a b (by omega) (by omega) (by omega) (by omega)

set_option maxHeartbeats 1000000 in
theorem between_yes (a b : At) (hb : AtOk b) (h : a ≠ b) (hr : rightB b = true) (w : World) : Calls Tryd.prog 15 #[atA a, atA b] w fun e w' => e = .returned (.string (strL (saysT b))) ∧ Below w.heap.size w w' := by
  have HE := fun W => eq_attr a b W
  have HR := Lib.hid fun W => right_any b hb W
  rw [show decide (a = b) = false by simpa using h] at HE
  rw [hr] at HR
  have HS1 := Lib.hid fun W => says_any 38 (by decide) b.fg hb.2.1 W
  have HS2 := Lib.hid fun W => says_any 48 (by decide) b.bg hb.2.2 W
  have z38 := col_size 38 (by decide) b.fg hb.2.1
  have z48 := col_size 48 (by decide) b.bg hb.2.2
  have z0 : (strL (soT b.fl 10)).size ≤ 30 := by rw [str_size]; exact so_len (by decide)
  rw [so_end]
  have hf := hb.1
  clear h hr hb
  obtain ⟨f, ⟨k1, n1⟩, ⟨k2, n2⟩⟩ := b
  dsimp only at hf z0 ⊢
  generalize strL (colT 38 _) = X at *
  generalize strL (colT 48 _) = Y at *
  have d38 : strL (Lib.decDigits 38) = ⟨#[51, 56]⟩ := by decide +kernel
  have d48 : strL (Lib.decDigits 48) = ⟨#[52, 56]⟩ := by decide +kernel
  rw [d38] at HS1
  rw [d48] at HS2
  obtain ⟨f', ⟨k1', n1'⟩, ⟨k2', n2'⟩⟩ := a
  unfold atA coA at *
  dsimp only at *
  obtain ⟨W, hW⟩ : ∃ W, W = (w.alloc (.cells #[.int .u16 (f' : Int), .int .u8 (k1' : Int), .int .u32 (n1' : Int), .int .u8 (k2' : Int), .int .u32 (n2' : Int)] 27)).alloc (.cells #[.int .u16 (f : Int), .int .u8 (k1 : Int), .int .u32 (n1 : Int), .int .u8 (k2 : Int), .int .u32 (n2 : Int)] 27) := ⟨_, rfl⟩
  have hB : Below w.heap.size w W := by rw [hW]; exact ((Below.refl _ _).alloc (Nat.le_refl _) _).alloc (by simp) _
  have hsz : w.heap.size + 1 < W.heap.size := by rw [hW]; simp
  have cc : ∀ i v, (#[Value.int .u16 (f : Int), .int .u8 (k1 : Int), .int .u32 (n1 : Int), .int .u8 (k2 : Int), .int .u32 (n2 : Int)] : Array Value)[i]? = some v → ∀ V, Below W.heap.size W V → V.cell? ⟨w.heap.size + 1, i, none⟩ = some v := fun i v hi V hV => (hV.cell (p := ⟨w.heap.size + 1, i, none⟩) hsz).trans (by rw [hW]; simpa using box_cell (w.alloc (.cells #[.int .u16 (f' : Int), .int .u8 (k1' : Int), .int .u32 (n1' : Int), .int .u8 (k2' : Int), .int .u32 (n2' : Int)] 27)) #[.int .u16 (f : Int), .int .u8 (k1 : Int), .int .u32 (n1 : Int), .int .u8 (k2 : Int), .int .u32 (n2 : Int)] 27 i v hi)
  have HC := Lib.hid cc
  have HB := Lib.hid hB
  have HW := Lib.hid hW
  clear cc hB hW hsz d38 d48
  go_enter Tryd.func15, Tryd.ntmps15
  go_wp2_with fail
  refine (HR.out _).mono ?_
  rintro e w1 ⟨rfl, b1⟩
  rw [← HW.out] at b1
  have B1 := Lib.hid b1
  clear b1 HR HE
  go_wp2
  go_loopw [5, 6] (fun s i wr => ∃ k : Nat, 1 ≤ k ∧ k ≤ 10 ∧ i = .int .i64 k ∧ s = .string (strL (soT f k)) ∧ Hid (Below W.heap.size W wr)) (fun _ i _ => 10 - (RowKit.intOf i).toNat)
  case atStart => exact ⟨1, by omega, by omega, rfl, by simp [soT, sets_one, flagT]; rfl, B1⟩
  case round =>
    obtain ⟨k, hk1, hk, rfl, rfl, HK⟩ := hrel
    by_cases hlt : k < 10
    · have q0 := fun j => HC.out 0 _ rfl (wr.drewN j) (below_drew HK.out j)
      have hbits := and_u16 f (bitV (k : Int)) hf (by have := bit_le (k : Int); omega)
      have HBit := Lib.hid fun V => bit_any (k : Int) V
      have hbv := bit_le (k : Int)
      obtain ⟨x, hx⟩ : ∃ x, x = bitV (k : Int) := ⟨_, rfl⟩
      rw [← hx] at hbits HBit hbv
      have HX := Lib.hid hx
      clear hx
      by_cases hz : f &&& x = 0
      · have HS := Lib.hid (so_no (f := f) (k := k) (by rw [← HX.out]; exact hz))
        rw [hz] at hbits
        clear hz
        go_wp2
        go_quiet ((go_at_call 25; exact still_left (HBit.out _)))
        go_wp2
        go_roundw
        case rel => exact ⟨k + 1, by omega, by omega, by go_num, by rw [HS.out], Lib.hid (below_drew HK.out _)⟩
        case measure => simp [RowKit.intOf]; omega
      · have HS := Lib.hid (so_yes (f := f) (k := k) (by rw [← HX.out]; exact hz))
        have hzi : (((f &&& x : Nat) : Int) != 0) = true := by simp; omega
        have hsz : (strL (soT f k)).size ≤ 30 := by rw [str_size]; exact so_len (by omega)
        have hdz := digits_ten (n := k) (by omega)
        rw [← str_size] at hdz
        have HD := Lib.hid fun V => digits_any k V (by omega)
        generalize strL (Lib.decDigits k) = D at HS hdz HD
        generalize strL (soT f k) = T at *
        clear hz
        go_wp2
        go_quiet ((go_at_call 25; exact still_left (HBit.out _)))
        go_wp2_with fail
        refine (HD.out _).mono ?_
        rintro e w2 ⟨rfl, b2⟩
        have B2 := Lib.hid ((below_drew HK.out _).trans (b2.mono (below_drew HK.out _).size))
        clear b2
        go_wp2
        go_roundw
        case rel => exact ⟨k + 1, by omega, by omega, by go_num, by rw [HS.out], B2⟩
        case measure => simp [RowKit.intOf]; omega
    · have e : k = 10 := by omega
      subst e
      have c1 := HC.out 1 _ rfl
      have c2 := HC.out 2 _ rfl
      have c3 := HC.out 3 _ rfl
      have c4 := HC.out 4 _ rfl
      have H1 : Hid (∀ V, Below W.heap.size W V → Calls Tryd.prog 29 #[.string ⟨#[51, 56]⟩, .agg #[.int .u8 (k1 : Int), .int .u32 (n1 : Int)]] V fun e w' => e = .returned (.string X) ∧ Below W.heap.size W w') := Lib.hid fun V hV => (HS1.out V).mono fun _ _ hx => ⟨hx.1, hV.trans (hx.2.mono hV.size)⟩
      have H2 : Hid (∀ V, Below W.heap.size W V → Calls Tryd.prog 29 #[.string ⟨#[52, 56]⟩, .agg #[.int .u8 (k2 : Int), .int .u32 (n2 : Int)]] V fun e w' => e = .returned (.string Y) ∧ Below W.heap.size W w') := Lib.hid fun V hV => (HS2.out V).mono fun _ _ hx => ⟨hx.1, hV.trans (hx.2.mono hV.size)⟩
      have kd : Below W.heap.size W wr.drew := below_drew HK.out 1
      have z1 : ¬ 9223372036854775807 < (strL (soT f 10)).size + X.size := by omega
      have z2 : ¬ 9223372036854775807 < (strL (soT f 10)).size + X.size + Y.size := by omega
      have z3 : ¬ 9223372036854775807 < (strL (soT f 10)).size + X.size + Y.size + 1 := by omega
      clear HS1 HS2
      go_wp2_with fail
      go_region_held3 (fun V => Below W.heap.size W V)
        (assumption)
        (first | (go_at_call 29; (with_reducible refine (H1.out _ (by assumption)).mono ?_); rintro e w2 ⟨rfl, j1⟩) | (go_at_call 29; (with_reducible refine (H2.out _ (by assumption)).mono ?_); rintro e w3 ⟨rfl, j2⟩))
      go_wp2
      go_ret
      exact ⟨rfl, HB.out.trans (j2.mono HB.out.size)⟩
end Go.Proofs.YtjmojhohecbipaaDoor.A10
