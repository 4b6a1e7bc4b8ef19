/- Layer 10: the document's digits, says, Right, Between. -/
import Derived.Test.YtjmojhohecbipaaDoorAtB
set_option linter.unusedVariables false
namespace Go.Proofs.YtjmojhohecbipaaDoor.A10
open Go.RowKit Sgr

def strL (l : List UInt8) : ByteArray := ⟨l.toArray⟩
theorem str_add (a b : List UInt8) : strL a ++ strL b = strL (a ++ b) := by
  apply ByteArray.ext
  simp [strL, ByteArray.data_append]
theorem str_size (l : List UInt8) : (strL l).size = l.length := by simp [strL, ByteArray.size]
theorem digits_len (k : Nat) : ∀ n, n < 10 ^ (k + 1) → (Lib.decDigits n).length ≤ k + 1 := by
  induction k with
  | zero => intro n hn; rw [Lib.decDigits_one (by simpa using hn)]; simp
  | succ k ih =>
    intro n hn
    by_cases h : n < 10
    · rw [Lib.decDigits_one h]; simp
    · rw [Lib.decDigits, dif_neg h, List.length_append]
      have := ih (n / 10) (by rw [Nat.pow_succ] at hn; omega)
      simp
      omega
theorem digits_ten {n : Nat} (h : n < 4294967296) : (Lib.decDigits n).length ≤ 10 := digits_len 9 n (by omega)

theorem digit_chars (n : Nat) (hn : n < 10) (c : UInt8) (hcc : c = UInt8.ofNat (48 + n)) (w : World) :
    (convert 62 9 (.slice (some ⟨w.heap.size, 0, none⟩) 1 1)).run Tryd.prog (w.alloc (.cells #[.int .u8 (48 + (n : Int))] 5)) = .ok (.string ⟨#[c]⟩) (w.alloc (.cells #[.int .u8 (48 + (n : Int))] 5)) := by
  exact run_convert_bytes_back (P := Tryd.prog) _ 62 9 5 ⟨w.heap.size, 0, none⟩ 1 [c] Tryd.underlying62 Tryd.underlying5 Tryd.underlying9 (fun j hj => by
    have hj0 : j = 0 := by simpa using hj
    subst hj0
    have e : (c.toNat : Int) = 48 + (n : Int) := by rw [hcc]; simp; omega
    simp only [List.getElem_cons_zero]
    rw [e]
    simp [Addr.add])
theorem digits_small (n : Nat) (h : n < 10) (w : World) : Calls Tryd.prog 28 #[.int .u32 n] w fun e w' => e = .returned (.string (strL (Lib.decDigits n))) ∧ Below w.heap.size w w' := by
  obtain ⟨c, hcc⟩ : ∃ c, c = UInt8.ofNat (48 + n) := ⟨_, rfl⟩
  rw [Lib.decDigits_one h, ← hcc]
  have HA : Hid (∀ o, Below w.heap.size w (w.alloc o)) := Lib.hid fun o => (Below.refl _ _).alloc (Nat.le_refl _) _
  have g : decide ((n : Int) < 10) = true := by simp; omega
  have hc := digit_chars n h c hcc w
  clear hcc
  go_enter Tryd.func28, Tryd.ntmps28
  go_wp2
  go_ret
  exact ⟨rfl, HA.out _⟩
theorem digits_any (n : Nat) (w : World) : n < 4294967296 → Calls Tryd.prog 28 #[.int .u32 n] w fun e w' => e = .returned (.string (strL (Lib.decDigits n))) ∧ Below w.heap.size w w' := by
  induction n using Nat.strongRecOn generalizing w with
  | _ n ih =>
    intro hn
    by_cases h : n < 10
    · exact digits_small n h w
    · have e : Lib.decDigits n = Lib.decDigits (n / 10) ++ Lib.decDigits (n % 10) := by
        rw [Lib.decDigits, dif_neg h, Lib.decDigits_one (i := n % 10) (by omega)]
      have h1 := digits_ten (n := n / 10) (by omega)
      have h2 := digits_ten (n := n % 10) (by omega)
      rw [e, ← str_add]
      rw [← str_size] at h1 h2
      have q1 : ((n / 10 : Nat) : Int) = (n : Int) / 10 := by omega
      have q2 : ((n % 10 : Nat) : Int) = (n : Int) % 10 := by omega
      have H1 := ih (n / 10) (by omega) w (by omega)
      have H2 := fun w => ih (n % 10) (by omega) w (by omega)
      rw [q1] at H1
      rw [q2] at H2
      replace H1 := Lib.hid H1
      replace H2 := Lib.hid H2
      clear q1 q2
      have g : decide ((n : Int) < 10) = false := by simp; omega
      generalize strL (Lib.decDigits (n / 10)) = X at *
      generalize strL (Lib.decDigits (n % 10)) = Y at *
      clear e ih h
      go_enter Tryd.func28, Tryd.ntmps28
      go_wp2_with fail
      refine (show Calls _ _ _ _ _ from H1.out).mono ?_
      rintro e w1 ⟨rfl, b1⟩
      have H3 := Lib.hid (H2.out w1)
      have B1 := Lib.hid b1
      clear H1 H2 b1
      go_wp2_with fail
      refine (show Calls _ _ _ _ _ from H3.out).mono ?_
      rintro e w2 ⟨rfl, b2⟩
      have B2 := Lib.hid (B1.out.trans (b2.mono B1.out.size))
      clear H3 b2
      go_wp2
      go_ret
      exact ⟨rfl, B2.out⟩

/-- A box that a call makes. -/
theorem cell_of {w : World} {b : Nat} {c : Array Value} {t : TypeId} (h : w.heap[b]? = some (.cells c t (0, 0))) (i : Nat) : w.cell? ⟨b, i, none⟩ = c[i]? := by
  simp [World.cell?, h]
theorem box_cell (w : World) (c : Array Value) (t : TypeId) (i : Nat) (v : Value) (hi : c[i]? = some v) : (w.alloc (.cells c t)).cell? ⟨w.heap.size, i, none⟩ = some v := (cell_of (Deep.blk_alloc_new _ _) i).trans hi
theorem still_left {P : Program} {f : FuncId} {args : Array Value} {w : World} {n : Nat} {v : Value} (h : Calls P f args (w.drewN n) fun e w' => e = .returned v ∧ w.drewN n = w') :
    Calls P f args (w.drewN n) fun e w'' => e = .returned v ∧ ∃ m, w'' = w.drewN m := h.mono fun _ _ hh => ⟨hh.1, n, hh.2.symm⟩
theorem below_drew {B : Nat} {a w : World} (h : Below B a w) (n : Nat) : Below B a (w.drewN n) := ⟨h.os, h.tape, h.output, h.size, h.block⟩
theorem says_none (m : Nat) (N : ByteArray) (c : Co) (h1 : c.kind ≠ 1) (h2 : c.kind ≠ 2) (w : World) : Calls Tryd.prog 29 #[.string N, coA c] w fun e w' => e = .returned (.string (strL (colT m c))) ∧ Below w.heap.size w w' := by
  have HA : Hid (∀ o, Below w.heap.size w (w.alloc o)) := Lib.hid fun o => (Below.refl _ _).alloc (Nat.le_refl _) _
  have e : colT m c = [] := by unfold colT; rw [if_neg h1, if_neg h2]
  rw [e]
  obtain ⟨k, n⟩ := c
  dsimp only at h1 h2
  have d1 : ((k : Int) == 1) = false := by simp; omega
  have d2 : ((k : Int) == 2) = false := by simp; omega
  unfold coA
  dsimp only
  clear e h1 h2
  go_enter Tryd.func29, Tryd.ntmps29
  go_wp2
  go_ret
  exact ⟨rfl, HA.out _⟩
theorem says_one (m : Nat) (hm : m < 100) (n : Nat) (hn : n < 4294967296) (w : World) : Calls Tryd.prog 29 #[.string (strL (Lib.decDigits m)), .agg #[.int .u8 1, .int .u32 n]] w fun e w' => e = .returned (.string (strL (colT m ⟨1, n⟩))) ∧ Below w.heap.size w w' := by
  have HA : Hid (∀ o, Below w.heap.size w (w.alloc o)) := Lib.hid fun o => (Below.refl _ _).alloc (Nat.le_refl _) _
  have e : strL (colT m ⟨1, n⟩) = ⟨#[59]⟩ ++ strL (Lib.decDigits m) ++ ⟨#[58, 53, 58]⟩ ++ strL (Lib.decDigits n) := by
    apply ByteArray.ext
    simp [strL, colT, ByteArray.data_append]
  have s1 := digits_ten (n := m) (by omega)
  have s2 := digits_ten (n := n) (by omega)
  rw [← str_size] at s1 s2
  rw [e]
  have HD : Hid (∀ w, Calls Tryd.prog 28 #[.int .u32 n] w fun e w' => e = .returned (.string (strL (Lib.decDigits n))) ∧ Below w.heap.size w w') := Lib.hid fun w => digits_any n w hn
  generalize strL (Lib.decDigits m) = N at *
  generalize strL (Lib.decDigits n) = X at *
  clear e
  go_enter Tryd.func29, Tryd.ntmps29
  go_wp2_with fail
  refine (HD.out _).mono ?_
  rintro e w1 ⟨rfl, b1⟩
  have B1 := Lib.hid b1
  clear HD b1
  go_wp2
  go_ret
  exact ⟨rfl, (HA.out _).trans (B1.out.mono (HA.out _).size)⟩
set_option maxHeartbeats 1000000 in
theorem says_two (m : Nat) (hm : m < 100) (n : Nat) (hn : n < 4294967296) (w : World) : Calls Tryd.prog 29 #[.string (strL (Lib.decDigits m)), .agg #[.int .u8 2, .int .u32 n]] w fun e w' => e = .returned (.string (strL (colT m ⟨2, n⟩))) ∧ Below w.heap.size w w' := by
  have e : strL (colT m ⟨2, n⟩) = ⟨#[59]⟩ ++ strL (Lib.decDigits m) ++ ⟨#[58, 50, 58, 58]⟩ ++ strL (Lib.decDigits (n / 65536)) ++ ⟨#[58]⟩ ++ strL (Lib.decDigits (n / 256 % 256)) ++ ⟨#[58]⟩ ++ strL (Lib.decDigits (n % 256)) := by
    apply ByteArray.ext
    simp [strL, colT, ByteArray.data_append]
  have s1 := digits_ten (n := m) (by omega)
  have s2 := digits_ten (n := n / 65536) (by omega)
  have s3 := digits_ten (n := n / 256 % 256) (by omega)
  have s4 := digits_ten (n := n % 256) (by omega)
  rw [← str_size] at s1 s2 s3 s4
  rw [e]
  obtain ⟨W, hW⟩ : ∃ W, W = w.alloc (.cells #[.int .u8 2, .int .u32 (n : Int)] 25) := ⟨_, rfl⟩
  have hB : Below w.heap.size w W := by rw [hW]; exact (Below.refl _ _).alloc (Nat.le_refl _) _
  have hsz : w.heap.size < W.heap.size := by rw [hW]; simp
  have D : ∀ k, k < 4294967296 → ∀ V, Below W.heap.size W V → Calls Tryd.prog 28 #[.int .u32 (k : Nat)] V fun e w' => e = .returned (.string (strL (Lib.decDigits k))) ∧ Below W.heap.size W w' := fun k hk V hV => (digits_any k V hk).mono fun _ _ hx => ⟨hx.1, hV.trans (hx.2.mono hV.size)⟩
  have q2 : ((n / 65536 : Nat) : Int) = (n : Int) / 65536 := by omega
  have q3 : ((n / 256 % 256 : Nat) : Int) = (n : Int) / 256 % 256 := by omega
  have q4 : ((n % 256 : Nat) : Int) = (n : Int) % 256 := by omega
  have D2 := D (n / 65536) (by omega)
  have D3 := D (n / 256 % 256) (by omega)
  have D4 := D (n % 256) (by omega)
  rw [q2] at D2
  rw [q3] at D3
  rw [q4] at D4
  generalize strL (Lib.decDigits m) = N at *
  generalize strL (Lib.decDigits (n / 65536)) = X at *
  generalize strL (Lib.decDigits (n / 256 % 256)) = Y at *
  generalize strL (Lib.decDigits (n % 256)) = Z at *
  have HB := Lib.hid hB
  replace D2 := Lib.hid D2
  replace D3 := Lib.hid D3
  replace D4 := Lib.hid D4
  have c1 : ∀ V, Below W.heap.size W V → V.cell? ⟨w.heap.size, 1, none⟩ = some (.int .u32 (n : Int)) := fun V hV => (hV.cell (p := ⟨w.heap.size, 1, none⟩) hsz).trans (by rw [hW]; exact box_cell _ _ _ _ _ rfl)
  have HW := Lib.hid hW
  have k0 : Below W.heap.size W W.drew := below_drew (Below.refl _ _) 1
  have z1 : ¬ 9223372036854775807 < 1 + N.size := by omega
  have z2 : ¬ 9223372036854775807 < 1 + N.size + 4 := by omega
  have z3 : ¬ 9223372036854775807 < 1 + N.size + 4 + X.size := by omega
  have z4 : ¬ 9223372036854775807 < 1 + N.size + 4 + X.size + 1 := by omega
  have z5 : ¬ 9223372036854775807 < 1 + N.size + 4 + X.size + 1 + Y.size := by omega
  have z6 : ¬ 9223372036854775807 < 1 + N.size + 4 + X.size + 1 + Y.size + 1 := by omega
  have z7 : ¬ 9223372036854775807 < 1 + N.size + 4 + X.size + 1 + Y.size + 1 + Z.size := by omega
  have y1 : IntKind.u32.wrap ((n : Int) / 65536) = (n : Int) / 65536 := IntWalk.u32_in _ (by omega)
  have y2 : IntKind.u32.wrap ((n : Int) / 256) = (n : Int) / 256 := IntWalk.u32_in _ (by omega)
  have t1 : Int.tdiv (n : Int) 65536 = (n : Int) / 65536 := Int.tdiv_eq_ediv_of_nonneg (by omega)
  have t2 : Int.tdiv (n : Int) 256 = (n : Int) / 256 := Int.tdiv_eq_ediv_of_nonneg (by omega)
  have t3 : Int.tmod ((n : Int) / 256) 256 = (n : Int) / 256 % 256 := Int.tmod_eq_emod_of_nonneg (by omega)
  have t4 : Int.tmod (n : Int) 256 = (n : Int) % 256 := Int.tmod_eq_emod_of_nonneg (by omega)
  clear e D q2 q3 q4 hB hsz hW
  go_enter Tryd.func29, Tryd.ntmps29
  go_wp2_with fail
  rw [← HW.out]
  go_region_held3 (fun V => Below W.heap.size W V)
    (assumption)
    (first | (go_at_call 28; (with_reducible refine (D2.out _ (by assumption)).mono ?_); rintro e w1 ⟨rfl, j1⟩) | (go_at_call 28; (with_reducible refine (D3.out _ (by assumption)).mono ?_); rintro e w2 ⟨rfl, j2⟩) | (go_at_call 28; (with_reducible refine (D4.out _ (by assumption)).mono ?_); rintro e w3 ⟨rfl, j3⟩))
  go_wp2
  go_ret
  exact ⟨rfl, HB.out.trans (j3.mono HB.out.size)⟩
end Go.Proofs.YtjmojhohecbipaaDoor.A10
