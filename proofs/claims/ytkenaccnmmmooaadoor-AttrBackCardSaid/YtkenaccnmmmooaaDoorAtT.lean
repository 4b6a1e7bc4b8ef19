/- Layer 10: the program's told. -/
import Derived.Test.YtkenaccnmmmooaaDoorAtO
import Derived.OneCell
set_option linter.unusedVariables false
namespace Go.Proofs.YtkenaccnmmmooaaDoor.A10
open Go.RowKit Sgr

/-- The color of the first values; the old one, if they are too few, or none of a byte. -/
def toldV (c : Co) (how : Int) (vs : List Int) : Co :=
  if how = 5 then (if 0 < vs.length ∧ fitsB (partV vs 0) = true then tabV (partV vs 0) else c)
  else if how = 2 then (if 2 < vs.length ∧ fitsB (partV vs 0) = true ∧ fitsB (partV vs 1) = true ∧ fitsB (partV vs 2) = true then rgbV (partV vs 0) (partV vs 1) (partV vs 2) else c)
  else c
/-- The number of the first k values. -/
def accV (vs : List Int) : Nat → Nat
  | 0 => 0
  | k + 1 => accV vs k * 256 + (partV vs k).toNat
def FitK (vs : List Int) (k : Nat) : Prop := ∀ j, j < k → fitsB (partV vs j) = true
theorem acc_lt (vs : List Int) : ∀ k, FitK vs k → accV vs k < 256 ^ k
  | 0, _ => by simp [accV]
  | k + 1, h => by
    have h1 := acc_lt vs k fun j hj => h j (by omega)
    have h2 := fits_iff.1 (h k (by omega))
    show accV vs k * 256 + (partV vs k).toNat < _
    rw [Nat.pow_succ]
    omega
theorem free_blk {w : World} {b : Nat} {c : Array Value} {t : TypeId} (h : w.heap[b]? = some (.cells c t (0, 0))) (i : Nat) : w.frozen? ⟨b, i, none⟩ = false := by simp [World.frozen?, h]
theorem cell_blk {w : World} {b : Nat} {c : Array Value} {t : TypeId} (h : w.heap[b]? = some (.cells c t (0, 0))) (i : Nat) : w.cell? ⟨b, i, none⟩ = c[i]? := by simp [World.cell?, h]
theorem set_blk {w : World} {b : Nat} {cs : Array Value} {t : TypeId} (h : w.heap[b]? = some (.cells cs t (0, 0))) (i : Nat) (v : Value) : (w.setCell ⟨b, i, none⟩ v).heap[b]? = some (.cells (cs.setIfInBounds i v) t (0, 0)) := heap_setCell_same w b i _ _ v h
/-- A color in a block of its own. -/
def ColAt (w : World) (b : Nat) (k n : Nat) : Prop := w.heap[b]? = some (.cells #[.int .u8 k, .int .u32 n] 25 (0, 0))
theorem ColAt.kind {w : World} {b k n : Nat} (h : ColAt w b k n) : w.cell? ⟨b, 0, none⟩ = some (.int .u8 k) := cell_blk h 0
theorem ColAt.num {w : World} {b k n : Nat} (h : ColAt w b k n) : w.cell? ⟨b, 1, none⟩ = some (.int .u32 n) := cell_blk h 1
theorem put_two {w : World} {b : Nat} {x y : Value} {t : TypeId} (h : w.heap[b]? = some (.cells #[x, y] t (0, 0))) (u v : Value) : ((w.setCell ⟨b, 0, none⟩ u).setCell ⟨b, 1, none⟩ v).cell? ⟨b, 0, none⟩ = some u ∧ ((w.setCell ⟨b, 0, none⟩ u).setCell ⟨b, 1, none⟩ v).cell? ⟨b, 1, none⟩ = some v := by
  have h1 := set_blk (set_blk h 0 u) 1 v
  exact ⟨(cell_blk h1 0).trans rfl, (cell_blk h1 1).trans rfl⟩
/-- The blocks of told: the old color, the answer, the new color. -/
def Told (w wr : World) (c : Co) (K : Nat) (N : Nat) : Prop :=
  ColAt wr w.heap.size c.kind c.n ∧ ColAt wr (w.heap.size + 1) 0 0 ∧ ColAt wr (w.heap.size + 1 + 1) K N ∧ Below w.heap.size w wr
theorem told_set {w wr : World} {c : Co} {K N : Nat} (h : Told w wr c K N) (M : Nat) {x : Int} (hx : x = M) : Told w (wr.setCell ⟨w.heap.size + 1 + 1, 1, none⟩ (.int .u32 x)) c K M := by
  subst hx
  obtain ⟨h0, h1, h2, hB⟩ := h
  refine ⟨?_, ?_, ?_, hB.setCell (by simp; omega) _⟩
  · exact (Deep.blk_setCell_other _ _ _ _ (by simp; omega)).trans h0
  · exact (Deep.blk_setCell_other _ _ _ _ (by simp)).trans h1
  · exact set_blk h2 1 _
theorem told_kind {w wr : World} {c : Co} {K N : Nat} (h : Told w wr c K N) : Told w (wr.setCell ⟨w.heap.size + 1 + 1, 0, none⟩ (.int .u8 2)) c 2 N := by
  obtain ⟨h0, h1, h2, hB⟩ := h
  refine ⟨?_, ?_, ?_, hB.setCell (by simp; omega) _⟩
  · exact (Deep.blk_setCell_other _ _ _ _ (by simp; omega)).trans h0
  · exact (Deep.blk_setCell_other _ _ _ _ (by simp)).trans h1
  · exact set_blk h2 0 _
theorem told_start (w : World) (c : Co) (K : Nat) : Told w (((w.alloc (.cells #[.int .u8 c.kind, .int .u32 c.n] 25)).alloc (.cells #[.int .u8 0, .int .u32 0] 25)).alloc (.cells #[.int .u8 K, .int .u32 0] 25)) c K 0 := by
  refine ⟨?_, ?_, ?_, (((Below.refl _ _).alloc (Nat.le_refl _) _).alloc (by simp) _).alloc (by simp; omega) _⟩
  · exact (Deep.blk_alloc_lt _ _ _ (by simp; omega)).trans ((Deep.blk_alloc_lt _ _ _ (by simp)).trans (Deep.blk_alloc_new _ _))
  · have := Deep.blk_alloc_new (w.alloc (.cells #[.int .u8 c.kind, .int .u32 c.n] 25)) (.cells #[.int .u8 0, .int .u32 0] 25)
    rw [Deep.nblk_alloc] at this
    exact (Deep.blk_alloc_lt _ _ _ (by simp)).trans this
  · have := Deep.blk_alloc_new ((w.alloc (.cells #[.int .u8 c.kind, .int .u32 c.n] 25)).alloc (.cells #[.int .u8 0, .int .u32 0] 25)) (.cells #[.int .u8 K, .int .u32 0] 25)
    rw [Deep.nblk_alloc, Deep.nblk_alloc] at this
    exact this
theorem or_byte {N : Nat} {b : Nat} (hN : N < 65536) (hb : b < 256) : bits .or .u32 ((N : Int) * 256 % 4294967296) (b : Int) = ((N * 256 + b : Nat) : Int) := by
  have e : (N : Int) * 256 % 4294967296 = ((N * 256 : Nat) : Int) := by omega
  rw [e, u32_or_nat _ _ (by omega) (by omega)]
  have := Nat.two_pow_add_eq_or_of_lt (i := 8) (b := b) hb N
  rw [show N * 256 = 2 ^ 8 * N by omega, ← this]
theorem or_byte' {N : Nat} {b : Nat} (hN : N < 65536) (hb : b < 256) : bits .or .u32 ((N : Int) * 256) (b : Int) = ((N * 256 + b : Nat) : Int) := by
  have e : (N : Int) * 256 % 4294967296 = (N : Int) * 256 := by omega
  rw [← or_byte hN hb, e]
theorem fit_succ {vs : List Int} {k : Nat} (h : FitK vs k) (h1 : fitsB (partV vs k) = true) : FitK vs (k + 1) := fun j hj => by
  rcases Nat.lt_succ_iff_lt_or_eq.1 hj with hj | rfl
  · exact h j hj
  · exact h1
theorem told_yes5 {c : Co} {vs : List Int} (h : FitK vs 1) (hn : 0 < vs.length) : toldV c 5 vs = ⟨1, accV vs 1⟩ := by
  unfold toldV
  rw [if_pos rfl, if_pos ⟨hn, h 0 (by omega)⟩]
  simp [tabV, accV]
theorem told_yes2 {c : Co} {vs : List Int} (h : FitK vs 3) (hn : 2 < vs.length) : toldV c 2 vs = ⟨2, accV vs 3⟩ := by
  unfold toldV
  rw [if_neg (by decide), if_pos rfl, if_pos ⟨hn, h 0 (by omega), h 1 (by omega), h 2 (by omega)⟩]
  simp only [rgbV, accV]
  congr 1
  omega
theorem told_no5 {c : Co} {vs : List Int} {j : Nat} (hj : j < 1) (h : fitsB (partV vs j) = false) : toldV c 5 vs = c := by
  obtain rfl : j = 0 := by omega
  unfold toldV
  rw [if_pos rfl, if_neg (by simp [h])]
theorem told_no2 {c : Co} {vs : List Int} {j : Nat} (hj : j < 3) (h : fitsB (partV vs j) = false) : toldV c 2 vs = c := by
  have : j = 0 ∨ j = 1 ∨ j = 2 := by omega
  unfold toldV
  rw [if_neg (by decide), if_pos rfl, if_neg]
  rcases this with rfl | rfl | rfl <;> simp [h]
set_option maxHeartbeats 4000000 in
theorem told_five (c : Co) (vs : List Int) (a : Addr) (n k : Nat) (w : World) (hR : RowL w (some a) vs) (hn : n = vs.length) (hl : n ≤ k) (hk : k ≤ 9223372036854775807) (hm : 1 ≤ n) :
    Calls Tryd.prog 25 #[coA c, .int .i64 5, .slice (some a) n k] w fun e w' => e = .returned (coA (toldV c 5 vs)) ∧ Below w.heap.size w w' := by
  have NE := fun V => needs_any 5 V
  rw [if_pos rfl] at NE
  have g1 : decide ((n : Int) < 1) = false := by simp; omega
  obtain ⟨R, hR0⟩ : ∃ R, R = toldV c 5 vs := ⟨_, rfl⟩
  rw [← hR0]
  have HR0 := Lib.hid hR0
  clear hR0
  unfold coA
  go_enter Tryd.func25, Tryd.ntmps25
  go_wp2_with (go_at_call 27; refine (NE _).mono ?_; rintro e w' ⟨rfl, rfl⟩)
  go_loopw [30] (fun i wr => ∃ k : Nat, k ≤ 1 ∧ i = .int .i64 k ∧ FitK vs k ∧ Hid (Told w wr c 1 (accV vs k))) (fun i _ => 1 - (RowKit.intOf i).toNat)
  case atStart => exact ⟨0, by omega, rfl, fun j hj => absurd hj (Nat.not_lt_zero j), Lib.hid (told_start w c 1)⟩
  case round =>
    obtain ⟨j, hj, rfl, hF, HT⟩ := hrel
    rename_i wr
    obtain ⟨t0, t1, t2, hB⟩ := HT.out
    have q0 := t0.kind
    have q1 := t0.num
    have q2 := t1.kind
    have q3 := t1.num
    have q4 := t2.kind
    have q5 := t2.num
    have f0 := free_blk t1 0
    have f1 := free_blk t1 1
    have f2 := free_blk t2 1
    have T1 := Lib.hid t1
    clear t0 t1 t2
    have HB := Lib.hid hB
    by_cases hj1 : j < 1
    · obtain ⟨a', e', hx, hb1, hb2⟩ := hR j (by omega)
      obtain rfl := Option.some.inj e'
      have hx := (hB.cell (cell_lt hx)).trans hx
      have hacc := acc_lt vs j hF
      obtain ⟨x, hxe⟩ : ∃ x, x = partV vs j := ⟨_, rfl⟩
      rw [← hxe] at hx hb1 hb2
      have HX := Lib.hid hxe
      clear hxe
      obtain ⟨N, hNe⟩ : ∃ N, N = accV vs j := ⟨_, rfl⟩
      rw [← hNe] at q5 hacc HT
      have HN := Lib.hid hNe
      have HF := Lib.hid hF
      have g2 : decide ((j : Int) < 1) = true := by simp; omega
      clear hNe hF hB
      by_cases hf : 0 ≤ x ∧ x ≤ 255
      · obtain ⟨b, rfl⟩ : ∃ b : Nat, x = b := ⟨x.toNat, by omega⟩
        have d0 : decide ((b : Int) < 0) = false := by simp
        have d1 : decide ((b : Int) > 255) = false := by simp; omega
        have hN : N < 65536 := Nat.lt_of_lt_of_le hacc (Nat.le_trans (Nat.pow_le_pow_right (by decide) (show j ≤ 2 by omega)) (by decide))
        have hO := or_byte hN (show b < 256 by omega)
        have hO' := or_byte' hN (show b < 256 by omega)
        have HF2 := Lib.hid (fit_succ HF.out (by rw [← HX.out]; exact fits_iff.2 (by omega)))
        go_wp2
        go_roundw
        case rel => exact ⟨j + 1, by omega, by go_num, HF2.out, Lib.hid (told_set HT.out _ (by
          first | rw [hO] | rw [hO'] | skip
          show _ = ((accV vs j * 256 + (partV vs j).toNat : Nat) : Int)
          rw [← HN.out, ← HX.out]
          simp))⟩
        case measure => simp [RowKit.intOf]; omega
      · have hff : fitsB x = false := by
          rcases Bool.eq_false_or_eq_true (fitsB x) with h | h
          · exact absurd (fits_iff.1 h) hf
          · exact h
        have HV : Hid (R = c) := Lib.hid (by rw [HR0.out]; exact told_no5 hj1 (by rw [← HX.out]; exact hff))
        have d : decide (x < 0) = true ∨ decide (x < 0) = false ∧ decide (x > 255) = true := by simp; omega
        clear hff hf
        rcases d with d0 | ⟨d0, d1⟩
        all_goals
          go_wp2
          have Z := put_two T1.out (.int .u8 (c.kind : Int)) (.int .u32 (c.n : Int))
          refine bodyPost_ret (v := .agg #[.int .u8 c.kind, .int .u32 c.n]) (by simp [results, Tryd.results25, go_sem, Z.1, Z.2]) rfl ?_
          exact ⟨by rw [HV.out], (HB.out.setCell (by simp) _).setCell (by simp) _⟩
    · have hjm : j = 1 := by omega
      subst hjm
      have HV : Hid (R = ⟨1, accV vs 1⟩) := Lib.hid (by rw [HR0.out]; exact told_yes5 hF (by omega))
      generalize accV vs 1 = N at *
      clear hF
      go_wp2
      have Z := put_two T1.out (.int .u8 1) (.int .u32 (N : Int))
      refine bodyPost_ret (v := .agg #[.int .u8 1, .int .u32 N]) (by simp [results, Tryd.results25, go_sem, Z.1, Z.2]) rfl ?_
      exact ⟨by rw [HV.out]; rfl, (HB.out.setCell (by simp) _).setCell (by simp) _⟩
set_option maxHeartbeats 4000000 in
theorem told_three (c : Co) (vs : List Int) (a : Addr) (n k : Nat) (w : World) (hR : RowL w (some a) vs) (hn : n = vs.length) (hl : n ≤ k) (hk : k ≤ 9223372036854775807) (hm : 3 ≤ n) :
    Calls Tryd.prog 25 #[coA c, .int .i64 2, .slice (some a) n k] w fun e w' => e = .returned (coA (toldV c 2 vs)) ∧ Below w.heap.size w w' := by
  have NE := fun V => needs_any 2 V
  rw [if_neg (by decide), if_pos rfl] at NE
  have g1 : decide ((n : Int) < 3) = false := by simp; omega
  obtain ⟨R, hR0⟩ : ∃ R, R = toldV c 2 vs := ⟨_, rfl⟩
  rw [← hR0]
  have HR0 := Lib.hid hR0
  clear hR0
  unfold coA
  go_enter Tryd.func25, Tryd.ntmps25
  go_wp2_with (go_at_call 27; refine (NE _).mono ?_; rintro e w' ⟨rfl, rfl⟩)
  go_loopw [30] (fun i wr => ∃ k : Nat, k ≤ 3 ∧ i = .int .i64 k ∧ FitK vs k ∧ Hid (Told w wr c 2 (accV vs k))) (fun i _ => 3 - (RowKit.intOf i).toNat)
  case atStart => exact ⟨0, by omega, rfl, fun j hj => absurd hj (Nat.not_lt_zero j), Lib.hid (told_start w c 2)⟩
  case round =>
    obtain ⟨j, hj, rfl, hF, HT⟩ := hrel
    rename_i wr
    obtain ⟨t0, t1, t2, hB⟩ := HT.out
    have q0 := t0.kind
    have q1 := t0.num
    have q2 := t1.kind
    have q3 := t1.num
    have q4 := t2.kind
    have q5 := t2.num
    have f0 := free_blk t1 0
    have f1 := free_blk t1 1
    have f2 := free_blk t2 1
    have T1 := Lib.hid t1
    clear t0 t1 t2
    have HB := Lib.hid hB
    by_cases hj1 : j < 3
    · obtain ⟨a', e', hx, hb1, hb2⟩ := hR j (by omega)
      obtain rfl := Option.some.inj e'
      have hx := (hB.cell (cell_lt hx)).trans hx
      have hacc := acc_lt vs j hF
      obtain ⟨x, hxe⟩ : ∃ x, x = partV vs j := ⟨_, rfl⟩
      rw [← hxe] at hx hb1 hb2
      have HX := Lib.hid hxe
      clear hxe
      obtain ⟨N, hNe⟩ : ∃ N, N = accV vs j := ⟨_, rfl⟩
      rw [← hNe] at q5 hacc HT
      have HN := Lib.hid hNe
      have HF := Lib.hid hF
      have g2 : decide ((j : Int) < 3) = true := by simp; omega
      clear hNe hF hB
      by_cases hf : 0 ≤ x ∧ x ≤ 255
      · obtain ⟨b, rfl⟩ : ∃ b : Nat, x = b := ⟨x.toNat, by omega⟩
        have d0 : decide ((b : Int) < 0) = false := by simp
        have d1 : decide ((b : Int) > 255) = false := by simp; omega
        have hN : N < 65536 := Nat.lt_of_lt_of_le hacc (Nat.le_trans (Nat.pow_le_pow_right (by decide) (show j ≤ 2 by omega)) (by decide))
        have hO := or_byte hN (show b < 256 by omega)
        have hO' := or_byte' hN (show b < 256 by omega)
        have HF2 := Lib.hid (fit_succ HF.out (by rw [← HX.out]; exact fits_iff.2 (by omega)))
        go_wp2
        go_roundw
        case rel => exact ⟨j + 1, by omega, by go_num, HF2.out, Lib.hid (told_set HT.out _ (by
          first | rw [hO] | rw [hO'] | skip
          show _ = ((accV vs j * 256 + (partV vs j).toNat : Nat) : Int)
          rw [← HN.out, ← HX.out]
          simp))⟩
        case measure => simp [RowKit.intOf]; omega
      · have hff : fitsB x = false := by
          rcases Bool.eq_false_or_eq_true (fitsB x) with h | h
          · exact absurd (fits_iff.1 h) hf
          · exact h
        have HV : Hid (R = c) := Lib.hid (by rw [HR0.out]; exact told_no2 hj1 (by rw [← HX.out]; exact hff))
        have d : decide (x < 0) = true ∨ decide (x < 0) = false ∧ decide (x > 255) = true := by simp; omega
        clear hff hf
        rcases d with d0 | ⟨d0, d1⟩
        all_goals
          go_wp2
          have Z := put_two T1.out (.int .u8 (c.kind : Int)) (.int .u32 (c.n : Int))
          refine bodyPost_ret (v := .agg #[.int .u8 c.kind, .int .u32 c.n]) (by simp [results, Tryd.results25, go_sem, Z.1, Z.2]) rfl ?_
          exact ⟨by rw [HV.out], (HB.out.setCell (by simp) _).setCell (by simp) _⟩
    · have hjm : j = 3 := by omega
      subst hjm
      have HV : Hid (R = ⟨2, accV vs 3⟩) := Lib.hid (by rw [HR0.out]; exact told_yes2 hF (by omega))
      generalize accV vs 3 = N at *
      clear hF
      go_wp2
      have Z := put_two T1.out (.int .u8 2) (.int .u32 (N : Int))
      refine bodyPost_ret (v := .agg #[.int .u8 2, .int .u32 N]) (by simp [results, Tryd.results25, go_sem, Z.1, Z.2]) rfl ?_
      exact ⟨by rw [HV.out]; rfl, (HB.out.setCell (by simp) _).setCell (by simp) _⟩
theorem told_few (c : Co) (vs : List Int) (A : Option Addr) (n k : Nat) (w : World) (hn : n = vs.length) (how : Int) (h0 : ¬ (how = 5 ∧ 1 ≤ n) ∧ ¬ (how = 2 ∧ 3 ≤ n)) :
    Calls Tryd.prog 25 #[coA c, .int .i64 how, .slice A n k] w fun e w' => e = .returned (coA (toldV c how vs)) ∧ Below w.heap.size w w' := by
  have HV : Hid (toldV c how vs = c) := Lib.hid (by
    unfold toldV
    by_cases h5 : how = 5
    · rw [if_pos h5, if_neg (by omega)]
    by_cases h2 : how = 2
    · rw [if_neg h5, if_pos h2, if_neg (by omega)]
    · rw [if_neg h5, if_neg h2])
  have NE := fun V => needs_any how V
  have hd : (if how = 5 then (1 : Int) else if how = 2 then 3 else 0) = 0 ∨ (if how = 5 then (1 : Int) else if how = 2 then 3 else 0) = 1 ∧ n < 1 ∨ (if how = 5 then (1 : Int) else if how = 2 then 3 else 0) = 3 ∧ n < 3 := by
    by_cases h5 : how = 5
    · rw [if_pos h5]; omega
    by_cases h2 : how = 2
    · rw [if_neg h5, if_pos h2]; omega
    · rw [if_neg h5, if_neg h2]; omega
  obtain ⟨m, hm⟩ : ∃ m, m = (if how = 5 then (1 : Int) else if how = 2 then 3 else 0) := ⟨_, rfl⟩
  rw [← hm] at NE hd
  rw [HV.out]
  unfold coA
  have HA : Hid (∀ o o', Below w.heap.size w ((w.alloc o).alloc o')) := Lib.hid fun o o' => ((Below.refl _ _).alloc (Nat.le_refl _) _).alloc (by simp) _
  clear hm h0 hn
  rcases hd with rfl | ⟨rfl, hl⟩ | ⟨rfl, hl⟩
  · go_enter Tryd.func25, Tryd.ntmps25
    go_wp2_with (go_at_call 27; refine (NE _).mono ?_; rintro e w' ⟨rfl, rfl⟩)
    refine bodyPost_ret (v := .agg #[.int .u8 c.kind, .int .u32 c.n]) (by simp [results, Tryd.results25, go_sem]) rfl ?_
    exact ⟨rfl, HA.out _ _⟩
  · have g : decide ((n : Int) < 1) = true := by simp; omega
    go_enter Tryd.func25, Tryd.ntmps25
    go_wp2_with (go_at_call 27; refine (NE _).mono ?_; rintro e w' ⟨rfl, rfl⟩)
    refine bodyPost_ret (v := .agg #[.int .u8 c.kind, .int .u32 c.n]) (by simp [results, Tryd.results25, go_sem]) rfl ?_
    exact ⟨rfl, HA.out _ _⟩
  · have g : decide ((n : Int) < 3) = true := by simp; omega
    go_enter Tryd.func25, Tryd.ntmps25
    go_wp2_with (go_at_call 27; refine (NE _).mono ?_; rintro e w' ⟨rfl, rfl⟩)
    refine bodyPost_ret (v := .agg #[.int .u8 c.kind, .int .u32 c.n]) (by simp [results, Tryd.results25, go_sem]) rfl ?_
    exact ⟨rfl, HA.out _ _⟩
theorem told_any (c : Co) (vs : List Int) (A : Option Addr) (n k : Nat) (w : World) (hR : RowL w A vs) (hn : n = vs.length) (hl : n ≤ k) (hk : k ≤ 9223372036854775807) (how : Int) :
    Calls Tryd.prog 25 #[coA c, .int .i64 how, .slice A n k] w fun e w' => e = .returned (coA (toldV c how vs)) ∧ Below w.heap.size w w' := by
  by_cases h5 : how = 5 ∧ 1 ≤ n
  · obtain ⟨a, rfl, _⟩ := hR 0 (by omega)
    rw [h5.1]
    exact told_five c vs a n k w hR hn hl hk h5.2
  by_cases h2 : how = 2 ∧ 3 ≤ n
  · obtain ⟨a, rfl, _⟩ := hR 0 (by omega)
    rw [h2.1]
    exact told_three c vs a n k w hR hn hl hk h2.2
  · exact told_few c vs A n k w hn how ⟨h5, h2⟩
end Go.Proofs.YtkenaccnmmmooaaDoor.A10
