/- Layer 5, plain mathematics: what a decoder tells of Go's own characters: of a character it tells just that, behind whatever is kept; of a byte that is none at most one more than Go's own loop. -/
import Derived.Test.YtkenaccnmmmooaaDoorE5DcM
set_option linter.unusedVariables false
namespace Go.Proofs.YtkenaccnmmmooaaDoor.D5.Dec
open Go.Lib

theorem low_range {b : Nat} (h : firstT b < 240) : 2 ≤ firstT b % 8 ∧ firstT b % 8 ≤ 4 ∧ 128 ≤ accLo (firstT b / 16) ∧ accHi (firstT b / 16) ≤ 191 ∧ 194 ≤ b ∧ b < 245 := by
  have h1 : 194 ≤ b ∧ b < 245 := by rcases firstT_low h with h | h | h | h | h | h | h <;> omega
  rcases first_nine b with e | e | e | e | e | e | e | e | e <;> rw [e] at h ⊢ <;> simp [accLo, accHi] at h ⊢ <;> exact h1

theorem dec_low {l : List UInt8} (hl : 1 ≤ l.length) (h : firstT (bt l 0) < 240) :
    dec l = slowN l.length (bt l 0) (bt l 1) (bt l 2) (bt l 3) (firstT (bt l 0) % 8) (accLo (firstT (bt l 0) / 16)) (accHi (firstT (bt l 0) / 16)) :=
  (slow_eq _ _ _ _ _ hl (bt_lt l 1) (bt_lt l 2) (bt_lt l 3) h).symm
theorem dec_bad {l : List UInt8} (h : firstT (bt l 0) = 241) : dec l = (65533, 1) := bad_eq _ _ _ _ _ (bt_lt l 0) h
theorem dec_ascii {l : List UInt8} (h : firstT (bt l 0) = 240) : dec l = (bt l 0, 1) := ascii_eq _ _ _ _ _ h

/-- The three kinds of a first byte. -/
theorem first_kinds (b : Nat) : firstT b = 240 ∨ firstT b = 241 ∨ firstT b < 240 := by
  rcases first_nine b with e | e | e | e | e | e | e | e | e <;> omega

/-- No byte that goes on with a character. -/
def fresh (b : UInt8) : Prop := b.toNat < 128 ∨ 192 ≤ b.toNat

theorem ascii_lt {b : Nat} (h : firstT b = 240) : b < 128 := by
  unfold firstT at h
  repeat' split at h
  all_goals omega
theorem lt_ascii {b : Nat} (h : b < 128) : firstT b = 240 := by simp [firstT, h]

/-- What is kept begins with a lead byte. -/
theorem kept_low {x : UInt8} {k : List UInt8} (h : fullB (x :: k) = false) : firstT x.toNat < 240 := by
  rcases first_kinds x.toNat with e | e | e
  · have : fullB (x :: k) = true := by
      show (true && fullN (k.length + 1) x.toNat _ _) = true
      rw [fullN_long (by rw [e]; omega)]; rfl
    rw [this] at h; cases h
  · have : fullB (x :: k) = true := by
      show (true && fullN (k.length + 1) x.toNat _ _) = true
      rw [fullN_long (by rw [e]; omega)]; rfl
    rw [this] at h; cases h
  · exact e

theorem full_1 (x : UInt8) : fullB [x] = decide (firstT x.toNat % 8 ≤ 1) := by
  show (true && fullN 1 x.toNat 0 0) = _
  simp [fullN]
theorem full_2 (x y : UInt8) : fullB [x, y] = (decide (firstT x.toNat % 8 ≤ 2) || (decide (y.toNat < accLo (firstT x.toNat / 16)) || decide (accHi (firstT x.toNat / 16) < y.toNat))) := by
  show (true && fullN 2 x.toNat y.toNat 0) = _
  simp [fullN]
theorem full_3 (x y z : UInt8) : fullB [x, y, z] = (decide (firstT x.toNat % 8 ≤ 3) || (decide (y.toNat < accLo (firstT x.toNat / 16)) || decide (accHi (firstT x.toNat / 16) < y.toNat)) || (decide (z.toNat < 128) || decide (191 < z.toNat))) := by
  show (true && fullN 3 x.toNat y.toNat z.toNat) = _
  simp [fullN]
theorem full_4 (x y z u : UInt8) : fullB [x, y, z, u] = true := by
  show (true && fullN 4 x.toNat y.toNat z.toNat) = _
  rw [fullN_long (first_low _).1]; rfl

/-- A fresh byte behind what is kept is no character with it. -/
theorem fresh_cuts {k : List UInt8} (hk : fullB k = false) (hn : k ≠ []) {b : UInt8} (hb : fresh b) : fullB (k ++ [b]) = true ∧ (dec (k ++ [b])).2 ≠ (k ++ [b]).length := by
  have h3 := full_length hk
  match k, hn, h3 with
  | [x], _, _ =>
    have hl := kept_low hk
    obtain ⟨r1, r2, r3, r4, r5⟩ := low_range hl
    have d := dec_low (l := [x, b]) (by simp) hl
    refine ⟨?_, ?_⟩
    · show fullB [x, b] = true
      rw [full_2]
      rcases hb with hb | hb
      · rw [decide_eq_true (p := b.toNat < _) (by omega)]; simp
      · rw [decide_eq_true (p := _ < b.toNat) (by omega)]; simp
    · show (dec [x, b]).2 ≠ 2
      rw [d]
      show (slowN 2 x.toNat b.toNat 0 0 (firstT x.toNat % 8) (accLo (firstT x.toNat / 16)) (accHi (firstT x.toNat / 16))).2 ≠ 2
      unfold slowN
      rcases hb with hb | hb
      · rw [if_pos (c := b.toNat < _ ∨ _) (by omega)]; split <;> simp
      · rw [if_pos (c := b.toNat < _ ∨ _) (by omega)]; split <;> simp
  | [x, y], _, _ =>
    have hl := kept_low hk
    obtain ⟨r1, r2, r3, r4, r5⟩ := low_range hl
    have d := dec_low (l := [x, y, b]) (by simp) hl
    refine ⟨?_, ?_⟩
    · show fullB [x, y, b] = true
      rw [full_3]
      rcases hb with hb | hb
      · rw [decide_eq_true (p := b.toNat < 128) (by omega)]; simp
      · rw [decide_eq_true (p := 191 < b.toNat) (by omega)]; simp
    · show (dec [x, y, b]).2 ≠ 3
      rw [d]
      show (slowN 3 x.toNat y.toNat b.toNat 0 (firstT x.toNat % 8) (accLo (firstT x.toNat / 16)) (accHi (firstT x.toNat / 16))).2 ≠ 3
      unfold slowN
      rw [if_pos (c := b.toNat < 128 ∨ _) (by rcases hb with hb | hb <;> omega)]
      repeat' split
      all_goals simp
  | [x, y, z], _, _ =>
    have hl := kept_low hk
    obtain ⟨r1, r2, r3, r4, r5⟩ := low_range hl
    have d := dec_low (l := [x, y, z, b]) (by simp) hl
    refine ⟨full_4 x y z b, ?_⟩
    show (dec [x, y, z, b]).2 ≠ 4
    rw [d]
    show (slowN 4 x.toNat y.toNat z.toNat b.toNat (firstT x.toNat % 8) (accLo (firstT x.toNat / 16)) (accHi (firstT x.toNat / 16))).2 ≠ 4
    unfold slowN
    rw [if_pos (c := b.toNat < 128 ∨ _) (by rcases hb with hb | hb <;> omega)]
    repeat' split
    all_goals simp

theorem comes_fresh {k : List UInt8} (hk : fullB k = false) {b : UInt8} (hb : fresh b) : comes k b = (endsD k ++ (comes [] b).1, (comes [] b).2) := by
  by_cases hn : k = []
  · subst hn; simp [endsD]
  · obtain ⟨h1, h2⟩ := fresh_cuts hk hn hb
    rw [comes_nil]
    unfold comes
    rw [if_neg (by simp [h1]), if_neg h2]
    simp [endsD, hn]

theorem runs_fresh {k : List UInt8} (hk : fullB k = false) {b : UInt8} (hb : fresh b) (l : List UInt8) : runsD k (b :: l) = (endsD k ++ (runsD [] (b :: l)).1, (runsD [] (b :: l)).2) := by
  simp only [runsD]
  rw [comes_fresh hk hb]
  simp

/-- Go's own: a character stands at the head. -/
def charB (l : List UInt8) : Bool := decide (bt l 0 < 128) || decide ((dec l).2 ≠ 1)

/-- Of a character just that is told. -/
theorem char_told {l : List UInt8} (hl : 1 ≤ l.length) (h : charB l = true) : runsD [] (l.take (dec l).2) = ([(dec l).1], []) ∧ (dec l).2 ≤ l.length ∧ 1 ≤ (dec l).2 ∧ ∃ b m, l = b :: m ∧ fresh b := by
  obtain ⟨x, m, rfl⟩ : ∃ x m, l = x :: m := by cases l with | nil => simp at hl | cons x m => exact ⟨x, m, rfl⟩
  rcases first_kinds x.toNat with e | e | e
  · have d := dec_ascii (l := x :: m) e
    have dx := dec_ascii (l := [x]) e
    rw [d]
    refine ⟨?_, by simp, Nat.le_refl _, x, m, rfl, Or.inl (ascii_lt e)⟩
    show runsD [] [x] = ([x.toNat], [])
    rw [runs_one, comes_nil]
    unfold anew
    rw [full_1, e, if_pos (by simp), dx]
    rfl
  · have d := dec_bad (l := x :: m) e
    exfalso
    have hx : ¬ x.toNat < 128 := fun h => by rw [lt_ascii h] at e; omega
    have h1 : bt (x :: m) 0 = x.toNat := rfl
    rw [charB, d, h1] at h
    simp [hx] at h
  · have d := dec_low (l := x :: m) (by simp) e
    obtain ⟨r1, r2, r3, r4, r5, _⟩ := low_range e
    have hx : ¬ x.toNat < 128 := by omega
    have hne : (dec (x :: m)).2 ≠ 1 := by
      have h1 : bt (x :: m) 0 = x.toNat := rfl
      rw [charB, h1] at h
      simpa [hx] using h
    have hf : fresh x := Or.inr (by omega)
    rw [d] at hne ⊢
    have b0 : bt (x :: m) 0 = x.toNat := rfl
    rw [b0] at hne ⊢
    obtain ⟨n, hn⟩ : ∃ n, n = (x :: m).length := ⟨_, rfl⟩
    obtain ⟨sz, hsz⟩ : ∃ sz, sz = firstT x.toNat % 8 := ⟨_, rfl⟩
    obtain ⟨lo, hlo⟩ : ∃ lo, lo = accLo (firstT x.toNat / 16) := ⟨_, rfl⟩
    obtain ⟨hi, hhi⟩ : ∃ hi, hi = accHi (firstT x.toNat / 16) := ⟨_, rfl⟩
    rw [← hn, ← hsz, ← hlo, ← hhi] at hne ⊢
    have c1 : comes [] x = ([], [x]) := by
      rw [comes_nil]
      unfold anew
      rw [full_1, ← hsz, if_neg (by simp; omega)]
    by_cases g1 : n < sz
    · simp [slowN, g1] at hne
    by_cases g2 : bt (x :: m) 1 < lo ∨ hi < bt (x :: m) 1
    · simp [slowN, g1, g2] at hne
    obtain ⟨y, m, rfl⟩ : ∃ y m', m = y :: m' := by cases m with | nil => simp at hn; omega | cons y m => exact ⟨y, m, rfl⟩
    have b1 : bt (x :: y :: m) 1 = y.toNat := rfl
    rw [b1] at g2 hne ⊢
    by_cases g3 : sz ≤ 2
    · have hv : slowN n x.toNat y.toNat (bt (x :: y :: m) 2) (bt (x :: y :: m) 3) sz lo hi = (x.toNat % 32 * 64 + y.toNat % 64, 2) := by simp [slowN, g1, g2, g3]
      rw [hv]
      refine ⟨?_, (show 2 ≤ n by omega), (show 1 ≤ 2 by omega), x, _, rfl, hf⟩
      show runsD [] [x, y] = _
      have d2 := dec_low (l := [x, y]) (by simp) e
      have dv : dec [x, y] = (x.toNat % 32 * 64 + y.toNat % 64, 2) := by
        rw [d2]
        show slowN 2 x.toNat y.toNat 0 0 (firstT x.toNat % 8) (accLo (firstT x.toNat / 16)) (accHi (firstT x.toNat / 16)) = _
        rw [← hsz, ← hlo, ← hhi]
        have g1' : ¬ 2 < sz := by omega
        simp [slowN, g1', g2, g3]
      have c2 : comes [x] y = ([x.toNat % 32 * 64 + y.toNat % 64], []) := by
        unfold comes
        show (if fullB [x, y] = false then _ else _) = _
        rw [full_2, ← hsz, decide_eq_true g3, if_neg (by simp)]
        show (if (dec [x, y]).2 = 2 then _ else _) = _
        rw [dv]
        simp
        exact congrArg Prod.fst dv
      simp [runsD, c1, c2]
    · by_cases g4 : bt (x :: y :: m) 2 < 128 ∨ 191 < bt (x :: y :: m) 2
      · simp [slowN, g1, g2, g3, g4] at hne
      obtain ⟨z, m, rfl⟩ : ∃ z m', m = z :: m' := by cases m with | nil => simp at hn; omega | cons z m => exact ⟨z, m, rfl⟩
      have b2 : bt (x :: y :: z :: m) 2 = z.toNat := rfl
      rw [b2] at g4 hne ⊢
      have c2 : comes [x] y = ([], [x, y]) := by
        unfold comes
        show (if fullB [x, y] = false then _ else _) = _
        have : fullB [x, y] = false := by
          rw [full_2, ← hsz, ← hlo, ← hhi, decide_eq_false g3, decide_eq_false (p := y.toNat < lo) (by omega), decide_eq_false (p := hi < y.toNat) (by omega)]; rfl
        rw [if_pos this]
        rfl
      by_cases g5 : sz ≤ 3
      · have hv : slowN n x.toNat y.toNat z.toNat (bt (x :: y :: z :: m) 3) sz lo hi = (x.toNat % 16 * 4096 + y.toNat % 64 * 64 + z.toNat % 64, 3) := by simp [slowN, g1, g2, g3, g4, g5]
        rw [hv]
        refine ⟨?_, (show 3 ≤ n by omega), (show 1 ≤ 3 by omega), x, _, rfl, hf⟩
        show runsD [] [x, y, z] = _
        have d3 := dec_low (l := [x, y, z]) (by simp) e
        have dv : dec [x, y, z] = (x.toNat % 16 * 4096 + y.toNat % 64 * 64 + z.toNat % 64, 3) := by
          rw [d3]
          show slowN 3 x.toNat y.toNat z.toNat 0 (firstT x.toNat % 8) (accLo (firstT x.toNat / 16)) (accHi (firstT x.toNat / 16)) = _
          rw [← hsz, ← hlo, ← hhi]
          have g1' : ¬ 3 < sz := by omega
          simp [slowN, g1', g2, g3, g4, g5]
        have c3 : comes [x, y] z = ([x.toNat % 16 * 4096 + y.toNat % 64 * 64 + z.toNat % 64], []) := by
          unfold comes
          show (if fullB [x, y, z] = false then _ else _) = _
          rw [full_3, ← hsz, decide_eq_true g5, if_neg (by simp)]
          show (if (dec [x, y, z]).2 = 3 then _ else _) = _
          rw [dv]
          simp
          exact congrArg Prod.fst dv
        simp [runsD, c1, c2, c3]
      · by_cases g6 : bt (x :: y :: z :: m) 3 < 128 ∨ 191 < bt (x :: y :: z :: m) 3
        · simp [slowN, g1, g2, g3, g4, g5, g6] at hne
        obtain ⟨u, m, rfl⟩ : ∃ u m', m = u :: m' := by cases m with | nil => simp at hn; omega | cons u m => exact ⟨u, m, rfl⟩
        have b3 : bt (x :: y :: z :: u :: m) 3 = u.toNat := rfl
        rw [b3] at g6 hne ⊢
        have c3 : comes [x, y] z = ([], [x, y, z]) := by
          unfold comes
          show (if fullB [x, y, z] = false then _ else _) = _
          have : fullB [x, y, z] = false := by
            rw [full_3, ← hsz, ← hlo, ← hhi, decide_eq_false g5, decide_eq_false (p := y.toNat < lo) (by omega), decide_eq_false (p := hi < y.toNat) (by omega), decide_eq_false (p := z.toNat < 128) (by omega), decide_eq_false (p := 191 < z.toNat) (by omega)]; rfl
          rw [if_pos this]
          rfl
        have hv : slowN n x.toNat y.toNat z.toNat u.toNat sz lo hi = (x.toNat % 8 * 262144 + y.toNat % 64 * 4096 + z.toNat % 64 * 64 + u.toNat % 64, 4) := by simp [slowN, g1, g2, g3, g4, g5, g6]
        rw [hv]
        refine ⟨?_, (show 4 ≤ n by omega), (show 1 ≤ 4 by omega), x, _, rfl, hf⟩
        show runsD [] [x, y, z, u] = _
        have d4 := dec_low (l := [x, y, z, u]) (by simp) e
        have dv : dec [x, y, z, u] = (x.toNat % 8 * 262144 + y.toNat % 64 * 4096 + z.toNat % 64 * 64 + u.toNat % 64, 4) := by
          rw [d4]
          show slowN 4 x.toNat y.toNat z.toNat u.toNat (firstT x.toNat % 8) (accLo (firstT x.toNat / 16)) (accHi (firstT x.toNat / 16)) = _
          rw [← hsz, ← hlo, ← hhi]
          have g1' : ¬ 4 < sz := by omega
          simp [slowN, g1', g2, g3, g4, g5, g6]
        have c4 : comes [x, y, z] u = ([x.toNat % 8 * 262144 + y.toNat % 64 * 4096 + z.toNat % 64 * 64 + u.toNat % 64], []) := by
          unfold comes
          show (if fullB [x, y, z, u] = false then _ else _) = _
          rw [full_4, if_neg (by simp)]
          show (if (dec [x, y, z, u]).2 = 4 then _ else _) = _
          rw [dv]
          simp
          exact congrArg Prod.fst dv
        simp [runsD, c1, c2, c3, c4]

theorem char_runs {k l : List UInt8} (hk : fullB k = false) (hl : 1 ≤ l.length) (h : charB l = true) : runsD k (l.take (dec l).2) = (endsD k ++ [(dec l).1], []) := by
  obtain ⟨h1, h2, h3, b, m, rfl, hb⟩ := char_told hl h
  obtain ⟨q, hq⟩ : ∃ q, (dec (b :: m)).2 = q + 1 := ⟨(dec (b :: m)).2 - 1, by omega⟩
  rw [hq] at h1 ⊢
  rw [List.take_succ_cons] at h1 ⊢
  rw [runs_fresh hk hb, h1]

/-- What is no character is one byte, and Go's mark. -/
theorem bad_dec {l : List UInt8} (hl : 1 ≤ l.length) (h : charB l = false) : dec l = (65533, 1) := by
  simp only [charB, Bool.or_eq_false_iff, decide_eq_false_iff_not, Decidable.not_not] at h
  rcases first_kinds (bt l 0) with e | e | e
  · exact absurd (ascii_lt e) h.1
  · exact dec_bad e
  · have d := dec_low hl e
    have h2 := h.2
    rw [d] at h2 ⊢
    unfold slowN at h2 ⊢
    repeat' split at h2
    all_goals first
      | (simp at h2; done)
      | (repeat' split
         all_goals first | rfl | (exfalso; omega))

theorem comes_ends (k : List UInt8) (b : UInt8) : (comes k b).1.length + (endsD (comes k b).2).length ≤ (endsD k).length + 1 := by
  have ha : (anew b).1.length + (endsD (anew b).2).length = 1 := by
    unfold anew
    split <;> simp [endsD]
  by_cases hk : k = []
  · subst hk
    rw [comes_nil]
    simp [endsD] at ha ⊢
    omega
  · have h1 : (endsD k).length = 1 := by simp [endsD, hk]
    unfold comes
    split
    · simp [endsD, hk]
    · split
      · simp [endsD]
      · simp only [List.length_cons]
        omega

end Go.Proofs.YtkenaccnmmmooaaDoor.D5.Dec
