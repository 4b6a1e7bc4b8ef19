/- Layer 8, plain mathematics: characters that are printed: their bytes, and what a stream of them says. -/
import Derived.Test.YtfekjlajagoooaaDoorEvM
import Derived.Test.YtfekjlajagoooaaDoorE5DcP
import Derived.Lib.MapLaws
set_option linter.unusedVariables false
namespace Go.Proofs.YtfekjlajagoooaaDoor.Ev
open Go.Lib

/-- A character's bytes. -/
def encR (r : Nat) : List UInt8 := encodeRune (r : Int)
def textR (rs : List Nat) : List UInt8 := rs.flatMap encR
theorem enc_eq (r : Nat) : encR r = encodeRune (r : Int) := by unfold encR; rfl

theorem val_ok (r : Nat) (h : r < 55296 ∨ 57344 ≤ r) (h2 : r ≤ 1114111) : Utf8.valid (r : Int) = true := by simp [Utf8.valid]; omega
theorem enc_a (r : Nat) (c1 : r < 128) : (Utf8.encode (r : Int)).data.toList = [UInt8.ofNat r] := by
  have v := val_ok r (by omega) (by omega)
  simp [Utf8.encode, v, c1]
theorem enc_b (r : Nat) (c1 : ¬ r < 128) (c2 : r < 2048) : (Utf8.encode (r : Int)).data.toList = [UInt8.ofNat (192 + r / 64), UInt8.ofNat (128 + r % 64)] := by
  have v := val_ok r (by omega) (by omega)
  simp [Utf8.encode, v, c1, c2]
theorem enc_c (r : Nat) (c2 : ¬ r < 2048) (c3 : r < 65536) (hv : r < 55296 ∨ 57344 ≤ r) : (Utf8.encode (r : Int)).data.toList = [UInt8.ofNat (224 + r / 4096), UInt8.ofNat (128 + r / 64 % 64), UInt8.ofNat (128 + r % 64)] := by
  have v := val_ok r hv (by omega)
  have c1 : ¬ r < 128 := by omega
  simp [Utf8.encode, v, c1, c2, c3]
theorem enc_d (r : Nat) (c3 : ¬ r < 65536) (c4 : r ≤ 1114111) : (Utf8.encode (r : Int)).data.toList = [UInt8.ofNat (240 + r / 262144), UInt8.ofNat (128 + r / 4096 % 64), UInt8.ofNat (128 + r / 64 % 64), UInt8.ofNat (128 + r % 64)] := by
  have v := val_ok r (by omega) c4
  have c1 : ¬ r < 128 := by omega
  have c2 : ¬ r < 2048 := by omega
  simp [Utf8.encode, v, c1, c2, c3]
theorem enc_e (r : Nat) (h : (55296 ≤ r ∧ r ≤ 57343) ∨ 1114111 < r) : (Utf8.encode (r : Int)).data.toList = [239, 191, 189] := by
  have v : Utf8.valid (r : Int) = false := by simp [Utf8.valid]; omega
  simp [Utf8.encode, v, Utf8.runeError]
theorem byte_of {z : Int} {n : Nat} (h : z.toNat = n) : z.toNat.toUInt8 = UInt8.ofNat n := by rw [h]
/-- What string(r) is. -/
theorem encode_text (r : Nat) : (Utf8.encode (r : Int)).data.toList = encR r := by
  rw [enc_eq, encodeRune]
  by_cases c1 : r < 128
  · rw [enc_a r c1, encodeRuneZ_one (by omega) (by omega)]
    simp only [List.map_cons, List.map_nil]
    rw [byte_of (n := r) (by omega)]
  by_cases c2 : r < 2048
  · rw [enc_b r c1 c2, encodeRuneZ_two (by omega) (by omega)]
    simp only [List.map_cons, List.map_nil]
    rw [byte_of (n := 192 + r / 64) (by omega), byte_of (n := 128 + r % 64) (by omega)]
  by_cases hb : (55296 ≤ r ∧ r ≤ 57343) ∨ 1114111 < r
  · rw [enc_e r hb, encodeRuneZ_bad (by omega)]
    rfl
  by_cases c3 : r < 65536
  · rw [enc_c r c2 c3 (by omega), encodeRuneZ_three (by omega)]
    simp only [List.map_cons, List.map_nil]
    rw [byte_of (n := 224 + r / 4096) (by omega), byte_of (n := 128 + r / 64 % 64) (by omega), byte_of (n := 128 + r % 64) (by omega)]
  · rw [enc_d r c3 (by omega), encodeRuneZ_four (by omega) (by omega)]
    simp only [List.map_cons, List.map_nil]
    rw [byte_of (n := 240 + r / 262144) (by omega), byte_of (n := 128 + r / 4096 % 64) (by omega), byte_of (n := 128 + r / 64 % 64) (by omega), byte_of (n := 128 + r % 64) (by omega)]

/-- No control byte. -/
def seenB (b : UInt8) : Bool := decide (32 ≤ b.toNat) && decide (b.toNat ≠ 127)
theorem enc_seen (r : Nat) (h : 32 ≤ r) (h2 : r ≠ 127) : ∀ b ∈ encR r, seenB b = true := by
  intro b hb
  rw [enc_eq, encodeRune] at hb
  obtain ⟨z, hz, rfl⟩ := List.mem_map.1 hb
  have hk := encodeRuneZ_byte r z hz
  have : (32 ≤ z ∧ z ≠ 127) := by
    by_cases c1 : r < 128
    · rw [encodeRuneZ_one (by omega) (by omega)] at hz
      have := List.mem_singleton.1 hz
      omega
    by_cases c2 : r < 2048
    · rw [encodeRuneZ_two (by omega) (by omega)] at hz
      simp at hz
      omega
    by_cases hb : (55296 ≤ r ∧ r ≤ 57343) ∨ 1114111 < r
    · rw [encodeRuneZ_bad (by omega)] at hz
      simp at hz
      omega
    by_cases c3 : r < 65536
    · rw [encodeRuneZ_three (by omega)] at hz
      simp at hz
      omega
    · rw [encodeRuneZ_four (by omega) (by omega)] at hz
      simp at hz
      omega
  have e : z.toNat.toUInt8.toNat = z.toNat := by simp; omega
  simp [seenB]
  omega

/-- A character whose bytes tell just it. -/
structure PlainR (r : Nat) : Prop where
  low : 32 ≤ r
  del : r ≠ 127
  told : D5.Dec.runsD [] (encR r) = ([r], [])

/-- What Go's loop finds, where it is a character that is not the mark. -/
theorem plain_of {l : List UInt8} {r d : Nat} (hl : 1 ≤ l.length) (hc : D5.Dec.charB l = true) (hd : D5.Dec.dec l = (r, d)) (h1 : 32 ≤ r) (h2 : r ≠ 127) (h3 : r ≠ 65533) : PlainR r ∧ (encR r).length = d := by
  obtain ⟨t1, t2, t3, _⟩ := D5.Dec.char_told hl hc
  have e : decodeL l = D5.Dec.dec l := by rw [decodeL_N]; rfl
  have hne : l ≠ [] := fun h => by subst h; simp at hl
  have hq := encode_decode l hne (by rw [e, hd]; intro h; exact h3 h.1)
  rw [e, hd] at hq
  rw [hd] at t1 t2
  dsimp only at hq t1 t2
  refine ⟨⟨h1, h2, ?_⟩, ?_⟩
  · rw [enc_eq, hq, t1]
  · rw [enc_eq, hq, List.length_take]
    omega

set_option maxRecDepth 100000 in
theorem grid_seen : ∀ c, c < 256 → (decide (32 ≤ c) && decide (c ≠ 127) && !(actN 0 c == 1 && toN 0 c == 0)) = false := by decide +kernel
theorem seen_step {q : Q} (hq : q.st = 0) {b : UInt8} (hb : seenB b = true) : stepE q b = ((D5.Dec.comes q.kept b).1.map printE, { q with kept := (D5.Dec.comes q.kept b).2 }) := by
  have g := grid_seen b.toNat b.toNat_lt
  have hb2 : (decide (32 ≤ b.toNat) && decide (b.toNat ≠ 127)) = true := hb
  rw [hb2, Bool.true_and] at g
  have hg : actN 0 b.toNat = 1 ∧ toN 0 b.toNat = 0 := by simpa using g
  obtain ⟨st, kept, list, mids, final, text⟩ := q
  dsimp only at hq
  subst hq
  unfold stepE
  dsimp only
  rw [hg.1, hg.2]
  rfl
theorem seen_run {l : List UInt8} (hl : ∀ b ∈ l, seenB b = true) : ∀ {q : Q}, q.st = 0 → runE q l = ((D5.Dec.runsD q.kept l).1.map printE, { q with kept := (D5.Dec.runsD q.kept l).2 }) := by
  induction l with
  | nil => intro q _; rfl
  | cons b l ih =>
    intro q hq
    have h1 := seen_step hq (hl b (List.mem_cons_self ..))
    have h2 := ih (fun x hx => hl x (List.mem_cons_of_mem _ hx)) (q := (stepE q b).2) (by rw [h1]; exact hq)
    show ((stepE q b).1 ++ (runE (stepE q b).2 l).1, (runE (stepE q b).2 l).2) = _
    rw [h2, h1]
    show ((D5.Dec.comes q.kept b).1.map printE ++ (D5.Dec.runsD (D5.Dec.comes q.kept b).2 l).1.map printE, _) = (((D5.Dec.comes q.kept b).1 ++ (D5.Dec.runsD (D5.Dec.comes q.kept b).2 l).1).map printE, _)
    rw [List.map_append]
    rfl
/-- A stream of them: each is told as Print, and nothing else. -/
theorem plain_run : ∀ {rs : List Nat}, (∀ r ∈ rs, PlainR r) → runE q0 (textR rs) = (rs.map printE, q0)
  | [], _ => rfl
  | r :: rs, h => by
    have hr := h r (List.mem_cons_self ..)
    have h1 : runE q0 (encR r) = ([printE r], q0) := by
      rw [seen_run (enc_seen r hr.low hr.del) rfl, show q0.kept = [] from rfl, hr.told]
      rfl
    have e : textR (r :: rs) = encR r ++ textR rs := by simp [textR]
    rw [e, runE_append, h1]
    show ([printE r] ++ (runE q0 (textR rs)).1, (runE q0 (textR rs)).2) = _
    rw [plain_run fun x hx => h x (List.mem_cons_of_mem _ hx)]
    rfl
theorem text_snoc (rs : List Nat) (r : Nat) : textR (rs ++ [r]) = textR rs ++ encR r := by simp [textR]
theorem text_len : ∀ {rs : List Nat}, rs.length ≤ (textR rs).length
  | [] => by simp
  | r :: rs => by
    have h1 := encodeRuneZ_length (r : Int)
    have h2 : (encR r).length = (encodeRuneZ (r : Int)).length := by rw [enc_eq, encodeRune, List.length_map]
    have e : textR (r :: rs) = encR r ++ textR rs := by simp [textR]
    have h3 := text_len (rs := rs)
    rw [e, List.length_append, List.length_cons]
    omega
end Go.Proofs.YtfekjlajagoooaaDoor.Ev
