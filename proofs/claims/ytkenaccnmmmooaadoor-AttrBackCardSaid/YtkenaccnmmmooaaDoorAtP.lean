/- Layer 10: what a stream says of an attribute's bytes: one control sequence, whose parameters are these. Plain mathematics, nothing of the program. -/
import Derived.Test.YtkenaccnmmmooaaDoorEvM
import Derived.Test.YtkenaccnmmmooaaDoorAtM
set_option linter.unusedVariables false
namespace Go.Proofs.YtkenaccnmmmooaaDoor.Sgr
open Ev P7.Par

/-- So many parameters are told, the last one being open. -/
def Done (o : Option PS) (L : List (List Nat)) : Prop := ∃ ps one n, o = some ⟨ps, one, n, 0⟩ ∧ ps ++ [one ++ [n]] = L
theorem Done.list {o : Option PS} {L : List (List Nat)} (h : Done o L) : listP o = L := by
  obtain ⟨ps, one, n, rfl, e⟩ := h
  exact e
theorem done_flag {o : Option PS} {L : List (List Nat)} (h : Done o L) (hl : L.length < 16) (m : Nat) (hm : m ≤ 9999) : Done (runP o (59 :: Lib.decDigits m)) (L ++ [[m]]) := by
  obtain ⟨ps, one, n, rfl, e⟩ := h
  have hps : ps.length + 1 < 16 := by
    have h1 : (ps ++ [one ++ [n]]).length = L.length := by rw [e]
    rw [List.length_append] at h1
    simp at h1
    omega
  have h1 : runP (some ⟨ps, one, n, 0⟩) (59 :: Lib.decDigits m) = runP (some ⟨ps ++ [one ++ [n]], [], 0, 0⟩) (Lib.decDigits m) := by
    show runP (comes (some ⟨ps, one, n, 0⟩) 59) (Lib.decDigits m) = _
    congr 1
    unfold comes step1
    simp [inB, hps]
  rw [h1, run_digits _ _ _ hm]
  exact ⟨_, _, _, rfl, by rw [e]; rfl⟩
theorem done_colon {o : Option PS} {L : List (List Nat)} {p : List Nat} (h : Done o (L ++ [p])) (hp : p.length < 8) : ∃ ps, runP o [58] = some ⟨ps, p, 0, 0⟩ ∧ ps = L := by
  obtain ⟨ps, one, n, rfl, e⟩ := h
  obtain ⟨e1, e2⟩ := List.append_inj' e rfl
  have e3 : one ++ [n] = p := List.singleton_inj.1 e2
  have hone : one.length + 1 < 8 := by rw [← e3] at hp; simpa using hp
  refine ⟨ps, ?_, e1⟩
  show comes (some ⟨ps, one, n, 0⟩) 58 = _
  unfold comes step1
  simp [inB, hone, e3]
theorem done_part {o : Option PS} {L : List (List Nat)} {p : List Nat} (h : Done o (L ++ [p])) (hp : p.length < 8) (m : Nat) (hm : m ≤ 9999) : Done (runP o (58 :: Lib.decDigits m)) (L ++ [p ++ [m]]) := by
  obtain ⟨ps, h1, rfl⟩ := done_colon h hp
  show Done (runP o ([58] ++ Lib.decDigits m)) _
  rw [runP_append, h1, run_digits _ _ _ hm]
  exact ⟨_, _, _, rfl, rfl⟩
theorem done_none {o : Option PS} {L : List (List Nat)} {p : List Nat} (h : Done o (L ++ [p])) (hp : p.length < 8) : Done (runP o [58]) (L ++ [p ++ [0]]) := by
  obtain ⟨ps, h1, rfl⟩ := done_colon h hp
  rw [h1]
  exact ⟨_, _, _, rfl, rfl⟩
theorem done_flags : ∀ (l : List Nat) {o : Option PS} {L : List (List Nat)}, Done o L → L.length + l.length ≤ 16 → (∀ n ∈ l, n ≤ 9999) → Done (runP o (flagT l)) (L ++ l.map fun n => [n])
  | [], o, L, h, _, _ => by simpa [flagT, runP] using h
  | n :: l, o, L, h, hl, hn => by
    have h1 := done_flag h (by simp at hl; omega) n (hn n (List.mem_cons_self ..))
    have h2 := done_flags l h1 (by simp at hl ⊢; omega) fun x hx => hn x (List.mem_cons_of_mem _ hx)
    have e : flagT (n :: l) = (59 :: Lib.decDigits n) ++ flagT l := by simp [flagT]
    rw [e, runP_append]
    simpa using h2
theorem done_col {o : Option PS} {L : List (List Nat)} (h : Done o L) (hl : L.length < 16) (n : Nat) (hn : n ≤ 9999) (c : Co) (hc : colB c = true) : Done (runP o (colT n c)) (L ++ colP n c) := by
  have d5 : Lib.decDigits 5 = [53] := Lib.decDigits_one (by decide)
  have d2 : Lib.decDigits 2 = [50] := Lib.decDigits_one (by decide)
  unfold colT colP
  by_cases h1 : c.kind = 1
  · rw [if_pos h1, if_pos h1]
    have hm : c.n ≤ 255 := by
      unfold colB at hc
      rw [if_neg (by omega), if_pos h1] at hc
      exact of_decide_eq_true hc
    have s1 := done_flag h hl n hn
    have s2 := done_part s1 (by simp) 5 (by decide)
    have s3 := done_part s2 (by simp) c.n (by omega)
    have e : 59 :: Lib.decDigits n ++ [58, 53, 58] ++ Lib.decDigits c.n = (59 :: Lib.decDigits n) ++ ((58 :: Lib.decDigits 5) ++ (58 :: Lib.decDigits c.n)) := by rw [d5]; simp
    rw [e, runP_append, runP_append]
    exact s3
  · rw [if_neg h1, if_neg h1]
    by_cases h2 : c.kind = 2
    · rw [if_pos h2, if_pos h2]
      have hm : c.n ≤ 16777215 := by
        unfold colB at hc
        rw [if_neg (by omega), if_neg h1, if_pos h2] at hc
        exact of_decide_eq_true hc
      have s1 := done_flag h hl n hn
      have s2 := done_part s1 (by simp) 2 (by decide)
      have s3 := done_none s2 (by simp)
      have s4 := done_part s3 (by simp) (c.n / 65536) (by omega)
      have s5 := done_part s4 (by simp) (c.n / 256 % 256) (by omega)
      have s6 := done_part s5 (by simp) (c.n % 256) (by omega)
      have e : 59 :: Lib.decDigits n ++ [58, 50, 58, 58] ++ Lib.decDigits (c.n / 65536) ++ [58] ++ Lib.decDigits (c.n / 256 % 256) ++ [58] ++ Lib.decDigits (c.n % 256) = (59 :: Lib.decDigits n) ++ ((58 :: Lib.decDigits 2) ++ ([58] ++ ((58 :: Lib.decDigits (c.n / 65536)) ++ ((58 :: Lib.decDigits (c.n / 256 % 256)) ++ (58 :: Lib.decDigits (c.n % 256)))))) := by rw [d2]; simp
      rw [e, runP_append, runP_append, runP_append, runP_append, runP_append]
      exact s6
    · rw [if_neg h2, if_neg h2, List.append_nil]
      exact h

/-- The bytes of the parameters. -/
def bodyT (b : At) : List UInt8 := [48] ++ flagT (setsV b.fl) ++ colT 38 b.fg ++ colT 48 b.bg
theorem col_len (n : Nat) (c : Co) : (colP n c).length ≤ 1 := by
  unfold colP
  split
  · simp
  split <;> simp
theorem sets_len (f : Nat) : (setsV f).length ≤ 8 := Nat.le_trans (List.length_filter_le _ _) (by decide)
theorem body_pars (b : At) (h : rightB b = true) : parsV (bodyT b) = saysP b := by
  have hb := right_iff.1 h
  have s0 : Done (runP none [48]) [[0]] := ⟨[], [], 0, rfl, rfl⟩
  have s1 := done_flags (setsV b.fl) s0 (by have := sets_len b.fl; simp; omega) fun n hn => by have := (sets_le b.fl n hn).2; omega
  have s2 := done_col s1 (by have := sets_len b.fl; simp; omega) 38 (by decide) b.fg hb.2.1
  have s3 := done_col s2 (by have := sets_len b.fl; have := col_len 38 b.fg; simp; omega) 48 (by decide) b.bg hb.2.2
  unfold parsV bodyT
  rw [runP_append, runP_append, runP_append, s3.list]
  rfl

/-! ### the stream -/
def parB (b : UInt8) : Bool := decide (48 ≤ b.toNat) && decide (b.toNat ≤ 59)
theorem digits_par (n : Nat) : ∀ b ∈ Lib.decDigits n, parB b = true := by
  induction n using Nat.strongRecOn with
  | _ n ih =>
    intro b hb
    have small : ∀ d, d < 10 → parB (UInt8.ofNat (48 + d)) = true := fun d hd => by
      simp [parB]; omega
    by_cases h : n < 10
    · rw [Lib.decDigits_one h] at hb
      rw [List.mem_singleton.1 hb]
      exact small n h
    · rw [Lib.decDigits, dif_neg h] at hb
      rcases List.mem_append.1 hb with hb | hb
      · exact ih (n / 10) (by omega) b hb
      · rw [List.mem_singleton.1 hb]
        exact small (n % 10) (by omega)
theorem body_par (b : At) : ∀ x ∈ bodyT b, parB x = true := by
  have hcol : ∀ n c, ∀ x ∈ colT n c, parB x = true := by
    intro n c x hx
    unfold colT at hx
    split at hx
    · simp only [List.mem_append, List.mem_cons, List.not_mem_nil, or_false] at hx
      rcases hx with ((rfl | hx) | rfl | rfl | rfl) | hx
      all_goals first | exact digits_par _ _ hx | rfl
    split at hx
    · simp only [List.mem_append, List.mem_cons, List.not_mem_nil, or_false] at hx
      rcases hx with ((((((rfl | hx) | rfl | rfl | rfl | rfl) | hx) | rfl) | hx) | rfl) | hx
      all_goals first | exact digits_par _ _ hx | rfl
    · cases hx
  intro x hx
  unfold bodyT at hx
  rcases List.mem_append.1 hx with hx | hx
  · rcases List.mem_append.1 hx with hx | hx
    · rcases List.mem_append.1 hx with hx | hx
      · rw [List.mem_singleton.1 hx]; rfl
      · simp only [flagT, List.mem_flatMap, List.mem_cons] at hx
        obtain ⟨n, _, rfl | hx⟩ := hx
        · rfl
        · exact digits_par _ _ hx
    · exact hcol _ _ x hx
  · exact hcol _ _ x hx
set_option maxRecDepth 100000 in
theorem grid_par : ∀ s, s < 14 → ∀ c, c < 256 → ((s == 3 || s == 4) && decide (48 ≤ c) && decide (c ≤ 59) && !(actN s c == 4 && toN s c == 4)) = false := by decide +kernel
theorem par_step {q : Q} (hq : q.st = 3 ∨ q.st = 4) (hk : q.kept = []) {b : UInt8} (hb : parB b = true) : stepE q b = ([], { q with st := 4, list := q.list ++ [b] }) := by
  have g := grid_par q.st (by omega) b.toNat b.toNat_lt
  have h1 : (q.st == 3 || q.st == 4) = true := by rcases hq with e | e <;> rw [e] <;> rfl
  have h2 : (decide (48 ≤ b.toNat) && decide (b.toNat ≤ 59)) = true := hb
  rw [h1, Bool.true_and, h2, Bool.true_and] at g
  have hg : actN q.st b.toNat = 4 ∧ toN q.st b.toNat = 4 := by simpa using g
  obtain ⟨st, kept, list, mids, final, text⟩ := q
  dsimp only at hq hk hg
  subst hk
  unfold stepE
  dsimp only
  rw [hg.1, hg.2]
  rcases hq with rfl | rfl <;> rfl
theorem par_list : ∀ (l : List UInt8), (∀ b ∈ l, parB b = true) → l ≠ [] → ∀ {q : Q}, (q.st = 3 ∨ q.st = 4) → q.kept = [] → runE q l = ([], { q with st := 4, list := q.list ++ l })
  | [], _, h, _, _, _ => absurd rfl h
  | b :: l, hl, _, q, hq, hk => by
    have h1 := par_step hq hk (hl b (List.mem_cons_self ..))
    show ((stepE q b).1 ++ (runE (stepE q b).2 l).1, (runE (stepE q b).2 l).2) = _
    rw [h1]
    by_cases e : l = []
    · subst e; rfl
    · have h2 := par_list l (fun x hx => hl x (List.mem_cons_of_mem _ hx)) e (q := { q with st := 4, list := q.list ++ [b] }) (Or.inr rfl) hk
      dsimp only at h2 ⊢
      rw [h2]
      simp
set_option maxRecDepth 100000 in
/-- P10.2: what is said is one control sequence with the last byte m, and nothing is kept. -/
theorem says_run (b : At) (h : rightB b = true) : (runE q0 (saysT b)).1 = [⟨4, 0, 109, [], saysP b, []⟩] ∧ (runE q0 (saysT b)).2.st = 0 ∧ (runE q0 (saysT b)).2.kept = [] := by
  have e : saysT b = [27, 91] ++ (bodyT b ++ [109]) := by simp [saysT, bodyT]
  have h0 : runE q0 [27, 91] = ([], ⟨3, [], [], [], 0, []⟩) := by
    have g1 : actN 0 27 = 0 ∧ toN 0 27 = 1 := by decide +kernel
    have g2 : actN 1 91 = 0 ∧ toN 1 91 = 3 := by decide +kernel
    have s1 : stepE q0 27 = ([], ⟨1, [], [], [], 0, []⟩) := by
      unfold stepE
      dsimp only
      rw [show (27 : UInt8).toNat = 27 from rfl, show q0.st = 0 from rfl, g1.1, g1.2]
      rfl
    have s2 : stepE ⟨1, [], [], [], 0, []⟩ 91 = ([], ⟨3, [], [], [], 0, []⟩) := by
      unfold stepE
      dsimp only
      rw [show (91 : UInt8).toNat = 91 from rfl, g2.1, g2.2]
      rfl
    show ((stepE q0 27).1 ++ ((stepE (stepE q0 27).2 91).1 ++ []), (stepE (stepE q0 27).2 91).2) = _
    rw [s1]
    dsimp only
    rw [s2]
    rfl
  have h1 := par_list (bodyT b) (body_par b) (by simp [bodyT]) (q := ⟨3, [], [], [], 0, []⟩) (Or.inl rfl) rfl
  have h2 : stepE ⟨4, [], bodyT b, [], 0, []⟩ 109 = ([⟨4, 0, 109, [], parsV (bodyT b), []⟩], ⟨0, [], bodyT b, [], 0, []⟩) := by
    have g : actN 4 109 = 6 ∧ toN 4 109 = 0 := by decide +kernel
    unfold stepE
    dsimp only
    rw [show (109 : UInt8).toNat = 109 from rfl, g.1, g.2]
    rfl
  rw [e, runE_append, h0]
  dsimp only
  rw [runE_append, h1]
  dsimp only [List.nil_append]
  show ((stepE _ 109).1 ++ []) = _ ∧ (stepE _ 109).2.st = 0 ∧ (stepE _ 109).2.kept = []
  rw [h2, body_pars b h]
  exact ⟨rfl, rfl, rfl⟩
end Go.Proofs.YtkenaccnmmmooaaDoor.Sgr
