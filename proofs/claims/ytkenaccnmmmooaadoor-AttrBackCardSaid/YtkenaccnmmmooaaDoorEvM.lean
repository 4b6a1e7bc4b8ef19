/- Layer 8: what a stream says, byte by byte, as lists. Plain mathematics, nothing of the program. -/
import Derived.Test.YtkenaccnmmmooaaDoorE5DcM
import Derived.Test.YtkenaccnmmmooaaDoorE6StM
import Derived.Test.YtkenaccnmmmooaaDoorE7PaM
set_option linter.unusedVariables false
namespace Go.Proofs.YtkenaccnmmmooaaDoor.Ev

structure EV where
  kind : Nat
  rune : Nat
  final : Nat
  mids : List UInt8
  params : List (List Nat)
  text : List UInt8
deriving DecidableEq

/-- How a parser stands: its state, what its decoder keeps, what came since it was cleared: for parameters, collected bytes, the text; a string's last byte. -/
structure Q where
  st : Nat
  kept : List UInt8
  list : List UInt8
  mids : List UInt8
  final : Nat
  text : List UInt8
def q0 : Q := ⟨0, [], [], [], 0, []⟩

def actN (s c : Nat) : Nat := (S6.Sta.nextV (s : Int) (c : Int)).1.toNat
def toN (s c : Nat) : Nat := (S6.Sta.nextV (s : Int) (c : Int)).2.toNat
def printE (r : Nat) : EV := ⟨1, r, 0, [], [], []⟩
def clearsN (s n : Nat) : Bool := n != s && (n == 1 || n == 3 || n == 7 || n == 12)
def endsN (s n : Nat) : Bool := n != s && (s == 10 || s == 12)
/-- The mark, where the decoder keeps something. -/
def markE (q : Q) : List EV := if q.kept = [] then [] else [printE 65533]
/-- A string that ends. -/
def strE (q : Q) (c : Nat) : List EV :=
  if c = 24 ∨ c = 26 then []
  else if q.st = 12 then (if q.text.length ≤ 1024 then [⟨5, 0, 0, [], [], q.text⟩] else [])
  else if q.text.length ≤ 256 ∧ q.mids.length ≤ 2 then [⟨6, 0, q.final, q.mids, P7.Par.parsV q.list, q.text⟩] else []
/-- What is told and what is kept by an action. -/
def doE (a : Nat) (q : Q) (b : UInt8) : List EV × Q :=
  if a = 1 then ((D5.Dec.comes q.kept b).1.map printE, { q with kept := (D5.Dec.comes q.kept b).2 })
  else if a = 2 then ([⟨2, 0, b.toNat, [], [], []⟩], q)
  else if a = 3 then ([], { q with mids := q.mids ++ [b] })
  else if a = 4 then ([], { q with list := q.list ++ [b] })
  else if a = 5 then (if q.mids.length ≤ 2 ∧ (b.toNat ≠ 92 ∨ q.mids ≠ []) then [⟨3, 0, b.toNat, q.mids, [], []⟩] else [], q)
  else if a = 6 then (if q.mids.length ≤ 2 then [⟨4, 0, b.toNat, q.mids, P7.Par.parsV q.list, []⟩] else [], q)
  else if a = 7 then ([], { q with final := b.toNat })
  else if a = 8 then ([], { q with text := q.text ++ [b] })
  else ([], q)
/-- What is there behind the mark, the string's end and the clearing. -/
def readyE (q : Q) (a n : Nat) : Q :=
  let q1 := if a = 1 then q else { q with kept := [] }
  if clearsN q.st n then { q1 with list := [], mids := [], text := [] } else q1
/-- A byte comes. -/
def stepE (q : Q) (b : UInt8) : List EV × Q :=
  let a := actN q.st b.toNat
  let n := toN q.st b.toNat
  let r := doE a (readyE q a n) b
  ((if a = 1 then [] else markE q) ++ (if endsN q.st n then strE q b.toNat else []) ++ r.1, { r.2 with st := n })
def runE (q : Q) : List UInt8 → List EV × Q
  | [] => ([], q)
  | b :: l => ((stepE q b).1 ++ (runE (stepE q b).2 l).1, (runE (stepE q b).2 l).2)
/-- The events of bytes, and of their end. -/
def allE (l : List UInt8) : List EV := (runE q0 l).1 ++ markE (runE q0 l).2

theorem runE_append (q : Q) (l m : List UInt8) : runE q (l ++ m) = ((runE q l).1 ++ (runE (runE q l).2 m).1, (runE (runE q l).2 m).2) := by
  induction l generalizing q with
  | nil => rfl
  | cons b l ih =>
    show ((stepE q b).1 ++ (runE (stepE q b).2 (l ++ m)).1, (runE (stepE q b).2 (l ++ m)).2) = _
    rw [ih]
    show _ = (((stepE q b).1 ++ (runE (stepE q b).2 l).1) ++ _, _)
    rw [List.append_assoc]
    rfl
theorem runE_snoc (q : Q) (l : List UInt8) (b : UInt8) : runE q (l ++ [b]) = ((runE q l).1 ++ (stepE (runE q l).2 b).1, (stepE (runE q l).2 b).2) := by
  rw [runE_append]
  show ((runE q l).1 ++ ((stepE (runE q l).2 b).1 ++ []), _) = _
  rw [List.append_nil]
  rfl

/-! ### the states -/
set_option maxRecDepth 100000 in
theorem grid_st : ∀ s, s < 14 → ∀ c, c < 256 → toN s c < 14 ∧ actN s c < 9 ∧ S6.Sta.nextV (s : Int) (c : Int) = (((actN s c : Nat) : Int), ((toN s c : Nat) : Int)) := by decide +kernel
theorem step_st {q : Q} (h : q.st < 14) (b : UInt8) : (stepE q b).2.st < 14 := (grid_st q.st h b.toNat b.toNat_lt).1
theorem run_st {q : Q} (h : q.st < 14) (l : List UInt8) : (runE q l).2.st < 14 := by
  induction l generalizing q with
  | nil => exact h
  | cons b l ih => exact ih (step_st h b)

/-- States in which what was collected counts. -/
def dataN (s : Nat) : Bool := s != 0 && s != 6 && s != 11 && s != 13
set_option maxRecDepth 100000 in
theorem grid_data : ∀ s, s < 14 → ∀ c, c < 256 → (dataN s = true ∨ (dataN (toN s c) = true → clearsN s (toN s c) = true)) ∧ (toN s c = 10 → s = 10 ∨ actN s c = 7) ∧ (3 ≤ actN s c → dataN s = true) := by decide +kernel

/-- Two parsers that stand alike: what counts is the same. -/
structure Like (q r : Q) : Prop where
  st : q.st = r.st
  kept : q.kept = r.kept
  data : dataN q.st = true → q.list = r.list ∧ q.mids = r.mids ∧ q.text = r.text
  final : q.st = 10 → q.final = r.final

theorem do_final (a : Nat) (x : Q) (b : UInt8) (f : Nat) : (doE a { x with final := f } b).1 = (doE a x b).1 ∧ (doE a { x with final := f } b).2 = (if a = 7 then (doE a x b).2 else { (doE a x b).2 with final := f }) := by
  unfold doE
  by_cases h1 : a = 1
  · subst h1; exact ⟨rfl, rfl⟩
  by_cases h2 : a = 2
  · subst h2; exact ⟨rfl, rfl⟩
  by_cases h3 : a = 3
  · subst h3; exact ⟨rfl, rfl⟩
  by_cases h4 : a = 4
  · subst h4; exact ⟨rfl, rfl⟩
  by_cases h5 : a = 5
  · subst h5; exact ⟨rfl, rfl⟩
  by_cases h6 : a = 6
  · subst h6; exact ⟨rfl, rfl⟩
  by_cases h7 : a = 7
  · subst h7; exact ⟨rfl, rfl⟩
  by_cases h8 : a = 8
  · subst h8; exact ⟨rfl, rfl⟩
  simp [h1, h2, h3, h4, h5, h6, h7, h8]
theorem ready_final (q : Q) (a n f : Nat) : readyE { q with final := f } a n = { readyE q a n with final := f } := by
  unfold readyE
  by_cases h : a = 1
  · subst h
    by_cases hc : clearsN q.st n = true
    · simp only [hc, if_true]
    · simp only [hc, if_true]; rfl
  · by_cases hc : clearsN q.st n = true
    · simp only [hc, h, if_true, if_false]
    · simp only [hc, h, if_false]; rfl
/-- Print and Execute look at what is kept alone. -/
theorem do_small {a : Nat} (ha : a < 3) (x y : Q) (b : UInt8) (h : x.kept = y.kept) : (doE a x b).1 = (doE a y b).1 ∧ (doE a x b).2.kept = (doE a y b).2.kept ∧ (doE a x b).2 = { x with kept := (doE a x b).2.kept } := by
  have : a = 0 ∨ a = 1 ∨ a = 2 := by omega
  rcases this with rfl | rfl | rfl
  · exact ⟨by simp [doE], by simpa [doE] using h, by simp [doE]⟩
  · refine ⟨?_, ?_, rfl⟩
    · show (D5.Dec.comes x.kept b).1.map printE = (D5.Dec.comes y.kept b).1.map printE
      rw [h]
    · show (D5.Dec.comes x.kept b).2 = (D5.Dec.comes y.kept b).2
      rw [h]
  · exact ⟨by simp [doE], by simpa [doE] using h, by simp [doE]⟩
theorem ready_kept (q : Q) (a n : Nat) : (readyE q a n).kept = if a = 1 then q.kept else [] := by
  unfold readyE
  by_cases h : a = 1
  · subst h
    by_cases hc : clearsN q.st n = true <;> simp [hc]
  · by_cases hc : clearsN q.st n = true <;> simp [hc, h]
theorem ready_clears (q : Q) (a n : Nat) (hc : clearsN q.st n = true) : (readyE q a n).list = [] ∧ (readyE q a n).mids = [] ∧ (readyE q a n).text = [] := by
  unfold readyE
  simp [hc]

theorem like_step {q r : Q} (h : Like q r) (hs : q.st < 14) (b : UInt8) : (stepE q b).1 = (stepE r b).1 ∧ Like (stepE q b).2 (stepE r b).2 := by
  obtain ⟨h1, h2, h3, h4⟩ := h
  obtain ⟨g1, g2, g3⟩ := grid_data q.st hs b.toNat b.toNat_lt
  have ga := (grid_st q.st hs b.toNat b.toNat_lt).2.1
  have hm : markE q = markE r := by unfold markE; rw [h2]
  have he : (if endsN q.st (toN q.st b.toNat) then strE q b.toNat else []) = (if endsN q.st (toN q.st b.toNat) then strE r b.toNat else []) := by
    by_cases hE : endsN q.st (toN q.st b.toNat) = true
    · have hs' : q.st = 10 ∨ q.st = 12 := by simp [endsN] at hE; exact hE.2
      have hd : dataN q.st = true := by rcases hs' with e | e <;> rw [e] <;> rfl
      obtain ⟨e1, e2, e3⟩ := h3 hd
      unfold strE
      rw [← h1, ← e1, ← e2, ← e3]
      rcases hs' with e | e
      · rw [h4 e]
      · simp [e]
    · rw [if_neg hE, if_neg hE]
  unfold stepE
  simp only
  rw [← h1, hm, he]
  generalize hn : toN q.st b.toNat = n at *
  generalize actN q.st b.toNat = a at *
  by_cases hd : dataN q.st = true
  · obtain ⟨e1, e2, e3⟩ := h3 hd
    obtain ⟨f, hr⟩ : ∃ f, r = { q with final := f } := ⟨r.final, by
      cases q; cases r
      simp only at h1 h2 e1 e2 e3
      subst h1 h2 e1 e2 e3
      rfl⟩
    subst hr
    have h4 : q.st = 10 → q.final = f := h4
    rw [ready_final q a n f]
    obtain ⟨d1, d2⟩ := do_final a (readyE q a n) b f
    rw [d1, d2]
    refine ⟨rfl, rfl, ?_, ?_, ?_⟩
    · show (doE a (readyE q a n) b).2.kept = _
      by_cases h7 : a = 7
      · rw [if_pos h7]
      · rw [if_neg h7]
    · intro _
      by_cases h7 : a = 7
      · rw [if_pos h7]; exact ⟨rfl, rfl, rfl⟩
      · rw [if_neg h7]; exact ⟨rfl, rfl, rfl⟩
    · intro hn10
      have hn10 : n = 10 := hn10
      by_cases h7 : a = 7
      · rw [if_pos h7]
      · have hq10 : q.st = 10 := by
          rcases g2 hn10 with e | e
          · exact e
          · exact absurd e h7
        have hrf : ({ q with final := f } : Q) = q := by rw [← h4 hq10]
        rw [if_neg h7]
        have hf : (doE a (readyE q a n) b).2.final = f := by
          have := do_final a (readyE q a n) b f
          rw [← ready_final q a n f, hrf] at this
          rw [this.2, if_neg h7]
        exact hf
  · have ha3 : a < 3 := by
      rcases Nat.lt_or_ge a 3 with h | h
      · exact h
      · exact absurd (g3 h) hd
    have hc : dataN n = true → clearsN q.st n = true := by
      rcases g1 with h | h
      · exact absurd h hd
      · exact h
    have hk : (readyE q a n).kept = (readyE r a n).kept := by rw [ready_kept, ready_kept, h2]
    obtain ⟨d1, d2, d3⟩ := do_small ha3 (readyE q a n) (readyE r a n) b hk
    obtain ⟨_, _, d4⟩ := do_small ha3 (readyE r a n) (readyE q a n) b hk.symm
    refine ⟨by rw [d1], rfl, d2, fun hdn => ?_, fun hn10 => ?_⟩
    · have hdn : dataN n = true := hdn
      obtain ⟨c1, c2, c3⟩ := ready_clears q a n (hc hdn)
      obtain ⟨c4, c5, c6⟩ := ready_clears r a n (h1 ▸ hc hdn)
      have f1 : (doE a (readyE q a n) b).2.list = (readyE q a n).list ∧ (doE a (readyE q a n) b).2.mids = (readyE q a n).mids ∧ (doE a (readyE q a n) b).2.text = (readyE q a n).text := by rw [d3]; exact ⟨rfl, rfl, rfl⟩
      have f2 : (doE a (readyE r a n) b).2.list = (readyE r a n).list ∧ (doE a (readyE r a n) b).2.mids = (readyE r a n).mids ∧ (doE a (readyE r a n) b).2.text = (readyE r a n).text := by rw [d4]; exact ⟨rfl, rfl, rfl⟩
      exact ⟨by show (doE a (readyE q a n) b).2.list = (doE a (readyE r a n) b).2.list; rw [f1.1, f2.1, c1, c4], by show (doE a (readyE q a n) b).2.mids = (doE a (readyE r a n) b).2.mids; rw [f1.2.1, f2.2.1, c2, c5], by show (doE a (readyE q a n) b).2.text = (doE a (readyE r a n) b).2.text; rw [f1.2.2, f2.2.2, c3, c6]⟩
    · exfalso
      have hn10 : n = 10 := hn10
      rcases g2 hn10 with e | e
      · rw [e] at hd; exact hd rfl
      · omega
theorem like_run {q r : Q} (h : Like q r) (hs : q.st < 14) (l : List UInt8) : (runE q l).1 = (runE r l).1 ∧ Like (runE q l).2 (runE r l).2 := by
  induction l generalizing q r with
  | nil => exact ⟨rfl, h⟩
  | cons b l ih =>
    obtain ⟨e, h'⟩ := like_step h hs b
    obtain ⟨e2, h2⟩ := ih h' (step_st hs b)
    exact ⟨by show (stepE q b).1 ++ _ = (stepE r b).1 ++ _; rw [e, e2], h2⟩

/-- Behind 18 a parser is as a new one. -/
theorem cancel_like {q : Q} (hs : q.st < 14) : Like (stepE q 24).2 q0 := by
  have hc : S6.Sta.nextV (q.st : Int) ((24 : UInt8).toNat : Int) = (2, 0) := by unfold S6.Sta.nextV; rfl
  have ha : actN q.st (24 : UInt8).toNat = 2 := by unfold actN; rw [hc]; rfl
  have hn : toN q.st (24 : UInt8).toNat = 0 := by unfold toN; rw [hc]; rfl
  refine ⟨?_, ?_, fun h => ?_, fun h => ?_⟩
  · show toN q.st (24 : UInt8).toNat = 0; exact hn
  · show (doE (actN q.st (24 : UInt8).toNat) (readyE q (actN q.st (24 : UInt8).toNat) (toN q.st (24 : UInt8).toNat)) 24).2.kept = []
    rw [ha, hn]
    show (readyE q 2 0).kept = []
    rw [ready_kept]; rfl
  · have h : dataN (toN q.st (24 : UInt8).toNat) = true := h
    rw [hn] at h; cases h
  · have h : toN q.st (24 : UInt8).toNat = 10 := h
    rw [hn] at h; cases h
theorem run_cancel (s t : List UInt8) : (runE q0 (s ++ 24 :: t)).1 = (runE q0 (s ++ [24])).1 ++ (runE q0 t).1 ∧ Like (runE q0 (s ++ 24 :: t)).2 (runE q0 t).2 := by
  have h1 := run_st (q := q0) (by decide) s
  have hl := like_run (cancel_like h1) (step_st h1 24) t
  rw [runE_append, runE_snoc]
  show ((runE q0 s).1 ++ ((stepE (runE q0 s).2 24).1 ++ (runE (stepE (runE q0 s).2 24).2 t).1) = _ ++ _ ++ _) ∧ _
  rw [hl.1, List.append_assoc]
  exact ⟨rfl, hl.2⟩

/-! ### what an event has -/
structure OkE (e : EV) : Prop where
  kind : 1 ≤ e.kind ∧ e.kind ≤ 6
  rune : e.kind ≠ 1 → e.rune = 0
  mids : e.mids.length ≤ 2
  text : e.text.length ≤ 1024
  params : e.kind < 4 → e.params = []
  plain : e.kind < 5 → e.text = []
  osc : e.kind = 5 → e.final = 0 ∧ e.mids = []
  few : e.kind < 3 → e.mids = []
theorem ok_print (r : Nat) : OkE (printE r) := ⟨by simp [printE], by simp [printE], by simp [printE], by simp [printE], by simp [printE], by simp [printE], by simp [printE], by simp [printE]⟩
theorem ok_stepE (q : Q) (b : UInt8) : ∀ e ∈ (stepE q b).1, OkE e := by
  intro e he
  unfold stepE at he
  simp only at he
  rw [List.append_assoc] at he
  rcases List.mem_append.1 he with he | he
  · split at he
    · cases he
    · unfold markE at he
      split at he
      · cases he
      · rw [List.mem_singleton.1 he]; exact ok_print _
  rcases List.mem_append.1 he with he | he
  · split at he
    · unfold strE at he
      split at he
      · cases he
      · split at he
        · split at he
          · rename_i h
            rw [List.mem_singleton.1 he]
            exact ⟨by simp, by simp, by simp, h, by simp, by simp, by simp, by simp⟩
          · cases he
        · split at he
          · rename_i h
            rw [List.mem_singleton.1 he]
            exact ⟨by simp, by simp, h.2, by show q.text.length ≤ 1024; omega, by simp, by simp, by simp, by simp⟩
          · cases he
    · cases he
  · generalize readyE q (actN q.st b.toNat) (toN q.st b.toNat) = x at he
    unfold doE at he
    split at he
    · simp only [List.mem_map] at he
      obtain ⟨r, _, rfl⟩ := he
      exact ok_print r
    split at he
    · rw [List.mem_singleton.1 he]
      exact ⟨by simp, by simp, by simp, by simp, by simp, by simp, by simp, by simp⟩
    split at he
    · cases he
    split at he
    · cases he
    split at he
    · simp only at he
      split at he
      · rename_i h
        rw [List.mem_singleton.1 he]
        exact ⟨by simp, by simp, h.1, by simp, by simp, by simp, by simp, by simp⟩
      · cases he
    split at he
    · simp only at he
      split at he
      · rename_i h
        rw [List.mem_singleton.1 he]
        exact ⟨by simp, by simp, h, by simp, by simp, by simp, by simp, by simp⟩
      · cases he
    split at he
    · cases he
    split at he
    · cases he
    · cases he
theorem ok_runE (q : Q) (l : List UInt8) : ∀ e ∈ (runE q l).1, OkE e := by
  induction l generalizing q with
  | nil => intro e he; cases he
  | cons b l ih =>
    intro e he
    rcases List.mem_append.1 he with he | he
    · exact ok_stepE q b e he
    · exact ih _ e he
end Go.Proofs.YtkenaccnmmmooaaDoor.Ev
