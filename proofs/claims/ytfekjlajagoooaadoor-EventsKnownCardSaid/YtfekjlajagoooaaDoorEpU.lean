/- Layer 8: a parser of the call's own; what the laws' walks use. -/
import Derived.Test.YtfekjlajagoooaaDoorEpT
namespace Go.Proofs.YtfekjlajagoooaaDoor
open Go.RowKit Ev

theorem tabs_lt {w : World} (h : D5.Tabs w) : 1 < w.heap.size ∧ 2 < w.heap.size := ⟨cell_lt (h.1 0 (by omega)), cell_lt (h.2 0 (by omega)).1⟩

/-! ### events of a run -/
theorem par_stepE (q : Q) (b : UInt8) : ∀ e ∈ (stepE q b).1, ParOk e.params := by
  have h0 : ParOk [] := ⟨by simp, by simp⟩
  have hp : ∀ l, ParOk (P7.Par.parsV l) := fun l => ⟨(P7.Par.pars_ok l).1, fun q hq => ⟨((P7.Par.pars_ok l).2 q hq).1, ((P7.Par.pars_ok l).2 q hq).2.1⟩⟩
  intro e he
  unfold stepE at he
  simp only at he
  rw [List.append_assoc] at he
  rcases List.mem_append.1 he with he | he
  · split at he
    · cases he
    · unfold markE at he
      split at he
      · cases he
      · rw [List.mem_singleton.1 he]; exact h0
  rcases List.mem_append.1 he with he | he
  · split at he
    · unfold strE at he
      split at he
      · cases he
      · split at he
        · split at he
          · rw [List.mem_singleton.1 he]; exact h0
          · cases he
        · split at he
          · rw [List.mem_singleton.1 he]; exact hp _
          · cases he
    · cases he
  · generalize readyE q (actN q.st b.toNat) (toN q.st b.toNat) = x at he
    unfold doE at he
    split at he
    · simp only [List.mem_map] at he
      obtain ⟨r, _, rfl⟩ := he
      exact h0
    split at he
    · rw [List.mem_singleton.1 he]; exact h0
    split at he
    · cases he
    split at he
    · cases he
    split at he
    · simp only at he
      split at he
      · rw [List.mem_singleton.1 he]; exact h0
      · cases he
    split at he
    · simp only at he
      split at he
      · rw [List.mem_singleton.1 he]; exact hp _
      · cases he
    split at he
    · cases he
    split at he
    · cases he
    · cases he
theorem par_runE (q : Q) (l : List UInt8) : ∀ e ∈ (runE q l).1, ParOk e.params := by
  induction l generalizing q with
  | nil => intro e he; cases he
  | cons b l ih =>
    intro e he
    rcases List.mem_append.1 (show e ∈ (stepE q b).1 ++ (runE (stepE q b).2 l).1 from he) with he | he
    · exact par_stepE q b e he
    · exact ih _ e he
theorem par_small {e : EV} (h : ParOk e.params) : (∀ q ∈ e.params, q.length ≤ 1000) ∧ e.params.length ≤ 1000000 := ⟨fun q hq => by have := (h.2 q hq).2; omega, by have := h.1; omega⟩
theorem count_stepE (q : Q) (b : UInt8) (hk : D5.Dec.fullB q.kept = false) : (stepE q b).1.length ≤ 4 ∧ D5.Dec.fullB (stepE q b).2.kept = false := by
  have hm : (if actN q.st b.toNat = 1 then [] else markE q).length ≤ 1 := by
    unfold markE
    split
    · simp
    · split <;> simp
  have hs : (if endsN q.st (toN q.st b.toNat) then strE q b.toNat else []).length ≤ 1 := by
    unfold strE
    repeat' split
    all_goals simp
  have hr : ∀ R : Q, (R.kept = q.kept ∨ R.kept = []) → (doE (actN q.st b.toNat) R b).1.length ≤ 2 ∧ D5.Dec.fullB (doE (actN q.st b.toNat) R b).2.kept = false := by
    intro R hR
    have hf : D5.Dec.fullB R.kept = false := by rcases hR with e | e <;> rw [e]; exact hk; rfl
    have hc : (D5.Dec.comes R.kept b).1.length ≤ 2 := by have := D5.Dec.comes_count R.kept b hf; have := D5.Dec.full_length hf; omega
    have hkk := D5.Dec.comes_keeps R.kept b
    generalize actN q.st b.toNat = act
    unfold doE
    repeat' split
    all_goals (refine ⟨?_, ?_⟩ <;> first | exact hkk | exact hf | (simp; try omega))
  have hq : (readyE q (actN q.st b.toNat) (toN q.st b.toNat)).kept = q.kept ∨ (readyE q (actN q.st b.toNat) (toN q.st b.toNat)).kept = [] := by
    rw [ready_kept]
    split
    · exact Or.inl rfl
    · exact Or.inr rfl
  obtain ⟨r1, r2⟩ := hr _ hq
  unfold stepE
  simp only
  exact ⟨by rw [List.length_append, List.length_append]; omega, r2⟩
theorem count_runE (q : Q) (l : List UInt8) (hk : D5.Dec.fullB q.kept = false) : (runE q l).1.length ≤ 4 * l.length := by
  induction l generalizing q with
  | nil => simp [runE]
  | cons b l ih =>
    have h1 := count_stepE q b hk
    have h2 := ih _ h1.2
    show ((stepE q b).1 ++ (runE (stepE q b).2 l).1).length ≤ _
    simp only [List.length_append, List.length_cons]
    omega

/-! ### a parser of the call's own -/
structure MineE (w0 w : World) (a : Nat) (q : Q) (L : List EV) : Prop where
  isP : IsP w a q L
  old : Below w0.heap.size w0 w
  ge : w0.heap.size ≤ a
  tabs : D5.Tabs w0
theorem MineE.below {w0 w w' : World} {a : Nat} {q : Q} {L : List EV} (h : MineE w0 w a q L) (hb : Below w.heap.size w w') : MineE w0 w' a q L := ⟨h.isP.below hb, h.old.trans (hb.mono h.old.size), h.ge, h.tabs⟩
theorem MineE.drewN {w0 w : World} {a : Nat} {q : Q} {L : List EV} (h : MineE w0 w a q L) (j : Nat) : MineE w0 (w.drewN j) a q L := h.below (below_drew (Below.refl _ _) j)
theorem MineE.stirs {w0 w w' : World} {a : Nat} {q q' : Q} {L L' : List EV} (h : MineE w0 w a q L) (hI : IsP w' a q' L') (hs : Stirs a 0 1183 w w') : MineE w0 w' a q' L' := ⟨hI, hs.below h.ge h.old h.old.size, h.ge, h.tabs⟩
/-- Another parser's doing leaves this one. -/
theorem MineE.other {w0 w w' : World} {a b : Nat} {q q' : Q} {L L' : List EV} (h : MineE w0 w a q L) (k : MineE w0 w b q' L') (hs : Stirs b 0 1183 w w') (hne : a ≠ b) : MineE w0 w' a q L := by
  obtain ⟨C, hC, _⟩ := k.isP.blk
  exact ⟨h.isP.other hs hC hne, hs.below k.ge h.old h.old.size, h.ge, h.tabs⟩

theorem mine_new {w0 w : World} (hb : Below w0.heap.size w0 w) (hT : D5.Tabs w0) : Calls Tryd.prog 11 #[] w fun e w' => e = .returned (.pointer (some ⟨w.heap.size, 0, none⟩)) ∧ MineE w0 w' w.heap.size q0 [] ∧ Below w.heap.size w w' := by
  have hl := tabs_lt hT
  have hs := hb.size
  refine (new_any w ⟨by omega, by omega⟩).mono ?_
  rintro e w' ⟨rfl, hI, hb'⟩
  exact ⟨rfl, ⟨hI, hb.trans (hb'.mono hs), hs, hT⟩, hb'⟩
theorem mine_feed {w0 w : World} {a : Nat} {q : Q} {L : List EV} (h : MineE w0 w a q L) (s : ByteArray) (l : List UInt8) (hl : l = s.data.toList) (hs : s.size ≤ 100000) (hm : q.mids.length ≤ 100000) (ht : q.text.length ≤ 100000) :
    Calls Tryd.prog 12 #[.pointer (some ⟨a, 0, none⟩), .string s] w fun e w' => e = .returned (.tuple #[]) ∧ MineE w0 w' a (runE q l).2 (L ++ (runE q l).1) ∧ Stirs a 0 1183 w w' := by
  refine (feed_any h.isP (h.tabs.below h.old (Nat.le_refl _)) s l hl hs hm ht).mono ?_
  rintro e w' ⟨rfl, hI, hst⟩
  exact ⟨rfl, h.stirs hI hst, hst⟩
theorem mine_end {w0 w : World} {a : Nat} {q : Q} {L : List EV} (h : MineE w0 w a q L) : Calls Tryd.prog 20 #[.pointer (some ⟨a, 0, none⟩)] w fun e w' => e = .returned (.tuple #[]) ∧ MineE w0 w' a { q with kept := [] } (L ++ markE q) ∧ Stirs a 0 1183 w w' := by
  refine (end_any h.isP).mono ?_
  rintro e w' ⟨rfl, hI, hst⟩
  exact ⟨rfl, h.stirs hI hst, hst⟩
theorem mine_take {w0 w : World} {a : Nat} {q : Q} {L : List EV} (h : MineE w0 w a q L) (hx : ∀ x ∈ L, ParOk x.params) (hn : L.length ≤ 90000) (n : Nat) (hnL : n = L.length) : Calls Tryd.prog 13 #[.pointer (some ⟨a, 0, none⟩)] w fun e w' => ∃ A c, e = .returned (.slice A n c) ∧ Told w' w.heap.size 31 (.slice A n c) L ∧ MineE w0 w' a q [] ∧ Stirs a 0 1183 w w' := by
  subst hnL
  refine (take_law h.isP hx hn).mono ?_
  rintro e w' ⟨A, c, rfl, ht, hI, hst⟩
  exact ⟨A, c, rfl, ht, h.stirs hI hst, hst⟩
theorem mine_state {w0 w : World} {a : Nat} {q : Q} {L : List EV} (h : MineE w0 w a q L) (n : Nat) (hn : n = q.st) : Calls Tryd.prog 19 #[.pointer (some ⟨a, 0, none⟩)] w fun e w' => e = .returned (.int .i64 n) ∧ w = w' := by
  subst hn
  exact state_any h.isP
theorem mine_waits {w0 w : World} {a : Nat} {q : Q} {L : List EV} (h : MineE w0 w a q L) (b : Bool) (hb : b = waitsB q) : Calls Tryd.prog 17 #[.pointer (some ⟨a, 0, none⟩)] w fun e w' => e = .returned (.bool b) ∧ Below w.heap.size w w' := by
  subst hb
  refine (wait_any h.isP).mono ?_
  rintro e w' ⟨rfl, j, rfl⟩
  exact ⟨rfl, below_drew (Below.refl _ _) j⟩
/-- A slice that was taken stays where any parser does something. -/
theorem Told.mine {w0 w w' : World} {base a : Nat} {v : Value} {L L' : List EV} {q : Q} (h : Told w base 31 v L) (k : MineE w0 w a q L') (hs : Stirs a 0 1183 w w') : Told w' base 31 v L := by
  obtain ⟨C, hC, _⟩ := k.isP.blk
  exact h.stirs hs hC
end Go.Proofs.YtfekjlajagoooaaDoor
