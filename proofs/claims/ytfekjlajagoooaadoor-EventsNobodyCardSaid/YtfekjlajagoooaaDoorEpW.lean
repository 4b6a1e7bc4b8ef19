/- Layer 8: events appended to events. -/
import Derived.Test.YtfekjlajagoooaaDoorEpU
import Derived.BigFrame
namespace Go.Proofs.YtfekjlajagoooaaDoor
open Go.RowKit Ev

theorem Evs.append {w : World} : ∀ {L : List EV} {ls : List (List Value)} {M : List EV} {ms : List (List Value)}, Evs w L ls → Evs w M ms → Evs w (L ++ M) (ls ++ ms)
  | [], [], _, _, _, h => h
  | _ :: _, _ :: _, _, _, h, k => ⟨h.1, Evs.append h.2 k⟩
  | [], _ :: _, _, _, h, _ => h.elim
  | _ :: _, [], _, _, h, _ => h.elim
theorem Told.join {w w' : World} {base n : Nat} {v' : Value} {L M : List EV} {ls ms : List (List Value)} (h1 : Evs w L ls) (h2 : Evs w M ms) (hk : P7.KeepT w w') (hn : n = (L ++ M).length) (hown : w'.ownsRow base 31 6 v' n (ls.flatten ++ ms.flatten)) : Told w' base 31 v' (L ++ M) :=
  ⟨ls ++ ms, (h1.keep hk).append (h2.keep hk), by rw [List.flatten_append, ← hn]; exact hown⟩
theorem all_one {w : World} {L : List EV} {ls : List (List Value)} (h : Evs w L ls) : ∀ u ∈ ls.flatten, u.oneCell' = true := by
  intro u hu
  obtain ⟨l, hl, hx⟩ := List.mem_flatten.1 hu
  obtain ⟨k, hk, e⟩ := List.getElem_of_mem hl
  have hlen : ∀ {L : List EV} {ls : List (List Value)}, Evs w L ls → L.length = ls.length := by
    intro L
    induction L with
    | nil => intro ls h; cases ls with
      | nil => rfl
      | cons _ _ => exact h.elim
    | cons e L ih => intro ls h; cases ls with
      | nil => exact h.elim
      | cons l ls => simp [ih h.2]
  obtain ⟨l', h1, A, c, h2, _⟩ := evs_get h k (by rw [hlen h]; exact hk)
  rw [List.getElem?_eq_getElem hk, e] at h1
  cases h1
  subst h2
  simp only [evCells, List.mem_cons, List.not_mem_nil, or_false] at hx
  rcases hx with rfl | rfl | rfl | rfl | rfl | rfl <;> rfl

/-- append of events that were taken to events of the call's own. -/
theorem append_told {ops : Array Oper} {rest : List Oper} {o : Oper} {a : Act} {Q : Exit → Act → World → Prop} (w : World) (hw : Region.wanted o (yielded ops a.tmps) = true) (s x : Operand)
    (ho : o.op = .call { callee := .builtin .append, args := #[s, x], argTypes := #[25, 25] }) (base base2 : Nat) (A1 A2 : Option Addr) (n m c1 c2 : Nat) (L M : List EV) (hs : a.eval s = .slice A1 n c1) (hown : Told w base 31 (.slice A1 n c1) L)
    (hx : a.eval x = .slice A2 m c2) (hr : Told w base2 31 (.slice A2 m c2) M) (hnL : n = L.length) (hmM : m = M.length) (hlen : n + m ≤ 100000) (hbase : base ≤ w.heap.size)
    (h : ∀ A' c' w', Told w' base 31 (.slice A' (n + m) c') (L ++ M) → w.grownBy w' (Value.slice A1 n c1).ownBlock → wpList Tryd.prog ops Q rest (a.put o.dst (.slice A' (n + m) c')) w') : wpList Tryd.prog ops Q (o :: rest) a w := by
  obtain ⟨i0, hi, hz0, hz1, hz2⟩ := info_parts info_pev
  obtain ⟨ls, h1, h2⟩ := hown
  obtain ⟨ms, h3, h4⟩ := hr
  have hnm : n + m = (L ++ M).length := by simp [hnL, hmM]
  have h2' : w.ownsRow base 31 6 (.slice A1 n c1) n ls.flatten := by rw [hnL]; rw [hnL] at h2; exact h2
  rcases h4.2 with ⟨e, h0⟩ | ⟨g2, cap2, cur2, e, _⟩
  · have hM : M = [] := List.eq_nil_of_length_eq_zero h0
    subst hM
    cases e
    refine BigFrame.wpList_want hw fun K hK => ?_
    have hrun := run_append_owned_none (P := Tryd.prog) (w := w) base 25 o.type 31 i0 6 Tryd.underlying25 hi (.slice A1 n c1) n ls.flatten h2'
    unfold Oper.wp
    simp [execOp, ho, resolve, invoke, builtin, hs, hx, hrun, Result.andThen]
    have hms : ms = [] := by cases ms with
      | nil => rfl
      | cons _ _ => exact h3.elim
    subst hms
    have := h A1 c1 w (by rw [List.append_nil]; exact ⟨ls, h1, by rw [← hnL]; exact h2'⟩) ⟨rfl, rfl, rfl, Nat.le_refl _, fun _ _ _ => rfl⟩
    exact hK _ _ this
  · refine BigFrame.wpList_want hw fun K hK => ?_
    cases e
    refine wp_append_own w s x 25 ho base 31 i0 zeroEv 6 72 Tryd.underlying25 hi hz0 hz1 hz2 rfl (by decide) (.slice A1 n c1) n ls.flatten hs h2' ⟨g2, 0, none⟩ _ _ ms.flatten hx ?_ ?_ (all_one h3) (by unfold maxLen; omega) (by omega) hbase ?_
    · have := h4.1
      omega
    · intro j y hy
      exact World.ownsRow.cells (w := w) h4 (g := g2) rfl j y hy
    · intro v' w' k1 k2 _
      obtain ⟨A', c', rfl⟩ : ∃ A' c', v' = .slice A' (n + M.length) c' := by
        rcases k1.2 with ⟨rfl, h0⟩ | ⟨g, cap, cur, rfl, _⟩
        · exact ⟨none, 0, by rw [h0]⟩
        · exact ⟨_, _, rfl⟩
      have hown0 : Told w base 31 (.slice A1 n c1) L := ⟨ls, h1, by rw [← hnL]; exact h2'⟩
      refine hK _ _ (h A' c' w' (Told.join h1 h3 (keep_grown hown0 ⟨by decide, by decide⟩ k2) hnm k1) k2)

/-- A parser behind an append to events of the call's own. -/
theorem MineE.grown {w0 w w' : World} {a base : Nat} {q : Q} {P L : List EV} {v : Value} (h : MineE w0 w a q P) (ht : Told w base 31 v L) (hb : w0.heap.size ≤ base) (hg : w.grownBy w' v.ownBlock) : MineE w0 w' a q P := by
  have hk1 := keep_grown ht ⟨by decide, by decide⟩ hg
  have hblk : ∀ k, k < w.heap.size → (∀ t cur, w.heap[k]? = some (.cells cur t (0, 0)) → t ≠ 31) → w'.heap[k]? = w.heap[k]? := fun k hkl hk => by
    refine hg.block k hkl (fun e => ?_)
    obtain ⟨_, _, cur, hc⟩ := ht.ge k e.symm
    exact hk _ _ hc rfl
  have hI := h.isP
  obtain ⟨C, hC, hCs⟩ := hI.blk
  have hab : w'.heap[a]? = w.heap[a]? := hblk a hI.lt (fun t cur h => by rw [hC] at h; cases h; decide)
  have hki : KeepI w w' := ⟨hk1, fun k cur h => hblk k (Array.getElem?_eq_some_iff.1 h).1 (fun t cur' h' => by rw [h] at h'; cases h'; decide)⟩
  have hc : ∀ i', w'.cell? ⟨a, i', none⟩ = w.cell? ⟨a, i', none⟩ := fun i' => World.cell?_of_block (w := w) hab
  refine ⟨⟨?_, ⟨hI.dec.blk.of_block hab, hI.dec.ok, hI.dec.ne⟩, (hc _).trans hI.st, ⟨Part.of_block hI.par.blk hab, hI.par.ok⟩, fun i hi => ?_, (hc _).trans hI.col, (hc _).trans hI.fin, fun i hi => ?_, (hc _).trans hI.siz, ?_, hI.stb⟩, h.old.grown hg h.old.size (fun k hk => by have := (ht.ge k hk).1; omega), h.ge, h.tabs⟩
  · rw [hab]; exact hI.blk
  · rw [hc]; exact hI.mid i hi
  · rw [hc]; exact hI.txt i hi
  · obtain ⟨F, B, h1, h2, h3⟩ := hI.told
    exact ⟨F, B, (hc _).trans h1, (hc _).trans h2, h3.keep hki⟩
end Go.Proofs.YtfekjlajagoooaaDoor
