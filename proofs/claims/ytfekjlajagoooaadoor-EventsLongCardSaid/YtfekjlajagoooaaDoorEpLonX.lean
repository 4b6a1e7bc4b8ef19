/- Layer 8: events appended to events. Layer 8: same: the program's events beside the document's. Layer 8: EventsNobody's walk. Layer 8: EventsTell's walk. Layer 8: EventsLong's walk. -/
import Derived.Test.YtfekjlajagoooaaDoorEpU
import Derived.BigFrame
import Derived.Test.YtfekjlajagoooaaDoorEpQ
import Derived.Test.YtfekjlajagoooaaDoorEvDoc
import Derived.LoopTactic
import Derived.Test.YtfekjlajagoooaaDoorEpRep
/-! ## Layer 8: events appended to events. -/
namespace Go.Proofs.YtfekjlajagoooaaDoor
open Go.RowKit Ev

theorem Evs.append {w : World} : ∀ {L : List EV} {ls : List (List Value)} {M : List EV} {ms : List (List Value)}, Evs w L ls → Evs w M ms → Evs w (L ++ M) (ls ++ ms)
  | [], [], _, _, _, h => h
  | _ :: _, _ :: _, _, _, h, k => ⟨h.1, Evs.append h.2 k⟩
  | [], _ :: _, _, _, h, _ => h.elim
  | _ :: _, [], _, _, h, _ => h.elim
theorem Told.join {w w' : World} {base n : Nat} {v' : Value} {L M : List EV} {ls ms : List (List Value)} (h1 : Evs w L ls) (h2 : Evs w M ms) (hk : P7.KeepT w w') (hn : n = (L ++ M).length) (hown : w'.ownsRow base 31 6 v' n (ls.flatten ++ ms.flatten)) : Told w' base 31 v' (L ++ M) :=
  ⟨ls ++ ms, (h1.keep hk).append (h2.keep hk), by rw [List.flatten_append, ← hn]; exact hown⟩
theorem all_one {w : World} {L : List EV} {ls : List (List Value)} (h : Evs w L ls) : ∀ u ∈ ls.flatten, u.oneCell' = true := by
  intro u hu
  obtain ⟨l, hl, hx⟩ := List.mem_flatten.1 hu
  obtain ⟨k, hk, e⟩ := List.getElem_of_mem hl
  have hlen : ∀ {L : List EV} {ls : List (List Value)}, Evs w L ls → L.length = ls.length := by
    intro L
    induction L with
    | nil => intro ls h; cases ls with
      | nil => rfl
      | cons _ _ => exact h.elim
    | cons e L ih => intro ls h; cases ls with
      | nil => exact h.elim
      | cons l ls => simp [ih h.2]
  obtain ⟨l', h1, A, c, h2, _⟩ := evs_get h k (by rw [hlen h]; exact hk)
  rw [List.getElem?_eq_getElem hk, e] at h1
  cases h1
  subst h2
  simp only [evCells, List.mem_cons, List.not_mem_nil, or_false] at hx
  rcases hx with rfl | rfl | rfl | rfl | rfl | rfl <;> rfl

/-- append of events that were taken to events of the call's own. -/
theorem append_told {ops : Array Oper} {rest : List Oper} {o : Oper} {a : Act} {Q : Exit → Act → World → Prop} (w : World) (hw : Region.wanted o (yielded ops a.tmps) = true) (s x : Operand)
    (ho : o.op = .call { callee := .builtin .append, args := #[s, x], argTypes := #[25, 25] }) (base base2 : Nat) (A1 A2 : Option Addr) (n m c1 c2 : Nat) (L M : List EV) (hs : a.eval s = .slice A1 n c1) (hown : Told w base 31 (.slice A1 n c1) L)
    (hx : a.eval x = .slice A2 m c2) (hr : Told w base2 31 (.slice A2 m c2) M) (hnL : n = L.length) (hmM : m = M.length) (hlen : n + m ≤ 100000) (hbase : base ≤ w.heap.size)
    (h : ∀ A' c' w', Told w' base 31 (.slice A' (n + m) c') (L ++ M) → w.grownBy w' (Value.slice A1 n c1).ownBlock → wpList Tryd.prog ops Q rest (a.put o.dst (.slice A' (n + m) c')) w') : wpList Tryd.prog ops Q (o :: rest) a w := by
  obtain ⟨i0, hi, hz0, hz1, hz2⟩ := info_parts info_pev
  obtain ⟨ls, h1, h2⟩ := hown
  obtain ⟨ms, h3, h4⟩ := hr
  have hnm : n + m = (L ++ M).length := by simp [hnL, hmM]
  have h2' : w.ownsRow base 31 6 (.slice A1 n c1) n ls.flatten := by rw [hnL]; rw [hnL] at h2; exact h2
  rcases h4.2 with ⟨e, h0⟩ | ⟨g2, cap2, cur2, e, _⟩
  · have hM : M = [] := List.eq_nil_of_length_eq_zero h0
    subst hM
    cases e
    refine BigFrame.wpList_want hw fun K hK => ?_
    have hrun := run_append_owned_none (P := Tryd.prog) (w := w) base 25 o.type 31 i0 6 Tryd.underlying25 hi (.slice A1 n c1) n ls.flatten h2'
    unfold Oper.wp
    simp [execOp, ho, resolve, invoke, builtin, hs, hx, hrun, Result.andThen]
    have hms : ms = [] := by cases ms with
      | nil => rfl
      | cons _ _ => exact h3.elim
    subst hms
    have := h A1 c1 w (by rw [List.append_nil]; exact ⟨ls, h1, by rw [← hnL]; exact h2'⟩) ⟨rfl, rfl, rfl, Nat.le_refl _, fun _ _ _ => rfl⟩
    exact hK _ _ this
  · refine BigFrame.wpList_want hw fun K hK => ?_
    cases e
    refine wp_append_own w s x 25 ho base 31 i0 zeroEv 6 72 Tryd.underlying25 hi hz0 hz1 hz2 rfl (by decide) (.slice A1 n c1) n ls.flatten hs h2' ⟨g2, 0, none⟩ _ _ ms.flatten hx ?_ ?_ (all_one h3) (by unfold maxLen; omega) (by omega) hbase ?_
    · have := h4.1
      omega
    · intro j y hy
      exact World.ownsRow.cells (w := w) h4 (g := g2) rfl j y hy
    · intro v' w' k1 k2 _
      obtain ⟨A', c', rfl⟩ : ∃ A' c', v' = .slice A' (n + M.length) c' := by
        rcases k1.2 with ⟨rfl, h0⟩ | ⟨g, cap, cur, rfl, _⟩
        · exact ⟨none, 0, by rw [h0]⟩
        · exact ⟨_, _, rfl⟩
      have hown0 : Told w base 31 (.slice A1 n c1) L := ⟨ls, h1, by rw [← hnL]; exact h2'⟩
      refine hK _ _ (h A' c' w' (Told.join h1 h3 (keep_grown hown0 ⟨by decide, by decide⟩ k2) hnm k1) k2)

/-- A parser behind an append to events of the call's own. -/
theorem MineE.grown {w0 w w' : World} {a base : Nat} {q : Q} {P L : List EV} {v : Value} (h : MineE w0 w a q P) (ht : Told w base 31 v L) (hb : w0.heap.size ≤ base) (hg : w.grownBy w' v.ownBlock) : MineE w0 w' a q P := by
  have hk1 := keep_grown ht ⟨by decide, by decide⟩ hg
  have hblk : ∀ k, k < w.heap.size → (∀ t cur, w.heap[k]? = some (.cells cur t (0, 0)) → t ≠ 31) → w'.heap[k]? = w.heap[k]? := fun k hkl hk => by
    refine hg.block k hkl (fun e => ?_)
    obtain ⟨_, _, cur, hc⟩ := ht.ge k e.symm
    exact hk _ _ hc rfl
  have hI := h.isP
  obtain ⟨C, hC, hCs⟩ := hI.blk
  have hab : w'.heap[a]? = w.heap[a]? := hblk a hI.lt (fun t cur h => by rw [hC] at h; cases h; decide)
  have hki : KeepI w w' := ⟨hk1, fun k cur h => hblk k (Array.getElem?_eq_some_iff.1 h).1 (fun t cur' h' => by rw [h] at h'; cases h'; decide)⟩
  have hc : ∀ i', w'.cell? ⟨a, i', none⟩ = w.cell? ⟨a, i', none⟩ := fun i' => World.cell?_of_block (w := w) hab
  refine ⟨⟨?_, ⟨hI.dec.blk.of_block hab, hI.dec.ok, hI.dec.ne⟩, (hc _).trans hI.st, ⟨Part.of_block hI.par.blk hab, hI.par.ok⟩, fun i hi => ?_, (hc _).trans hI.col, (hc _).trans hI.fin, fun i hi => ?_, (hc _).trans hI.siz, ?_, hI.stb⟩, h.old.grown hg h.old.size (fun k hk => by have := (ht.ge k hk).1; omega), h.ge, h.tabs⟩
  · rw [hab]; exact hI.blk
  · rw [hc]; exact hI.mid i hi
  · rw [hc]; exact hI.txt i hi
  · obtain ⟨F, B, h1, h2, h3⟩ := hI.told
    exact ⟨F, B, (hc _).trans h1, (hc _).trans h2, h3.keep hki⟩
end Go.Proofs.YtfekjlajagoooaaDoor

/-! ## Layer 8: same: the program's events beside the document's. -/
namespace Go.Proofs.YtfekjlajagoooaaDoor
open Go.RowKit Ev

set_option maxHeartbeats 800000 in
theorem sameDoc_yes {w : World} {A B : Option Addr} {L : List EV} (n c d : Nat) (hnL : n = L.length) (hn : n ≤ 100000) (hp : ∀ e ∈ L, e.params.length ≤ 1000000) (h : Reads w A L) (h' : Reads w B L) :
    Calls Tryd.prog 21 #[.slice A n c, .slice B n d] w fun x w' => x = .returned (.bool true) ∧ Below w.heap.size w w' := by
  have HA := Lib.hid h
  have HB := Lib.hid h'
  have HP := Lib.hid hp
  have HN := Lib.hid hnL
  clear h h' hp hnL
  go_enter Tryd.func21, Tryd.ntmps21
  go_wp2
  go_loopw [5] (fun i wr => ∃ k : Nat, k ≤ n ∧ i = .int .i64 k ∧ Hid (Below w.heap.size w wr)) (fun i _ => n - (RowKit.intOf i).toNat)
  case atStart => exact ⟨0, Nat.zero_le _, rfl, Lib.hid (Below.refl _ _)⟩
  case round =>
    obtain ⟨k, hk, rfl, HBl⟩ := hrel
    by_cases hlt : k < n
    · have hlt' : k < L.length := by rw [← HN.out]; exact hlt
      obtain ⟨g, rfl, hga⟩ := (HA.out.below HBl.out) k hlt'
      obtain ⟨g', rfl, hgb⟩ := (HB.out.below HBl.out) k hlt'
      obtain ⟨A1, c1, ⟨a0, a1, a2, a3, a4, a5⟩, ga⟩ := hga
      obtain ⟨A2, c2, ⟨b0, b1, b2, b3, b4, b5⟩, gb⟩ := hgb
      have hpe := HP.out _ (List.getElem_mem hlt')
      generalize L[k] = x at *
      have HS : Hid (∀ W, Below wr.heap.size wr W → Calls Tryd.prog 16 #[.agg #[.int .i64 x.kind, .int .i32 x.rune, .int .u8 x.final, .string (strK x.mids), .slice A1 x.params.length c1, .string (strK x.text)], .agg #[.int .i64 x.kind, .int .i32 x.rune, .int .u8 x.final, .string (strK x.mids), .slice A2 x.params.length c2, .string (strK x.text)]] W fun x w' => x = .returned (.bool true) ∧ Below wr.heap.size wr w') := Lib.hid fun W hW => (same_yes c1 c2 hpe (ga.below hW) (gb.below hW)).mono fun _ _ hx => ⟨hx.1, hW.trans (hx.2.mono hW.size)⟩
      have HCell : Hid (∀ W, Below wr.heap.size wr W → (W.cell? ⟨g, k * 6, none⟩ = some (.int .i64 x.kind) ∧ W.cell? ⟨g, k * 6 + 1, none⟩ = some (.int .i32 x.rune) ∧ W.cell? ⟨g, k * 6 + 2, none⟩ = some (.int .u8 x.final) ∧ W.cell? ⟨g, k * 6 + 3, none⟩ = some (.string (strK x.mids)) ∧ W.cell? ⟨g, k * 6 + 4, none⟩ = some (.slice A1 x.params.length c1) ∧ W.cell? ⟨g, k * 6 + 5, none⟩ = some (.string (strK x.text))) ∧ (W.cell? ⟨g', k * 6, none⟩ = some (.int .i64 x.kind) ∧ W.cell? ⟨g', k * 6 + 1, none⟩ = some (.int .i32 x.rune) ∧ W.cell? ⟨g', k * 6 + 2, none⟩ = some (.int .u8 x.final) ∧ W.cell? ⟨g', k * 6 + 3, none⟩ = some (.string (strK x.mids)) ∧ W.cell? ⟨g', k * 6 + 4, none⟩ = some (.slice A2 x.params.length c2) ∧ W.cell? ⟨g', k * 6 + 5, none⟩ = some (.string (strK x.text)))) := Lib.hid fun W hW =>
        ⟨⟨(hW.cell (cell_lt a0)).trans a0, (hW.cell (cell_lt a1)).trans a1, (hW.cell (cell_lt a2)).trans a2, (hW.cell (cell_lt a3)).trans a3, (hW.cell (cell_lt a4)).trans a4, (hW.cell (cell_lt a5)).trans a5⟩, (hW.cell (cell_lt b0)).trans b0, (hW.cell (cell_lt b1)).trans b1, (hW.cell (cell_lt b2)).trans b2, (hW.cell (cell_lt b3)).trans b3, (hW.cell (cell_lt b4)).trans b4, (hW.cell (cell_lt b5)).trans b5⟩
      have k0 : Below wr.heap.size wr wr.drew := below_drew (Below.refl _ _) 1
      obtain ⟨m, hm⟩ : ∃ m, m = x.params.length := ⟨_, rfl⟩
      rw [← hm] at a4 b4 HS HCell
      clear ga gb hpe hm
      go_wp2_with fail
      go_region_held3 (fun W => (W.cell? ⟨g, k * 6, none⟩ = some (.int .i64 x.kind) ∧ W.cell? ⟨g, k * 6 + 1, none⟩ = some (.int .i32 x.rune) ∧ W.cell? ⟨g, k * 6 + 2, none⟩ = some (.int .u8 x.final) ∧ W.cell? ⟨g, k * 6 + 3, none⟩ = some (.string (strK x.mids)) ∧ W.cell? ⟨g, k * 6 + 4, none⟩ = some (.slice A1 m c1) ∧ W.cell? ⟨g, k * 6 + 5, none⟩ = some (.string (strK x.text))) ∧ (W.cell? ⟨g', k * 6, none⟩ = some (.int .i64 x.kind) ∧ W.cell? ⟨g', k * 6 + 1, none⟩ = some (.int .i32 x.rune) ∧ W.cell? ⟨g', k * 6 + 2, none⟩ = some (.int .u8 x.final) ∧ W.cell? ⟨g', k * 6 + 3, none⟩ = some (.string (strK x.mids)) ∧ W.cell? ⟨g', k * 6 + 4, none⟩ = some (.slice A2 m c2) ∧ W.cell? ⟨g', k * 6 + 5, none⟩ = some (.string (strK x.text))))
        (first | exact HCell.out _ k1 | exact HCell.out _ k0 | go_keep)
        (first | (go_at_call 16; (with_reducible refine (HS.out _ k0).mono ?_); rintro e w4 ⟨rfl, k1⟩))
      have HB4 := Lib.hid (HBl.out.trans (k1.mono HBl.out.size))
      clear k1 HS HCell a0 a1 a2 a3 a4 a5 b0 b1 b2 b3 b4 b5
      go_wp2
      go_roundw
      case rel => exact ⟨k + 1, by omega, by go_num, HB4⟩
      case measure => simp [RowKit.intOf]; omega
    · have hkn : k = n := by omega
      subst hkn
      go_wp2
      go_ret
      exact ⟨rfl, HBl.out⟩
end Go.Proofs.YtfekjlajagoooaaDoor

/-! ## Layer 8: EventsNobody's walk. -/
set_option linter.unusedVariables false
namespace Go.Proofs.YtfekjlajagoooaaDoor
open Go.RowKit Ev

theorem mine_zero {w0 w : World} (hb : Below w0.heap.size w0 w) (hT : D5.Tabs w0) : MineE w0 (w.alloc (.cells zeroP 66)) w.heap.size q0 [] := by
  have hl := tabs_lt hT
  have hs := hb.size
  exact ⟨new_isP (Deep.blk_alloc_new w _) ⟨by omega, by omega⟩, hb.alloc hs _, hs, hT⟩
theorem allE_count (l : List UInt8) : (allE l).length ≤ 4 * l.length + 1 := by
  unfold allE
  have h1 := count_runE q0 l rfl
  have h2 := mark_len (runE q0 l).2
  rw [List.length_append]
  omega

theorem mark_par (q : Q) : ∀ x ∈ markE q, ParOk x.params := by
  intro x hx
  unfold markE at hx
  split at hx
  all_goals first
    | (cases hx; done)
    | (rw [List.mem_singleton] at hx; subst hx; exact ⟨Nat.zero_le _, fun q hq => by cases hq⟩)

attribute [local irreducible] zeroP

set_option maxRecDepth 100000 in
set_option maxHeartbeats 2000000 in
theorem nobody_main (s : ByteArray) (w : World) (hs : s.size ≤ 2000) (hT : D5.Tabs w) : Calls Tryd.prog 7 #[.string s] w fun e w' => e = .returned (.bool true) ∧ Below w.heap.size w w' := by
  have HA := Lib.hid (awake_any w hT (tabs_lt hT))
  have HT := Lib.hid hT
  have d1 : decide ((s.size : Int) > 2000) = false := by simp; omega
  have d1' : decide ((2000 : Int) < s.size) = false := by simp; omega
  have kb := build_par
  have kz := zero_par
  obtain ⟨S, hS⟩ : ∃ S, S = s.data.toList := ⟨_, rfl⟩
  have hSl : S.length = s.size := by rw [hS]; exact Array.length_toList
  have HSU := Lib.hid (And.intro hS hSl)
  have HZ := Lib.hid hs
  clear hT hS hSl hs
  go_enter Tryd.func7, Tryd.ntmps7
  go_wp2_with fail
  refine (show Calls _ _ _ _ _ from HA.out).mono ?_
  rintro e w1 ⟨rfl, hb⟩
  have HB1 := Lib.hid hb
  clear hb HA
  go_wp2_with fail
  refine (show Calls _ _ _ _ _ from nil_feed s w1).mono ?_
  rintro e w2 ⟨rfl, rfl⟩
  go_wp2_with fail
  refine (show Calls _ _ _ _ _ from nil_end w1).mono ?_
  rintro e w2 ⟨rfl, rfl⟩
  go_wp2_with fail
  refine (show Calls _ _ _ _ _ from nil_next w1).mono ?_
  rintro e w2 ⟨rfl, hb⟩
  have HB2 := Lib.hid (HB1.out.trans (hb.mono HB1.out.size))
  clear hb HB1
  have HM0 := Lib.hid (mine_zero (w := resW w2) (HB2.out.alloc HB2.out.size _) HT.out)
  have HF0 := (mine_feed HM0.out s S HSU.out.1 (by have := HZ.out; omega) (by decide) (by decide))
  have ez : (resW w2).heap.size = w2.heap.size + 1 := by simp
  rw [ez] at HF0
  have HF := Lib.hid HF0
  clear HM0 HB2 HF0 ez
  go_wp2_with fail
  refine (show Calls _ _ _ _ _ from HF.out).mono ?_
  rintro e w3 ⟨rfl, ha, hst⟩
  rw [List.nil_append] at ha
  obtain ⟨a, ea⟩ : ∃ a, a = w2.heap.size + 1 := ⟨_, rfl⟩
  rw [← ea] at ha ⊢
  have HE := Lib.hid (mine_end ha)
  clear ha hst HF ea kb kz
  go_wp2_with fail
  refine (show Calls _ _ _ _ _ from HE.out).mono ?_
  rintro e w4 ⟨rfl, ha, hst⟩
  obtain ⟨L, hL⟩ : ∃ L, L = allE S := ⟨_, rfl⟩
  rw [show (runE q0 S).1 ++ markE (runE q0 S).2 = L from hL.symm] at ha
  have HMa := Lib.hid ha
  have hp : ∀ x ∈ L, ParOk x.params := by
    intro x hx
    rw [hL] at hx
    unfold allE at hx
    rcases List.mem_append.1 hx with h | h
    · exact par_runE _ _ x h
    · exact mark_par _ x h
  have hc : L.length ≤ 20000 := by rw [hL]; have h1 := allE_count S; have h2 := HSU.out.2; have h3 := HZ.out; omega
  have HP := Lib.hid hp
  have HL := Lib.hid hL
  have HLc := Lib.hid hc
  obtain ⟨n, hn⟩ : ∃ n, n = L.length := ⟨_, rfl⟩
  have HN := Lib.hid hn
  have hn1 : n ≤ 100000 := by omega
  have HT3 := Lib.hid (mine_take HMa.out HP.out (by have := HLc.out; omega) n hn)
  clear ha hst HE hp hc hL hn
  go_wp2_with fail
  refine (show Calls _ _ _ _ _ from nil_waits w4).mono ?_
  rintro e w5 ⟨rfl, rfl⟩
  go_wp2_with fail
  refine (show Calls _ _ _ _ _ from nil_state w4).mono ?_
  rintro e w5 ⟨rfl, rfl⟩
  go_wp2_with fail
  refine (show Calls _ _ _ _ _ from HT3.out).mono ?_
  rintro e w5 ⟨A3, k3, rfl, htold, ha, hst⟩
  have HMa5 := Lib.hid ha
  have HR1 := Lib.hid (htold.reads (fun e he => (par_small (HP.out e he)).1))
  have HAl := Lib.hid (allE_any s S HSU.out.1 (by have := HZ.out; omega) w5)
  clear ha hst htold HT3 HMa
  go_wp2_with fail
  refine (show Calls _ _ _ _ _ from HAl.out).mono ?_
  rintro e w6 ⟨A4, k4, rfl, htold, hb⟩
  rw [← HL.out] at htold ⊢
  have HR2 := Lib.hid (htold.reads (fun e he => (par_small (HP.out e he)).1))
  have HR3 := Lib.hid (HR1.out.below hb)
  have HO6 := Lib.hid (HMa5.out.below hb).old
  rw [← HN.out]
  have HSD := Lib.hid (sameDoc_yes (w := w6) n k3 k4 HN.out hn1 (fun e he => (par_small (HP.out e he)).2) HR3.out HR2.out)
  clear htold hb HAl HMa5 HR1
  go_wp2_with fail
  refine (show Calls _ _ _ _ _ from HSD.out).mono ?_
  rintro e w7 ⟨rfl, hb⟩
  have HO := Lib.hid (HO6.out.trans (hb.mono HO6.out.size))
  clear hb HSD HO6 HR2 HR3
  go_wp2
  go_ret
  exact ⟨by simp, HO.out⟩

set_option maxRecDepth 100000 in
set_option maxHeartbeats 1000000 in
theorem nobody_walk (s : ByteArray) (w : World) (hs9 : s.size ≤ maxLen) (hT : D5.Tabs w) : Calls Tryd.prog 7 #[.string s] w fun e w' => e = .returned (.bool true) ∧ Below w.heap.size w w' := by
  by_cases hs : s.size ≤ 2000
  case neg =>
    have HA := Lib.hid (awake_any w hT (tabs_lt hT))
    have d1 : decide ((s.size : Int) > 2000) = true := by simp; omega
    have d1' : decide ((2000 : Int) < s.size) = true := by simp; omega
    clear hs hT
    go_enter Tryd.func7, Tryd.ntmps7
    go_wp2_with fail
    refine (show Calls _ _ _ _ _ from HA.out).mono ?_
    rintro e w1 ⟨rfl, hb⟩
    have HB := Lib.hid hb
    clear hb HA
    go_wp2
    go_ret
    exact ⟨rfl, HB.out⟩
  exact nobody_main s w hs hT
end Go.Proofs.YtfekjlajagoooaaDoor

/-! ## Layer 8: EventsTell's walk. -/
set_option linter.unusedVariables false
namespace Go.Proofs.YtfekjlajagoooaaDoor
open Go.RowKit Ev

theorem refp_new2 {w0 w : World} (hb : Below w0.heap.size w0 w) : RefP w0 (w.alloc (.cells (cellsQ q0 (.slice none 0 0)) 38)) w0.heap.size w.heap.size q0 [] none 0 :=
  ⟨Deep.blk_alloc_new _ _, Told.nil _ _ _, rfl, by decide, hb.alloc hb.size _, hb.size, by simp; have := hb.size; omega⟩

theorem all_par (l : List UInt8) : ∀ x ∈ allE l, ParOk x.params := by
  intro x hx
  unfold allE at hx
  rcases List.mem_append.1 hx with h | h
  · exact par_runE _ _ x h
  · exact mark_par _ x h

set_option maxRecDepth 100000 in
set_option maxHeartbeats 2000000 in
theorem tell_main (s : ByteArray) (w : World) (hs : s.size ≤ 5000) (hT : D5.Tabs w) : Calls Tryd.prog 4 #[.string s] w fun e w' => e = .returned (.bool true) ∧ Below w.heap.size w w' := by
  have HA := Lib.hid (awake_any w hT (tabs_lt hT))
  have HT := Lib.hid hT
  have d1 : decide ((s.size : Int) > 5000) = false := by simp; omega
  have d1' : decide ((5000 : Int) < s.size) = false := by simp; omega
  have kb := build_refp
  obtain ⟨S, hS⟩ : ∃ S, S = s.data.toList := ⟨_, rfl⟩
  have hSl : S.length = s.size := by rw [hS]; exact Array.length_toList
  have HSU := Lib.hid (And.intro hS hSl)
  have HZ := Lib.hid hs
  clear hT hS hSl hs
  go_enter Tryd.func4, Tryd.ntmps4
  go_wp2_with fail
  refine (show Calls _ _ _ _ _ from HA.out).mono ?_
  rintro e w1 ⟨rfl, hb⟩
  have HR0 := Lib.hid (refp_new2 hb)
  obtain ⟨a, ea⟩ : ∃ a, a = w1.heap.size := ⟨_, rfl⟩
  have HEa := Lib.hid ea
  clear hb HA ea
  go_wp2
  rw [← HEa.out]
  go_loopw [4] (fun i wr => ∃ k : Nat, k ≤ s.size ∧ i = .int .i64 k ∧ RefAt w wr w.heap.size a S k) (fun i _ => s.size - (RowKit.intOf i).toNat)
  case atStart => exact ⟨0, Nat.zero_le _, rfl, ⟨Nat.zero_le _, Nat.zero_le _, Nat.zero_le _, Nat.zero_le _⟩, none, 0, by rw [HEa.out]; exact HR0.out⟩
  case round =>
    obtain ⟨k, hk, rfl, href⟩ := hrel
    rename_i wr
    have hzz := HZ.out
    by_cases hlt : k < s.size
    · have hlt' : k < S.length := by rw [HSU.out.2]; exact hlt
      have hb : S[k] = s[k] := by have := HSU.out.1; subst this; rfl
      have C0 := refE_byte href hlt' (by have := HZ.out; omega)
      rw [hb] at C0
      have C := Lib.hid C0
      clear C0 href hb
      go_wp2_with fail
      refine (show Calls _ _ _ _ _ from C.out).mono ?_
      rintro e w2 ⟨rfl, h1, _⟩
      have H1 := Lib.hid h1
      clear h1 C
      go_wp2
      go_roundw
      case rel => exact ⟨k + 1, by omega, by go_num, H1.out⟩
      case measure => simp [RowKit.intOf]; omega
    · have hkn : k = s.size := by omega
      subst hkn
      obtain ⟨hbn, A, c, hR⟩ := href
      rw [List.take_of_length_le (by rw [HSU.out.2]; exact Nat.le_refl _)] at hbn hR
      have HRF := Lib.hid hR
      have HN := Lib.hid (mine_new (w0 := wr) (Below.refl _ _) (HT.out.below hR.old (Nat.le_refl _)))
      have hla : a < wr.heap.size := hR.lt
      clear hR hbn kb HR0
      go_wp2_with fail
      refine (show Calls _ _ _ _ _ from HN.out).mono ?_
      rintro e w2 ⟨rfl, hp, hbb⟩
      obtain ⟨p, ep⟩ : ∃ p, p = wr.heap.size := ⟨_, rfl⟩
      rw [← ep] at hp ⊢
      have HF := Lib.hid (mine_feed hp s S HSU.out.1 (by have := HZ.out; omega) (by decide) (by decide))
      clear hp hbb HN ep
      go_wp2_with fail
      refine (show Calls _ _ _ _ _ from HF.out).mono ?_
      rintro e w3 ⟨rfl, hp, hst⟩
      rw [List.nil_append] at hp
      have HMp := Lib.hid hp
      obtain ⟨q, hq⟩ : ∃ q, q = (runE q0 S).2 := ⟨_, rfl⟩
      have HQ := Lib.hid hq
      have HCC : Hid (∀ w', Below w3.heap.size w3 w' → w'.cell? ⟨a, 0, none⟩ = some (.int .i64 q.st) ∧ w'.cell? ⟨a, 1, none⟩ = some (.string (strK q.kept))) := Lib.hid (fun w' hw => by
        have h' := RefP.below HRF.out (HMp.out.below hw).old
        rw [HQ.out]
        exact ⟨by rw [cell_at h'.blk]; rfl, by rw [cell_at h'.blk]; rfl⟩)
      obtain ⟨c0, c1⟩ := HCC.out w3 (Below.refl _ _)
      have HSt : Hid (∀ w', Below w3.heap.size w3 w' → Calls Tryd.prog 19 #[.pointer (some ⟨p, 0, none⟩)] w' fun e w'' => e = .returned (.int .i64 (q.st : Nat)) ∧ w' = w'') := Lib.hid (fun w' hw => mine_state (HMp.out.below hw) q.st (by rw [HQ.out]))
      have HWt : Hid (∀ w' (b : Bool), b = waitsB q → Below w3.heap.size w3 w' → Calls Tryd.prog 17 #[.pointer (some ⟨p, 0, none⟩)] w' fun e w'' => e = .returned (.bool b) ∧ Below w'.heap.size w' w'') := Lib.hid (fun w' b hb hw => mine_waits (HMp.out.below hw) b (by rw [hb, HQ.out]))
      clear hp hst HF hq
      by_cases hst0 : q.st = 0
      · have d3 : ((q.st : Int) != 0) = false := by simp [hst0]
        have d4 : ((q.st : Int) != (q.st : Int)) = false := by simp
        obtain ⟨wb, hwb⟩ : ∃ wb, wb = waitsB q := ⟨_, rfl⟩
        have e0 : (strK q.kept).toList.isEmpty = !wb := by
          rw [hwb]; unfold waitsB; rw [hst0]
          by_cases hk : q.kept = []
          · rw [hk, D5.str_none]; rfl
          · rw [D5.str_some hk]
            cases h : q.kept with
            | nil => exact absurd h hk
            | cons b l => rfl
        have HW0 := Lib.hid (fun w' => HWt.out w' wb hwb)
        obtain ⟨st, HQS⟩ : ∃ st, Hid (q.st = st) := ⟨_, Lib.hid rfl⟩
        rw [HQS.out] at hst0 d3 d4 c0 HCC HSt
        generalize strK q.kept = X at *
        clear hwb HWt
        go_wp2
        go_region_held3 (fun w' => w'.cell? ⟨a, 0, none⟩ = some (.int .i64 (st : Nat)) ∧ w'.cell? ⟨a, 1, none⟩ = some (.string X))
          (first | go_keep | exact ⟨x0, x1⟩)
          (first | (go_at_call 19; (with_reducible refine (HSt.out _ (of_drew (Below.refl _ _))).mono ?_); rintro e w4 ⟨rfl, rfl⟩) | (go_at_call 17; (with_reducible refine (HW0.out _ (of_drew (Below.refl _ _))).mono ?_); rintro e w5 ⟨rfl, hb5⟩; obtain ⟨x0, x1⟩ := HCC.out w5 (of_drew hb5); have HB5 := Lib.hid hb5; clear hb5))
        have HMp5 := Lib.hid (HMp.out.below (of_drew HB5.out))
        clear HB5 HMp HSt HW0 x0 x1
        have HE := Lib.hid (mine_end HMp5.out)
        go_wp2_with fail
        refine (show Calls _ _ _ _ _ from HE.out).mono ?_
        rintro e w6 ⟨rfl, hp, hst⟩
        have HM6 := Lib.hid hp
        obtain ⟨L, hL⟩ : ∃ L, L = allE S := ⟨_, rfl⟩
        have HL := Lib.hid hL
        have HP := Lib.hid (all_par S)
        have hc : L.length ≤ 100000 := by rw [hL]; have h1 := allE_count S; have h2 := HSU.out.2; have h3 := HZ.out; omega
        have hc9 : L.length ≤ 90000 := by rw [hL]; have h1 := allE_count S; have h2 := HSU.out.2; have h3 := HZ.out; omega
        obtain ⟨n, hn⟩ : ∃ n, n = L.length := ⟨_, rfl⟩
        have HN := Lib.hid hn
        have hn1 : n ≤ 100000 := by omega
        rw [show (runE q0 S).1 ++ markE (runE q0 S).2 = L from hL.symm] at hp
        have HT3 := Lib.hid (mine_take (hp.below (of_drew (Below.refl _ _))) (by rw [HL.out]; exact HP.out) hc9 n hn)
        have HSE : Hid (∀ w', Below wr.heap.size wr w' → w'.cell? ⟨a, 0, none⟩ = some (.int .i64 (st : Nat))) := Lib.hid (fun w' hw => by
          have h' := RefP.below HRF.out hw
          rw [← HQS.out, HQ.out, cell_at h'.blk]; rfl)
        have x0 := HSE.out w6 HM6.out.old
        clear hst hp HE HMp5 HM6 hL hn hc hc9 HCC
        go_wp2
        go_region_held3 (fun w' => w'.cell? ⟨a, 0, none⟩ = some (.int .i64 (st : Nat)))
          (first | go_keep | exact y7 | exact y8 | exact y9)
          (first | (go_at_call 13; (with_reducible refine HT3.out.mono ?_); rintro e w7 ⟨A3, k3, rfl, htold, hp7, hst7⟩; have HM7 := Lib.hid hp7; have y7 := HSE.out w7 hp7.old; have HR1 := Lib.hid (htold.reads (fun e he => (par_small (HP.out e (by rw [← HL.out]; exact he))).1)); have HAl := Lib.hid (allE_any s S HSU.out.1 (by have := HZ.out; omega) w7); rw [← HL.out] at HAl; clear htold hp7 hst7) | (go_at_call 22; (with_reducible refine HAl.out.mono ?_); rintro e w8 ⟨A4, k4, rfl, htold, hb8⟩; have HM8 := Lib.hid (HM7.out.below hb8); have y8 := HSE.out w8 HM8.out.old; have HR2 := Lib.hid (htold.reads (fun e he => (par_small (HP.out e (by rw [← HL.out]; exact he))).1)); have HR3 := Lib.hid (HR1.out.below hb8); rw [← HN.out]; have HSD := Lib.hid (sameDoc_yes (w := w8) n k3 k4 HN.out hn1 (fun e he => (par_small (HP.out e (by rw [← HL.out]; exact he))).2) HR3.out HR2.out); clear htold hb8) | (go_at_call 21; (with_reducible refine HSD.out.mono ?_); rintro e w9 ⟨rfl, hb9⟩; have HM9 := Lib.hid (HM8.out.below hb9); have y9 := HSE.out w9 HM9.out.old; clear hb9) | (go_at_call 19; (with_reducible refine (mine_state HM9.out st (by rw [← HQS.out, HQ.out])).mono ?_); rintro e w10 ⟨rfl, rfl⟩))
        all_goals
          go_wp2
          go_ret
          exact ⟨by simp, (RefP.below HRF.out HM9.out.old).old⟩
      · have d3 : ((q.st : Int) != 0) = true := by simp; omega
        have d4 : ((q.st : Int) != (q.st : Int)) = false := by simp
        have hwb : true = waitsB q := by unfold waitsB; simp [hst0]
        have HW0 := Lib.hid (fun w' => HWt.out w' true hwb)
        obtain ⟨st, HQS⟩ : ∃ st, Hid (q.st = st) := ⟨_, Lib.hid rfl⟩
        rw [HQS.out] at hst0 d3 d4 c0 HCC HSt
        generalize strK q.kept = X at *
        clear hwb HWt
        go_wp2
        refine wp_region_held_drew (S := fun w' => w'.cell? ⟨a, 0, none⟩ = some (.int .i64 (st : Nat))) (by kernel_rfl) ?_ (fun hHeld => ?_)
        · exact c0
        refine wpAnyH_take (i := 0) (oi := { dst := some 28, op := Op.move (Operand.tmp 5), type := 22, pos := "law.go:60", after := #[], guard := none }) (v := ?_) rfl (by kernel_rfl) (by kernel_rfl) (by kernel_rfl) (fun _ _ _ h => h) (Or.inl ⟨by rfl, ?_⟩) (by assumption) ?_
        rotate_left
        · intro w hSw
          try dsimp only at hSw
          go_simp <;> with_reducible rfl
        try simp only [Act.put, List.setIfInBounds_toArray, List.set_cons_zero, List.set_cons_succ]
        refine wpAnyH_take (i := 2) (oi := { dst := some 30, op := Op.move (Operand.tmp 3), type := 33, pos := "law.go:60", after := #[], guard := none }) (v := ?_) rfl (by kernel_rfl) (by kernel_rfl) (by kernel_rfl) (fun _ _ _ h => h) (Or.inl ⟨by rfl, ?_⟩) (by assumption) ?_
        rotate_left
        · intro w hSw
          try dsimp only at hSw
          go_simp <;> with_reducible rfl
        try simp only [Act.put, List.setIfInBounds_toArray, List.set_cons_zero, List.set_cons_succ]
        refine wpAnyH_take (i := 3) (oi := { dst := some 31, op := Op.nilCheck (Operand.tmp 30), type := 0, pos := "law.go:60", after := #[{ on := 2, ground := Ground.data }], guard := none }) (v := ?_) rfl (by kernel_rfl) (by kernel_rfl) (by kernel_rfl) (fun _ _ _ h => h) (Or.inl ⟨by rfl, ?_⟩) (by assumption) ?_
        rotate_left
        · intro w hSw
          try dsimp only at hSw
          go_simp <;> with_reducible rfl
        try simp only [Act.put, List.setIfInBounds_toArray, List.set_cons_zero, List.set_cons_succ]
        refine wpAnyH_take (i := 4) (oi := { dst := some 32, op := Op.fieldAddr 38 (Operand.tmp 31) 0, type := 0, pos := "law.go:60", after := #[{ on := 3, ground := Ground.data }], guard := none }) (v := ?_) rfl (by kernel_rfl) (by kernel_rfl) (by kernel_rfl) (fun _ _ _ h => h) (Or.inl ⟨by rfl, ?_⟩) (by assumption) ?_
        rotate_left
        · intro w hSw
          try dsimp only at hSw
          go_simp <;> with_reducible rfl
        try simp only [Act.put, List.setIfInBounds_toArray, List.set_cons_zero, List.set_cons_succ]
        refine wpAnyH_take (i := 5) (oi := { dst := some 33, op := Op.load 3 (Operand.tmp 32), type := 3, pos := "law.go:60", after := #[{ on := 4, ground := Ground.data }], guard := none }) (v := ?_) rfl (by kernel_rfl) (by kernel_rfl) (by kernel_rfl) (fun _ _ _ h => h) (Or.inl ⟨by rfl, ?_⟩) (by assumption) ?_
        rotate_left
        · intro w hSw
          try dsimp only at hSw
          go_simp <;> with_reducible rfl
        try simp only [Act.put, List.setIfInBounds_toArray, List.set_cons_zero, List.set_cons_succ]
        refine wpAnyH_ready (rs := [1]) (by kernel_rfl) (by simp) ?_
        refine AllReadyH.cons (o := { dst := some 29, op := Op.call { callee := Callee.value (Operand.func 19), args := #[Operand.tmp 28], argTypes := #[22] }, type := 3, pos := "law.go:60", after := #[{ on := 0, ground := Ground.data }], guard := none }) rfl (fun K hK => ?_) AllReadyH.nil
        go_simp
        refine (HSt.out _ (of_drew (Below.refl _ _))).mono ?_
        rintro e w4 ⟨rfl, rfl⟩
        try (go_wp2_with fail)
        refine hK.out _ _ ?_ (fun hHeld => ?_)
        · exact c0
        clear hK K
        try simp only [Act.put, List.setIfInBounds_toArray, List.set_cons_zero, List.set_cons_succ]
        refine wpAnyH_take (i := 6) (oi := { dst := some 34, op := Op.binOp BinOp.neq 3 (Operand.tmp 29) (Operand.tmp 33) 3, type := 4, pos := "law.go:60", after := #[{ on := 1, ground := Ground.data }, { on := 5, ground := Ground.data }], guard := none }) (v := ?_) rfl (by kernel_rfl) (by kernel_rfl) (by kernel_rfl) (fun _ _ _ h => h) (Or.inl ⟨by rfl, ?_⟩) (by assumption) ?_
        rotate_left
        · intro w hSw
          try dsimp only at hSw
          go_simp <;> with_reducible rfl
        try simp only [Act.put, List.setIfInBounds_toArray, List.set_cons_zero, List.set_cons_succ]
        refine wpAnyH_take (i := 7) (oi := { dst := some 35, op := Op.move (Operand.tmp 34), type := 4, pos := "law.go:60", after := #[{ on := 6, ground := Ground.data }, { on := 1, ground := Ground.chain }], guard := none }) (v := ?_) rfl (by kernel_rfl) (by kernel_rfl) (by kernel_rfl) (fun _ _ _ h => h) (Or.inl ⟨by rfl, ?_⟩) (by assumption) ?_
        rotate_left
        · intro w hSw
          try dsimp only at hSw
          go_simp <;> with_reducible rfl
        try simp only [Act.put, List.setIfInBounds_toArray, List.set_cons_zero, List.set_cons_succ]
        refine wpAnyH_take (i := 8) (oi := { dst := some 36, op := Op.move (Operand.tmp 5), type := 22, pos := "law.go:60", after := #[{ on := 7, ground := Ground.guard }], guard := some (7, false) }) (v := ?_) rfl (by kernel_rfl) (by kernel_rfl) (by kernel_rfl) (fun _ _ _ h => h) (Or.inl ⟨by rfl, ?_⟩) (by assumption) ?_
        rotate_left
        · intro w hSw
          try dsimp only at hSw
          go_simp <;> with_reducible rfl
        try simp only [Act.put, List.setIfInBounds_toArray, List.set_cons_zero, List.set_cons_succ]
        refine wpAnyH_take (i := 10) (oi := { dst := some 38, op := Op.move (Operand.tmp 3), type := 33, pos := "law.go:60", after := #[{ on := 7, ground := Ground.guard }], guard := some (7, false) }) (v := ?_) rfl (by kernel_rfl) (by kernel_rfl) (by kernel_rfl) (fun _ _ _ h => h) (Or.inl ⟨by rfl, ?_⟩) (by assumption) ?_
        rotate_left
        · intro w hSw
          try dsimp only at hSw
          go_simp <;> with_reducible rfl
        try simp only [Act.put, List.setIfInBounds_toArray, List.set_cons_zero, List.set_cons_succ]
        refine wpAnyH_take (i := 11) (oi := { dst := some 39, op := Op.nilCheck (Operand.tmp 38), type := 0, pos := "law.go:60", after := #[{ on := 10, ground := Ground.data }, { on := 7, ground := Ground.guard }], guard := some (7, false) }) (v := ?_) rfl (by kernel_rfl) (by kernel_rfl) (by kernel_rfl) (fun _ _ _ h => h) (Or.inl ⟨by rfl, ?_⟩) (by assumption) ?_
        rotate_left
        · intro w hSw
          try dsimp only at hSw
          go_simp <;> with_reducible rfl
        try simp only [Act.put, List.setIfInBounds_toArray, List.set_cons_zero, List.set_cons_succ]
        refine wpAnyH_take (i := 12) (oi := { dst := some 40, op := Op.fieldAddr 38 (Operand.tmp 39) 0, type := 0, pos := "law.go:60", after := #[{ on := 11, ground := Ground.data }, { on := 7, ground := Ground.guard }], guard := some (7, false) }) (v := ?_) rfl (by kernel_rfl) (by kernel_rfl) (by kernel_rfl) (fun _ _ _ h => h) (Or.inl ⟨by rfl, ?_⟩) (by assumption) ?_
        rotate_left
        · intro w hSw
          try dsimp only at hSw
          go_simp <;> with_reducible rfl
        try simp only [Act.put, List.setIfInBounds_toArray, List.set_cons_zero, List.set_cons_succ]
        refine wpAnyH_take (i := 13) (oi := { dst := some 41, op := Op.load 3 (Operand.tmp 40), type := 3, pos := "law.go:60", after := #[{ on := 12, ground := Ground.data }, { on := 7, ground := Ground.guard }], guard := some (7, false) }) (v := ?_) rfl (by kernel_rfl) (by kernel_rfl) (by kernel_rfl) (fun _ _ _ h => h) (Or.inl ⟨by rfl, ?_⟩) (by assumption) ?_
        rotate_left
        · intro w hSw
          try dsimp only at hSw
          go_simp <;> with_reducible rfl
        try simp only [Act.put, List.setIfInBounds_toArray, List.set_cons_zero, List.set_cons_succ]
        refine wpAnyH_take (i := 14) (oi := { dst := some 42, op := Op.binOp BinOp.neq 3 (Operand.tmp 41) (Operand.const (Value.int IntKind.i64 0)) 3, type := 4, pos := "law.go:60", after := #[{ on := 13, ground := Ground.data }, { on := 7, ground := Ground.guard }], guard := some (7, false) }) (v := ?_) rfl (by kernel_rfl) (by kernel_rfl) (by kernel_rfl) (fun _ _ _ h => h) (Or.inl ⟨by rfl, ?_⟩) (by assumption) ?_
        rotate_left
        · intro w hSw
          try dsimp only at hSw
          go_simp <;> with_reducible rfl
        try simp only [Act.put, List.setIfInBounds_toArray, List.set_cons_zero, List.set_cons_succ]
        refine wpAnyH_ready (rs := [9]) (by kernel_rfl) (by simp) ?_
        refine AllReadyH.cons (o := { dst := some 37, op := Op.call { callee := Callee.value (Operand.func 17), args := #[Operand.tmp 36], argTypes := #[22] }, type := 4, pos := "law.go:60", after := #[{ on := 8, ground := Ground.data }, { on := 7, ground := Ground.chain }, { on := 7, ground := Ground.guard }], guard := some (7, false) }) rfl (fun K hK => ?_) AllReadyH.nil
        go_simp
        refine (HW0.out _ (of_drew (Below.refl _ _))).mono ?_
        rintro e w5 ⟨rfl, hb5⟩
        obtain ⟨x0, x1⟩ := HCC.out w5 (of_drew hb5)
        have HB5 := Lib.hid hb5
        clear hb5
        try (go_wp2_with fail)
        refine hK.out _ _ ?_ (fun hHeld => ?_)
        · exact x0
        clear hK K
        try simp only [Act.put, List.setIfInBounds_toArray, List.set_cons_zero, List.set_cons_succ]
        refine wpAnyH_take (i := 15) (oi := { dst := some 43, op := Op.move (Operand.tmp 42), type := 4, pos := "law.go:60", after := #[{ on := 14, ground := Ground.data }, { on := 9, ground := Ground.chain }, { on := 7, ground := Ground.guard }], guard := some (7, false) }) (v := ?_) rfl (by kernel_rfl) (by kernel_rfl) (by kernel_rfl) (fun _ _ _ h => h) (Or.inl ⟨by rfl, ?_⟩) (by assumption) ?_
        rotate_left
        · intro w hSw
          try dsimp only at hSw
          go_simp <;> with_reducible rfl
        try simp only [Act.put, List.setIfInBounds_toArray, List.set_cons_zero, List.set_cons_succ]
        refine wpAnyH_take (i := 16) (oi := { dst := some 44, op := Op.move (Operand.tmp 3), type := 33, pos := "law.go:60", after := #[{ on := 15, ground := Ground.guard }], guard := some (15, false) }) (v := undef) rfl (by kernel_rfl) (by kernel_rfl) (by kernel_rfl) (fun _ _ _ h => h) (Or.inr ⟨by rfl, rfl⟩) (by assumption) ?_
        try simp only [Act.put, List.setIfInBounds_toArray, List.set_cons_zero, List.set_cons_succ]
        refine wpAnyH_take (i := 17) (oi := { dst := some 45, op := Op.nilCheck (Operand.tmp 44), type := 0, pos := "law.go:60", after := #[{ on := 16, ground := Ground.data }, { on := 15, ground := Ground.guard }], guard := some (15, false) }) (v := undef) rfl (by kernel_rfl) (by kernel_rfl) (by kernel_rfl) (fun _ _ _ h => h) (Or.inr ⟨by rfl, rfl⟩) (by assumption) ?_
        try simp only [Act.put, List.setIfInBounds_toArray, List.set_cons_zero, List.set_cons_succ]
        refine wpAnyH_take (i := 18) (oi := { dst := some 46, op := Op.fieldAddr 38 (Operand.tmp 45) 1, type := 0, pos := "law.go:60", after := #[{ on := 17, ground := Ground.data }, { on := 15, ground := Ground.guard }], guard := some (15, false) }) (v := undef) rfl (by kernel_rfl) (by kernel_rfl) (by kernel_rfl) (fun _ _ _ h => h) (Or.inr ⟨by rfl, rfl⟩) (by assumption) ?_
        try simp only [Act.put, List.setIfInBounds_toArray, List.set_cons_zero, List.set_cons_succ]
        refine wpAnyH_take (i := 19) (oi := { dst := some 47, op := Op.fieldAddr 35 (Operand.tmp 46) 0, type := 0, pos := "law.go:60", after := #[{ on := 18, ground := Ground.data }, { on := 15, ground := Ground.guard }], guard := some (15, false) }) (v := undef) rfl (by kernel_rfl) (by kernel_rfl) (by kernel_rfl) (fun _ _ _ h => h) (Or.inr ⟨by rfl, rfl⟩) (by assumption) ?_
        try simp only [Act.put, List.setIfInBounds_toArray, List.set_cons_zero, List.set_cons_succ]
        refine wpAnyH_take (i := 20) (oi := { dst := some 48, op := Op.load 9 (Operand.tmp 47), type := 9, pos := "law.go:60", after := #[{ on := 19, ground := Ground.data }, { on := 15, ground := Ground.guard }], guard := some (15, false) }) (v := undef) rfl (by kernel_rfl) (by kernel_rfl) (by kernel_rfl) (fun _ _ _ h => h) (Or.inr ⟨by rfl, rfl⟩) (by assumption) ?_
        try simp only [Act.put, List.setIfInBounds_toArray, List.set_cons_zero, List.set_cons_succ]
        refine wpAnyH_take (i := 21) (oi := { dst := some 49, op := Op.binOp BinOp.neq 9 (Operand.tmp 48) (Operand.const (Value.string { data := #[] })) 9, type := 4, pos := "law.go:60", after := #[{ on := 20, ground := Ground.data }, { on := 15, ground := Ground.guard }], guard := some (15, false) }) (v := undef) rfl (by kernel_rfl) (by kernel_rfl) (by kernel_rfl) (fun _ _ _ h => h) (Or.inr ⟨by rfl, rfl⟩) (by assumption) ?_
        try simp only [Act.put, List.setIfInBounds_toArray, List.set_cons_zero, List.set_cons_succ]
        refine wpAnyH_take (i := 22) (oi := { dst := some 50, op := Op.pick (Operand.tmp 43) (Operand.const (Value.bool true)) (Operand.tmp 49), type := 4, pos := "law.go:60", after := #[{ on := 15, ground := Ground.data }, { on := 21, ground := Ground.data }, { on := 7, ground := Ground.guard }], guard := some (7, false) }) (v := ?_) rfl (by kernel_rfl) (by kernel_rfl) (by kernel_rfl) (fun _ _ _ h => h) (Or.inl ⟨by rfl, ?_⟩) (by assumption) ?_
        rotate_left
        · intro w hSw
          try dsimp only at hSw
          go_simp <;> with_reducible rfl
        try simp only [Act.put, List.setIfInBounds_toArray, List.set_cons_zero, List.set_cons_succ]
        refine wpAnyH_take (i := 23) (oi := { dst := some 51, op := Op.binOp BinOp.neq 4 (Operand.tmp 37) (Operand.tmp 50) 4, type := 4, pos := "law.go:60", after := #[{ on := 9, ground := Ground.data }, { on := 22, ground := Ground.data }, { on := 7, ground := Ground.guard }], guard := some (7, false) }) (v := ?_) rfl (by kernel_rfl) (by kernel_rfl) (by kernel_rfl) (fun _ _ _ h => h) (Or.inl ⟨by rfl, ?_⟩) (by assumption) ?_
        rotate_left
        · intro w hSw
          try dsimp only at hSw
          go_simp <;> with_reducible rfl
        try simp only [Act.put, List.setIfInBounds_toArray, List.set_cons_zero, List.set_cons_succ]
        refine wpAnyH_take (i := 24) (oi := { dst := some 52, op := Op.pick (Operand.tmp 35) (Operand.const (Value.bool true)) (Operand.tmp 51), type := 4, pos := "law.go:60", after := #[{ on := 7, ground := Ground.data }, { on := 23, ground := Ground.data }], guard := none }) (v := ?_) rfl (by kernel_rfl) (by kernel_rfl) (by kernel_rfl) (fun _ _ _ h => h) (Or.inl ⟨by rfl, ?_⟩) (by assumption) ?_
        rotate_left
        · intro w hSw
          try dsimp only at hSw
          go_simp <;> with_reducible rfl
        try simp only [Act.put, List.setIfInBounds_toArray, List.set_cons_zero, List.set_cons_succ]
        refine wpAnyH_done (by kernel_rfl) ?_ _
        have HMp5 := Lib.hid (HMp.out.below (of_drew HB5.out))
        clear HB5 HMp HSt HW0 x0 x1
        have HE := Lib.hid (mine_end HMp5.out)
        go_wp2_with fail
        refine (show Calls _ _ _ _ _ from HE.out).mono ?_
        rintro e w6 ⟨rfl, hp, hst⟩
        have HM6 := Lib.hid hp
        obtain ⟨L, hL⟩ : ∃ L, L = allE S := ⟨_, rfl⟩
        have HL := Lib.hid hL
        have HP := Lib.hid (all_par S)
        have hc : L.length ≤ 100000 := by rw [hL]; have h1 := allE_count S; have h2 := HSU.out.2; have h3 := HZ.out; omega
        have hc9 : L.length ≤ 90000 := by rw [hL]; have h1 := allE_count S; have h2 := HSU.out.2; have h3 := HZ.out; omega
        obtain ⟨n, hn⟩ : ∃ n, n = L.length := ⟨_, rfl⟩
        have HN := Lib.hid hn
        have hn1 : n ≤ 100000 := by omega
        rw [show (runE q0 S).1 ++ markE (runE q0 S).2 = L from hL.symm] at hp
        have HT3 := Lib.hid (mine_take (hp.below (of_drew (Below.refl _ _))) (by rw [HL.out]; exact HP.out) hc9 n hn)
        have HSE : Hid (∀ w', Below wr.heap.size wr w' → w'.cell? ⟨a, 0, none⟩ = some (.int .i64 (st : Nat))) := Lib.hid (fun w' hw => by
          have h' := RefP.below HRF.out hw
          rw [← HQS.out, HQ.out, cell_at h'.blk]; rfl)
        have x0 := HSE.out w6 HM6.out.old
        clear hst hp HE HMp5 HM6 hL hn hc hc9 HCC
        go_wp2
        go_region_held3 (fun w' => w'.cell? ⟨a, 0, none⟩ = some (.int .i64 (st : Nat)))
          (first | go_keep | exact y7 | exact y8 | exact y9)
          (first | (go_at_call 13; (with_reducible refine HT3.out.mono ?_); rintro e w7 ⟨A3, k3, rfl, htold, hp7, hst7⟩; have HM7 := Lib.hid hp7; have y7 := HSE.out w7 hp7.old; have HR1 := Lib.hid (htold.reads (fun e he => (par_small (HP.out e (by rw [← HL.out]; exact he))).1)); have HAl := Lib.hid (allE_any s S HSU.out.1 (by have := HZ.out; omega) w7); rw [← HL.out] at HAl; clear htold hp7 hst7) | (go_at_call 22; (with_reducible refine HAl.out.mono ?_); rintro e w8 ⟨A4, k4, rfl, htold, hb8⟩; have HM8 := Lib.hid (HM7.out.below hb8); have y8 := HSE.out w8 HM8.out.old; have HR2 := Lib.hid (htold.reads (fun e he => (par_small (HP.out e (by rw [← HL.out]; exact he))).1)); have HR3 := Lib.hid (HR1.out.below hb8); rw [← HN.out]; have HSD := Lib.hid (sameDoc_yes (w := w8) n k3 k4 HN.out hn1 (fun e he => (par_small (HP.out e (by rw [← HL.out]; exact he))).2) HR3.out HR2.out); clear htold hb8) | (go_at_call 21; (with_reducible refine HSD.out.mono ?_); rintro e w9 ⟨rfl, hb9⟩; have HM9 := Lib.hid (HM8.out.below hb9); have y9 := HSE.out w9 HM9.out.old; clear hb9) | (go_at_call 19; (with_reducible refine (mine_state HM9.out st (by rw [← HQS.out, HQ.out])).mono ?_); rintro e w10 ⟨rfl, rfl⟩))
        all_goals
          go_wp2
          go_ret
          exact ⟨by simp, (RefP.below HRF.out HM9.out.old).old⟩

set_option maxRecDepth 100000 in
set_option maxHeartbeats 1000000 in
theorem tell_walk (s : ByteArray) (w : World) (hs9 : s.size ≤ maxLen) (hT : D5.Tabs w) : Calls Tryd.prog 4 #[.string s] w fun e w' => e = .returned (.bool true) ∧ Below w.heap.size w w' := by
  by_cases hs : s.size ≤ 5000
  case neg =>
    have HA := Lib.hid (awake_any w hT (tabs_lt hT))
    have d1 : decide ((s.size : Int) > 5000) = true := by simp; omega
    have d1' : decide ((5000 : Int) < s.size) = true := by simp; omega
    clear hs hT
    go_enter Tryd.func4, Tryd.ntmps4
    go_wp2_with fail
    refine (show Calls _ _ _ _ _ from HA.out).mono ?_
    rintro e w1 ⟨rfl, hb⟩
    have HB := Lib.hid hb
    clear hb HA
    go_wp2
    go_ret
    exact ⟨rfl, HB.out⟩
  exact tell_main s w hs hT
end Go.Proofs.YtfekjlajagoooaaDoor

/-! ## Layer 8: EventsLong's walk. -/
set_option linter.unusedVariables false
namespace Go.Proofs.YtfekjlajagoooaaDoor
open Go.RowKit Ev

theorem wf_u8 {a : Int} (h : (Lit.int .u8 a).wf = true) : ∃ m : Nat, m < 256 ∧ a = (m : Int) := by
  simp [Lit.wf] at h
  have h1 : a ≤ 255 := h.2
  have h0 : 0 ≤ a := h.1
  exact ⟨a.toNat, by omega, by omega⟩
theorem wf_u16 {a : Int} (h : (Lit.int .u16 a).wf = true) : ∃ m : Nat, m < 65536 ∧ a = (m : Int) := by
  simp [Lit.wf] at h
  have h1 : a ≤ 65535 := h.2
  have h0 : 0 ≤ a := h.1
  exact ⟨a.toNat, by omega, by omega⟩

theorem long_rep (s : ByteArray) (m : Nat) (x : Int) (hx : x = (m : Int)) (hm : m < 2048) (hs : s.size = 1) (w : World) :
    Calls Tryd.prog 14 #[.string s, .int .i64 x] w fun e w' => ∃ X : ByteArray, e = .returned (.string X) ∧ X.size < 2048 ∧ Below w.heap.size w w' := by
  subst hx
  refine (Tryd.strings_Repeat s m w (by omega) (by rw [hs]; omega)).mono ?_
  rintro e w' ⟨rfl, hb⟩
  refine ⟨_, rfl, ?_, hb⟩
  show (Lib.repeatL s.data.toList m).toArray.size < 2048
  rw [List.size_toArray, Lib.repeatL_length, show s.data.toList.length = s.size from rfl, hs]
  omega
/-- EventsTell of any string, at a world behind w. -/
theorem tell_at {w : World} (hT : D5.Tabs w) {w1 : World} (hb : Below w.heap.size w w1) (X : ByteArray) (hX : X.size ≤ maxLen) : Calls Tryd.prog 4 #[.string X] w1 fun e w' => e = .returned (.bool true) ∧ Below w.heap.size w w' :=
  (tell_walk X w1 hX (hT.below hb (Nat.le_refl _))).mono fun e w' h => ⟨h.1, hb.trans (h.2.mono hb.size)⟩

set_option maxRecDepth 100000 in
set_option maxHeartbeats 1000000 in
theorem long_big (b m : Nat) (ahead behind : ByteArray) (w : World) (hT : D5.Tabs w) (ha : ahead.size ≤ maxLen) (hh : behind.size ≤ maxLen) (h : 300 < ahead.size ∨ 300 < behind.size) : Calls Tryd.prog 5 #[.int .u8 (b : Int), .int .u16 (m : Int), .string ahead, .string behind] w fun e w' => e = .returned (.bool true) ∧ Below w.heap.size w w' := by
  have HA := Lib.hid (awake_any w hT (tabs_lt hT))
  unfold maxLen at ha hh
  by_cases h1 : 300 < ahead.size
  · have g1 : decide ((300 : Int) < ahead.size) = true := by simp; omega
    clear h hT
    go_enter Tryd.func5, Tryd.ntmps5
    go_wp2_with fail
    refine (show Calls _ _ _ _ _ from HA.out).mono ?_
    rintro e w1 ⟨rfl, hb⟩
    have B1 := Lib.hid hb
    clear hb HA
    go_wp2
    go_ret
    exact ⟨rfl, B1.out⟩
  · have g1 : decide ((300 : Int) < ahead.size) = false := by simp; omega
    have g2 : decide ((300 : Int) < behind.size) = true := by simp; omega
    clear h hT
    go_enter Tryd.func5, Tryd.ntmps5
    go_wp2_with fail
    refine (show Calls _ _ _ _ _ from HA.out).mono ?_
    rintro e w1 ⟨rfl, hb⟩
    have B1 := Lib.hid hb
    clear hb HA
    go_wp2
    go_ret
    exact ⟨rfl, B1.out⟩

set_option maxRecDepth 100000 in
set_option maxHeartbeats 2000000 in
theorem long_small (b m : Nat) (hb9 : b < 256) (hm9 : m < 65536) (ahead behind : ByteArray) (w : World) (hT : D5.Tabs w) (ha : ahead.size ≤ 300) (hh : behind.size ≤ 300) : Calls Tryd.prog 5 #[.int .u8 (b : Int), .int .u16 (m : Int), .string ahead, .string behind] w fun e w' => e = .returned (.bool true) ∧ Below w.heap.size w w' := by
  have HA := Lib.hid (awake_any w hT (tabs_lt hT))
  have HT := Lib.hid hT
  have g1 : decide ((300 : Int) < ahead.size) = false := by simp; omega
  have g2 : decide ((300 : Int) < behind.size) = false := by simp; omega
  clear hT
  go_enter Tryd.func5, Tryd.ntmps5
  go_wp2_with fail
  refine (show Calls _ _ _ _ _ from HA.out).mono ?_
  rintro e w1 ⟨rfl, hb⟩
  have B1 := Lib.hid hb
  clear hb HA
  have hct := D5.byte_text (w1.alloc (.cells #[.int .u8 (b : Int)] 5)) w1.heap.size (UInt8.ofNat b) (b : Int) (by simp; omega) (by simp)
  go_wp2_with fail
  refine (long_rep _ (m % 2048) _ ?hx (by omega) ?hs _).mono ?_
  case hx => omega
  case hs => rfl
  rintro e w2 ⟨X, rfl, hX, hb⟩
  have B2 : Hid (Below w.heap.size w w2) := Lib.hid ((B1.out.alloc B1.out.size _).trans (hb.mono (B1.out.alloc B1.out.size _).size))
  have n1 : ¬ 9223372036854775807 < ahead.size + 2 := by omega
  have n2 : ¬ 9223372036854775807 < ahead.size + 2 + X.size := by omega
  have n3 : ¬ 9223372036854775807 < ahead.size + 2 + X.size + 1 := by omega
  have n4 : ¬ 9223372036854775807 < ahead.size + 2 + X.size + 1 + behind.size := by omega
  have n5 : ¬ 9223372036854775807 < ahead.size + 5 := by omega
  have n6 : ¬ 9223372036854775807 < ahead.size + 5 + X.size := by omega
  have n7 : ¬ 9223372036854775807 < ahead.size + 5 + X.size + 2 := by omega
  have n8 : ¬ 9223372036854775807 < ahead.size + 5 + X.size + 2 + behind.size := by omega
  have n9 : ¬ 9223372036854775807 < 1 + X.size := by omega
  have n10 : ¬ 9223372036854775807 < 1 + X.size + 1 := by omega
  have n11 : ¬ 9223372036854775807 < 1 + X.size + 1 + behind.size := by omega
  clear hb B1
  have Z1 : Hid (ahead.size + 2 + X.size + 1 + behind.size ≤ maxLen) := Lib.hid (by unfold maxLen; omega)
  have Z2 : Hid (ahead.size + 5 + X.size + 2 + behind.size ≤ maxLen) := Lib.hid (by unfold maxLen; omega)
  have Z3 : Hid (1 + X.size + 1 + behind.size ≤ maxLen) := Lib.hid (by unfold maxLen; omega)
  clear hX hct
  go_wp2_with fail
  refine (tell_at HT.out B2.out _ ?z0).mono ?_
  case z0 =>
    rw [ByteArray.size_append, ByteArray.size_append, ByteArray.size_append, ByteArray.size_append]
    exact Z1.out
  rintro e w3 ⟨rfl, hb⟩
  have B3 : Hid (Below w.heap.size w w3) := Lib.hid hb
  clear hb B2
  go_wp2_with fail
  refine (tell_at HT.out B3.out _ ?z1).mono ?_
  case z1 =>
    rw [ByteArray.size_append, ByteArray.size_append, ByteArray.size_append, ByteArray.size_append]
    exact Z2.out
  rintro e w4 ⟨rfl, hb⟩
  have B4 : Hid (Below w.heap.size w w4) := Lib.hid hb
  clear hb B3
  go_wp2_with fail
  refine (tell_at HT.out B4.out _ ?z2).mono ?_
  case z2 =>
    rw [ByteArray.size_append, ByteArray.size_append, ByteArray.size_append, ByteArray.size_append]
    exact Z1.out
  rintro e w5 ⟨rfl, hb⟩
  have B5 : Hid (Below w.heap.size w w5) := Lib.hid hb
  clear hb B4
  go_wp2_with fail
  refine (tell_at HT.out B5.out _ ?z3).mono ?_
  case z3 =>
    rw [ByteArray.size_append, ByteArray.size_append, ByteArray.size_append]
    exact Z3.out
  rintro e w6 ⟨rfl, hb⟩
  have B6 : Hid (Below w.heap.size w w6) := Lib.hid hb
  clear hb B5
  go_wp2
  go_ret
  exact ⟨by simp, B6.out⟩

theorem long_walk (c n : Int) (ahead behind : ByteArray) (w : World) (hc : (Lit.int .u8 c).wf = true) (hn : (Lit.int .u16 n).wf = true) (ha : ahead.size ≤ maxLen) (hh : behind.size ≤ maxLen) (hT : D5.Tabs w) : Calls Tryd.prog 5 #[.int .u8 c, .int .u16 n, .string ahead, .string behind] w fun e w' => e = .returned (.bool true) ∧ Below w.heap.size w w' := by
  obtain ⟨b, hb, rfl⟩ := wf_u8 hc
  obtain ⟨m, hm, rfl⟩ := wf_u16 hn
  by_cases h : 300 < ahead.size ∨ 300 < behind.size
  · exact long_big b m ahead behind w hT ha hh h
  · exact long_small b m hb hm ahead behind w hT (by omega) (by omega)
end Go.Proofs.YtfekjlajagoooaaDoor
