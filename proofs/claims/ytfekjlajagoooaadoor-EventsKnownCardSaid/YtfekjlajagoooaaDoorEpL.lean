/- Layer 8: apart, whole. -/
import Derived.Test.YtfekjlajagoooaaDoorEpK
namespace Go.Proofs.YtfekjlajagoooaaDoor
open Go.RowKit Ev

theorem rows_tab {w : World} {base n : Nat} {v : Value} {vs : List Value} {l : List (List Nat)} (h : w.ownsRow base 47 1 v n vs) (hv : RowsV w l vs) (hn : n = l.length) (hp : 0 < n) : ∃ ub c, v = .slice (some ⟨ub, 0, none⟩) n c ∧ base ≤ ub ∧ ub < w.heap.size ∧ P7.TabT w (some ⟨ub, 0, none⟩) l := by
  subst hn
  rcases h.2 with ⟨rfl, h0⟩ | ⟨g, cap, cur, rfl, hb, hh, _⟩
  · have := h.1; omega
  · refine ⟨g, cap, rfl, hb, (Array.getElem?_eq_some_iff.1 hh).1, fun _ => ⟨g, rfl, ⟨cur, hh⟩, fun r hr => ?_⟩⟩
    obtain ⟨A, c, e1, e2⟩ := hv.2 r hr
    refine ⟨A, c, ?_, e2⟩
    have := World.ownsRow.cells (w := w) h (g := g) rfl r _ e1
    rwa [P7.add_zero] at this
theorem tab_store {w : World} {ub k : Nat} {l : List (List Nat)} (h : P7.TabT w (some ⟨ub, 0, none⟩) l) (hk : k < l.length) {A : Option Addr} {c : Nat} (hr : P7.RowI w w.heap.size A (l.getD k [])) : P7.TabT (w.setCell ⟨ub, k, none⟩ (.slice A (l.getD k []).length c)) (some ⟨ub, 0, none⟩) l := fun hp => by
  obtain ⟨g, e, ⟨cur, hc⟩, hx⟩ := h hp
  cases e
  have hne : ∀ {A' : Option Addr} {q : List Nat}, P7.RowI w w.heap.size A' q → ∀ a, A' = some a → (w.setCell ⟨ub, k, none⟩ (.slice A (l.getD k []).length c)).heap[a.block]? = w.heap[a.block]? := by
    intro A' q hq a ha
    refine Below.heap_setCell _ _ _ _ ?_
    intro e
    obtain ⟨_, cur', hc'⟩ := hq.typ a ha
    rw [e] at hc'
    have hc' : w.heap[ub]? = some (.cells cur' 3 (0, 0)) := hc'
    rw [hc] at hc'
    cases hc'
  refine ⟨ub, rfl, ⟨_, heap_setCell_same w ub k _ _ _ hc⟩, fun r hr' => ?_⟩
  obtain ⟨A', c', e1, e2⟩ := hx r hr'
  by_cases e : r = k
  · subst e
    exact ⟨A, c, World.cell?_setCell_same _ _ _ e1, hr.block (hne hr) (by simp)⟩
  · exact ⟨A', c', (World.cell?_setCell_other _ _ _ _ (by intro e'; injection e' with e1 e2; exact e e2.symm)).trans e1, e2.block (hne e2) (by simp)⟩

theorem idx_rows (ub n c k : Nat) (hk : k < n) (W : World) : (Instr.indexAt 29 (.slice (some ⟨ub, 0, none⟩) n c) (.int .i64 (k : Int))).run Tryd.prog W = .ok (.pointer (some ⟨ub, k, none⟩)) W := by
  have hs : ∀ W : World, (sizeOf (Tryd.prog.elem 29)).run Tryd.prog W = .ok 1 W := fun W => by kernel_rfl
  rw [run_indexAt_slice (P := Tryd.prog) W 29 ⟨ub, 0, none⟩ n c .i64 k (by kernel_rfl), if_pos (by omega), hs]
  simp only [Result.andThen, Nat.mul_one, Int.toNat_natCast, P7.add_zero]

/-- What a list of parameters is at most. -/
def ParOk (l : List (List Nat)) : Prop := l.length ≤ 16 ∧ ∀ q ∈ l, 1 ≤ q.length ∧ q.length ≤ 8
def ApartPost (w : World) (l : List (List Nat)) (e : Ending) (w' : World) : Prop := ∃ A c, e = .returned (.slice A l.length c) ∧ P7.TabT w' A l ∧ Below w.heap.size w w'

set_option maxRecDepth 100000 in
theorem clone_none (w : World) : Calls Tryd.prog 83 #[.slice none 0 0] w fun e w' => e = .returned (.slice none 0 0) ∧ w = w' := by
  have hq : ∀ W : World, (binOp .eql 29 (.slice none 0 0) (.slice none 0 0)).run Tryd.prog W = .ok (.bool true) W := fun W => by kernel_rfl
  go_enter Tryd.func83, Tryd.ntmps83
  go_wp2
  go_ret
  exact ⟨rfl, rfl⟩
set_option maxRecDepth 100000 in
theorem apart_none (w : World) : Calls Tryd.prog 60 #[.slice none 0 0] w (ApartPost w []) := by
  go_enter Tryd.func60, Tryd.ntmps60
  go_wp2_with fail
  refine (clone_none w).mono ?_
  rintro e w' ⟨rfl, rfl⟩
  go_wp2
  go_loopw [8] (fun i wr => i = .int .i64 0 ∧ wr = w) (fun _ _ => 0)
  case atStart => exact ⟨rfl, rfl⟩
  case round =>
    obtain ⟨rfl, rfl⟩ := hrel
    go_wp2
    go_ret
    exact ⟨none, 0, rfl, no_tab _, Below.refl _ _⟩

set_option maxHeartbeats 400000 in
theorem apart_some (g c : Nat) (l : List (List Nat)) (w : World) (hl : ParOk l) (hT : P7.TabT w (some ⟨g, 0, none⟩) l) : Calls Tryd.prog 60 #[.slice (some ⟨g, 0, none⟩) l.length c] w (ApartPost w l) := by
  have HC := Lib.hid (pclone_tab g c l w (by have := hl.1; omega) hT)
  obtain ⟨n, hn⟩ : ∃ n, n = l.length := ⟨_, rfl⟩
  have HN := Lib.hid hn
  have HO := Lib.hid hl
  have hn1 : n ≤ 16 := by rw [hn]; exact hl.1
  rw [← hn] at HC ⊢
  clear hl hT hn
  go_enter Tryd.func60, Tryd.ntmps60
  go_wp2_with fail
  refine (show Calls _ _ _ _ _ from HC.out).mono ?_
  rintro e w1 ⟨v, vs, rfl, ho, hv, hb⟩
  by_cases hp : 0 < n
  · obtain ⟨ub, cap, rfl, hub, _, hT1⟩ := rows_tab ho hv HN.out hp
    have HT1 := Lib.hid hT1
    have HB1 := Lib.hid hb
    have HUB := Lib.hid hub
    clear ho hv hb hT1 HC hub
    go_wp2
    go_loopw [8] (fun i wr => ∃ k : Nat, k ≤ n ∧ i = .int .i64 k ∧ Hid (P7.TabT wr (some ⟨ub, 0, none⟩) l) ∧ Hid (Below w.heap.size w wr)) (fun i _ => n - (RowKit.intOf i).toNat)
    case atStart => exact ⟨0, Nat.zero_le _, rfl, HT1, HB1⟩
    case round =>
      obtain ⟨k, hk, rfl, HT, HB⟩ := hrel
      by_cases hlt : k < n
      · have hlt' : k < l.length := by rw [← HN.out]; exact hlt
        obtain ⟨g', e0, ⟨cur, hcur⟩, hrow⟩ := HT.out (by omega)
        cases e0
        obtain ⟨A1, C1, c1, r1⟩ := hrow k hlt'
        have hrl := HO.out.2 _ (P7.getD_mem l k [] hlt')
        obtain ⟨p, rfl, hpl, hpc⟩ := r1.row 0 (by omega)
        obtain ⟨b, o, s⟩ := p
        obtain rfl : s = none := by have := spot_none hpc; simpa using this
        have HCl : Hid (Calls Tryd.prog 84 #[.slice (some ⟨b, o, none⟩) (l.getD k []).length C1] wr (fun e w' => ∃ A c, e = .returned (.slice A (l.getD k []).length c) ∧ Below wr.heap.size wr w' ∧ P7.RowI w' w'.heap.size A (l.getD k []))) := Lib.hid (pclone_any b o C1 (l.getD k []) wr (by omega) (fun j hj => by
          obtain ⟨a', e', _, hc'⟩ := r1.row j hj
          cases e'
          rwa [P7.add_off] at hc') hpl)
        have i3 := idx_rows ub n cap k hlt
        have HW : Hid (∀ w' A c, Below wr.heap.size wr w' → P7.RowI w' w'.heap.size A (l.getD k []) → P7.TabT (w'.setCell ⟨ub, k, none⟩ (.slice A (l.getD k []).length c)) (some ⟨ub, 0, none⟩) l ∧ Below w.heap.size w (w'.setCell ⟨ub, k, none⟩ (.slice A (l.getD k []).length c)) ∧ (∃ u, w'.cell? ⟨ub, k, none⟩ = some u) ∧ w'.frozen? ⟨ub, k, none⟩ = false) := Lib.hid fun w' A c hbw hr => by
          have hT' := HT.out.keep (P7.KeepT.of_below hbw)
          have hbl : w'.heap[ub]? = some (.cells cur 47 (0, 0)) := (hbw.block ub (Array.getElem?_eq_some_iff.1 hcur).1).trans hcur
          have hsz := HB.out.size
          exact ⟨tab_store hT' hlt' hr, (HB.out.trans (hbw.mono hsz)).setCell HUB.out _, ⟨_, (World.cell?_of_block (w := wr) (hbw.block ub (Array.getElem?_eq_some_iff.1 hcur).1)).trans c1⟩, by simp [World.frozen?, hbl]⟩
        obtain ⟨t, ht⟩ : ∃ t, t = (l.getD k []).length := ⟨_, rfl⟩
        rw [← ht] at c1 HCl HW
        clear hcur hrow r1 hpl hpc hrl ht HT HB HT1 HB1
        go_wp2_with fail
        refine (show Calls _ _ _ _ _ from HCl.out).mono ?_
        rintro e w2 ⟨A2, C2, rfl, hb2, hr2⟩
        obtain ⟨hT3, hB3, ⟨u, cu⟩, fu⟩ := HW.out w2 A2 C2 hb2 hr2
        have HT3 := Lib.hid hT3
        have HB3 := Lib.hid hB3
        clear hb2 hr2 hT3 hB3 HCl HW
        go_wp2
        go_roundw
        case rel => exact ⟨k + 1, by omega, by go_num, HT3, HB3⟩
        case measure => simp [RowKit.intOf]; omega
      · have hkn : k = n := by omega
        subst hkn
        go_wp2
        go_ret
        refine ⟨some ⟨ub, 0, none⟩, cap, ?_, HT.out, HB.out⟩
        rw [← HN.out]
        rfl
  · have h0 : n = 0 := by omega
    subst h0
    have HB1 := Lib.hid hb
    have hl0 : l = [] := List.eq_nil_of_length_eq_zero (by have := HN.out; omega)
    have HE : Hid (∃ A c, v = .slice A 0 c) := Lib.hid (by
      rcases ho.2 with ⟨rfl, h0⟩ | ⟨g, cap, cur, rfl, _⟩
      · exact ⟨none, 0, rfl⟩
      · exact ⟨_, _, rfl⟩)
    obtain ⟨A9, c9, rfl⟩ := HE.out
    clear ho hv hb HC
    go_wp2
    go_loopw [8] (fun i wr => i = .int .i64 0 ∧ wr = w1) (fun _ _ => 0)
    case atStart => exact ⟨rfl, rfl⟩
    case round =>
      obtain ⟨rfl, rfl⟩ := hrel
      go_wp2
      go_ret
      subst hl0
      exact ⟨_, _, rfl, fun h => absurd h (by simp), HB1.out⟩
end Go.Proofs.YtfekjlajagoooaaDoor
