/- Layer 7: All. -/
import Derived.Test.YtjeonnlcajlghaaDoorPaE
import Derived.Deep.OwnRows
import Derived.Deep.RegionHeld3
namespace Go.Proofs.YtjeonnlcajlghaaDoor
open Go.RowKit Par

theorem of_drew {B : Nat} {W w' : World} (h : Below B W.drew w') : Below B W w' := ⟨h.os, h.tape, h.output, h.size, h.block⟩
theorem info_row : (Tryd.prog.info? 26).map (fun i => (i.zero, i.size, i.bytes)) = some (some (.slice none 0 0), 1, 24) := by kernel_rfl

/-- A row in new memory. -/
def RowPost (w : World) (xs : List Nat) (e : Ending) (w' : World) : Prop := ∃ A c, e = .returned (.slice A xs.length c) ∧ Below w.heap.size w w' ∧ ∀ j, j < xs.length → ∃ g, A = some ⟨g, 0, none⟩ ∧ g < w'.heap.size ∧ w.heap.size ≤ g ∧ w'.cell? ⟨g, j, none⟩ = some (.int .i64 (xs.getD j 0 : Nat))

theorem clone_row (a o c : Nat) (xs : List Nat) (w : World) (hl : xs.length ≤ c) (hc8 : c ≤ 1000000) (hc : ∀ j, j < xs.length → w.cell? ⟨a, o + j, none⟩ = some (.int .i64 (xs.getD j 0 : Nat))) (ha : a < w.heap.size) :
    Calls Tryd.prog 13 #[.slice (some ⟨a, o, none⟩) xs.length c] w (RowPost w xs) := by
  refine (clone_any a o c xs w hl hc8 hc ha).mono ?_
  rintro e w' ⟨v, rfl, ho, hb⟩
  rcases Nat.eq_zero_or_pos xs.length with h0 | hp
  · rcases ho.2 with ⟨rfl, _⟩ | ⟨g, cap, cur, rfl, _⟩
    · exact ⟨none, 0, by rw [h0], hb, fun k hk => by omega⟩
    · exact ⟨some ⟨g, 0, none⟩, cap, rfl, hb, fun k hk => by omega⟩
  · have hoo := ho
    rcases ho.2 with ⟨_, h0⟩ | ⟨g, cap, cur, rfl, hge, hh, _⟩
    · omega
    · refine ⟨_, cap, rfl, hb, fun k hk => ⟨g, rfl, (Array.getElem?_eq_some_iff.1 hh).1, hge, ?_⟩⟩
      have := World.ownsRow.cells (w := w') hoo (g := g) rfl k (.int .i64 (xs.getD k 0 : Nat)) (by simp [intV, hk])
      rw [add_zero] at this
      exact this

/-- The table while it is built: the rows ahead of k are there. -/
def Built (w0 w : World) (ub : Nat) (l : List (List Nat)) (k : Nat) : Prop :=
  Below ub w0 w ∧ ub < w.heap.size ∧ ∃ F : Nat → Value, w.rowIs ub 26 l.length F ∧
    ∀ r, r < k → r < l.length → ∃ A c, F r = .slice A (l.getD r []).length c ∧ ∀ j, j < (l.getD r []).length → ∃ g, A = some ⟨g, 0, none⟩ ∧ g < w.heap.size ∧ ub < g ∧ w.cell? ⟨g, j, none⟩ = some (.int .i64 ((l.getD r []).getD j 0 : Nat))

theorem Built.start (w : World) (l : List (List Nat)) : Built w (w.alloc (.cells (madeCells #[.slice none 0 0] l.length) 26)) w.heap.size l 0 :=
  ⟨(Below.refl _ _).alloc (Nat.le_refl _) _, by simp, fun _ => .slice none 0 0, World.rowIs_made w (.slice none 0 0) l.length 26, fun r hr => by omega⟩

theorem Built.next {w0 w w1 : World} {ub : Nat} {l : List (List Nat)} {k : Nat} (h : Built w0 w ub l k) (hk : k < l.length) (hb : Below w.heap.size w w1) {A : Option Addr} {c : Nat}
    (hr : ∀ j, j < (l.getD k []).length → ∃ g, A = some ⟨g, 0, none⟩ ∧ g < w1.heap.size ∧ w.heap.size ≤ g ∧ w1.cell? ⟨g, j, none⟩ = some (.int .i64 ((l.getD k []).getD j 0 : Nat))) :
    Built w0 (w1.setCell ⟨ub, k, none⟩ (.slice A (l.getD k []).length c)) ub l (k + 1) := by
  obtain ⟨h1, h2, F, h3, h4⟩ := h
  have hsz := hb.size
  refine ⟨(h1.trans (hb.mono (by omega))).setCell (Nat.le_refl _) _, by simp; omega, fun r => if r = k then .slice A (l.getD k []).length c else F r, (h3.of_block (hb.block _ h2)).set k _, fun r hr1 hr2 => ?_⟩
  by_cases e : r = k
  · subst e
    refine ⟨A, c, by simp, fun j hj => ?_⟩
    obtain ⟨g, e1, e2, e3, e4⟩ := hr j hj
    refine ⟨g, e1, by simpa using e2, by omega, ?_⟩
    rw [World.cell?_setCell_other _ _ _ _ (by intro e; injection e with e; omega)]
    exact e4
  · obtain ⟨A', c', e0, ej⟩ := h4 r (by omega) hr2
    refine ⟨A', c', by simp [e, e0], fun j hj => ?_⟩
    obtain ⟨g, e1, e2, e3, e4⟩ := ej j hj
    refine ⟨g, e1, by simp; omega, e3, ?_⟩
    rw [World.cell?_setCell_other _ _ _ _ (by intro e; injection e with e; omega)]
    exact (hb.cell (p := ⟨g, j, none⟩) e2).trans e4

theorem Built.tab {w0 w : World} {ub : Nat} {l : List (List Nat)} (h : Built w0 w ub l l.length) (hl : ∀ r, (l.getD r []).length ≤ 9223372036854775807) : Tab w w.heap.size (some ⟨ub, 0, none⟩) l := by
  obtain ⟨h1, h2, F, h3, h4⟩ := h
  intro hp
  refine ⟨_, rfl, h2, fun r hr => ?_⟩
  obtain ⟨A, c, e, hj⟩ := h4 r hr hr
  refine ⟨A, c, by rw [add_zero, h3.cell hr, e], hl r, fun j hjl => ?_⟩
  obtain ⟨g, e1, e2, _, e4⟩ := hj j hjl
  exact ⟨_, e1, e2, by rw [add_zero]; exact e4⟩

/-- What All answers. -/
def AllPost (w : World) (l : List (List Nat)) (e : Ending) (w' : World) : Prop := e = .returned (.slice (some ⟨w.heap.size, 0, none⟩) l.length l.length) ∧ Tab w' w'.heap.size (some ⟨w.heap.size, 0, none⟩) l ∧ Below w.heap.size w w'

theorem all_nil (w : World) : Calls Tryd.prog 8 #[.pointer none] w fun e w' => e = .returned (.slice none 0 0) ∧ w = w' := by
  go_enter Tryd.func8, Tryd.ntmps8
  go_wp2
  go_ret
  exact ⟨rfl, rfl⟩

theorem idx_top (ub n k : Nat) (hk : k < n) (W : World) : (Instr.indexAt 24 (.slice (some ⟨ub, 0, none⟩) n n) (.int .i64 (k : Int))).run Tryd.prog W = .ok (.pointer (some ⟨ub, k, none⟩)) W := by
  have hs : ∀ W : World, (sizeOf (Tryd.prog.elem 24)).run Tryd.prog W = .ok 1 W := fun W => by kernel_rfl
  rw [run_indexAt_slice (P := Tryd.prog) W 24 ⟨ub, 0, none⟩ n n .i64 k (by kernel_rfl), if_pos (by omega), hs]
  simp only [Result.andThen, Nat.mul_one, Int.toNat_natCast, add_zero]
theorem slice_parts (a o n : Nat) (hn : n ≤ 8) (W : World) : (Instr.sliceAt 35 (.pointer (some ⟨a, o, none⟩)) none (some (.int .i64 (n : Int))) none).run Tryd.prog W = .ok (.slice (some ⟨a, o, none⟩) n 8) W := by
  have ha : Tryd.prog.arrayLen 35 = 8 := by kernel_rfl
  have := run_sliceAt_array_h (P := Tryd.prog) (w := W) (t := 35) (a := ⟨a, o, none⟩) Tryd.underlying35 .i64 (n : Int) (by omega) (by rw [ha]; omega)
  rw [this, ha]
  rfl

set_option maxHeartbeats 1600000 in
theorem all_any (a : Nat) (o : Option PS) (w : World) (h : IsPars w a o) : Calls Tryd.prog 8 #[.pointer (some ⟨a, 0, none⟩)] w (AllPost w (listP o)) := by
  obtain ⟨hL, hq⟩ := list_ok h.ok
  have hrow : ∀ r, ((listP o).getD r []).length ≤ 8 := fun r => by
    by_cases hr : r < (listP o).length
    · refine (hq _ ?_).2.1
      simp [List.getD, List.getElem?_eq_getElem hr]
    · rw [getD_out _ _ _ (by omega)]; simp
  have hb := h.blk
  have hlt := hb.lt
  have c0 : w.cell? ⟨a, 144, none⟩ = some (.int .i64 (listP o).length) := hb.len
  have HBk : Hid (∀ w', Below w.heap.size w w' → PB w' a (memOf o)) := Lib.hid fun w' hw => (hw.block a hlt).trans hb
  have HR := Lib.hid hrow
  have HA := Lib.hid hlt
  have HO : Hid (∀ r j, (memOf o).S r = ((listP o).getD r []).length ∧ (memOf o).P r j = ((listP o).getD r []).getD j 0) := Lib.hid fun _ _ => ⟨rfl, rfl⟩
  generalize listP o = l at *
  generalize memOf o = m at *
  have hmk := run_make_row' (P := Tryd.prog) 24 26 (.slice none 0 0) 24 Tryd.underlying24 info_row rfl .i64 .i64 l.length (by omega) (by omega)
  have HS := Lib.hid (Built.start w l)
  obtain ⟨n, hn⟩ : ∃ n, n = l.length := ⟨_, rfl⟩
  have HN := Lib.hid hn
  rw [← hn] at c0 hL hmk
  clear h hq hrow hb hlt hn
  go_enter Tryd.func8, Tryd.ntmps8
  go_wp2
  go_loopw [14] (fun i wr => ∃ k : Nat, k ≤ n ∧ i = .int .i64 k ∧ Hid (Built w wr w.heap.size l k)) (fun i _ => n - (RowKit.intOf i).toNat)
  case atStart => exact ⟨0, Nat.zero_le _, rfl, Lib.hid (by rw [HN.out]; exact HS.out)⟩
  case round =>
    obtain ⟨k, hk, rfl, HB⟩ := hrel
    rename_i wr
    clear hmk c0 HS
    by_cases hlt : k < n
    · have hk16 : k < 16 := by omega
      obtain ⟨s, hs⟩ : ∃ s, s = (l.getD k []).length := ⟨_, rfl⟩
      have hs8 : s ≤ 8 := by rw [hs]; exact HR.out k
      have hbk : PB wr a m := HBk.out _ HB.out.1
      have c1 : wr.cell? ⟨a, 128 + k, none⟩ = some (.int .i64 s) := by rw [hbk.size hk16, (HO.out k 0).1, hs]
      have i1 := idx_size a k hk16
      have i2 := idx_row a k hk16
      have i3 := idx_top w.heap.size n k hlt
      have i4 := slice_parts a (k * 8) s hs8
      have hub : w.heap.size < wr.heap.size := HB.out.2.1
      have HAw : Hid (a < wr.heap.size) := Lib.hid hbk.lt
      have KS : Hid (∀ w', Below wr.heap.size wr w' → w'.cell? ⟨a, 128 + k, none⟩ = some (.int .i64 s)) := Lib.hid fun w' hw => (hw.cell (p := ⟨a, 128 + k, none⟩) HAw.out).trans c1
      have HC : Hid (Calls Tryd.prog 13 #[.slice (some ⟨a, k * 8, none⟩) s 8] wr.drew (fun e w' => ∃ A c, e = .returned (.slice A s c) ∧ Below wr.heap.size wr w' ∧ Hid (∀ j, j < (l.getD k []).length → ∃ g, A = some ⟨g, 0, none⟩ ∧ g < w'.heap.size ∧ wr.heap.size ≤ g ∧ w'.cell? ⟨g, j, none⟩ = some (.int .i64 ((l.getD k []).getD j 0 : Nat))) ∧ Hid (Built w (w'.setCell ⟨w.heap.size, k, none⟩ (.slice A s c)) w.heap.size l (k + 1)) ∧ (∃ v, w'.cell? ⟨w.heap.size, k, none⟩ = some v) ∧ w'.frozen? ⟨w.heap.size, k, none⟩ = false)) := Lib.hid (by
        have := clone_row a (k * 8) 8 (l.getD k []) wr.drew (HR.out k) (by omega) (fun j hj => by
          have hj8 : j < 8 := Nat.lt_of_lt_of_le hj (HR.out k)
          have := hbk.part hk16 hj8
          rw [(HO.out k j).2] at this
          exact this) hbk.lt
        rw [hs]
        refine this.mono ?_
        rintro e w' ⟨A, c, rfl, b1, hr⟩
        have b2 : Below wr.heap.size wr w' := of_drew b1
        have hkl : k < l.length := by rw [← HN.out]; exact hlt
        have hw := World.rowIs.of_block HB.out.2.2.choose_spec.1 (b2.block _ hub)
        exact ⟨A, c, rfl, b2, Lib.hid hr, Lib.hid (HB.out.next hkl b2 hr), ⟨_, hw.cell hkl⟩, hw.frozen k⟩)
      have KS2 : Hid (∀ w' v, Below wr.heap.size wr w' → (w'.setCell ⟨w.heap.size, k, none⟩ v).cell? ⟨a, 128 + k, none⟩ = some (.int .i64 s)) := Lib.hid fun w' v hw => by
        rw [World.cell?_setCell_other _ _ _ _ (by intro e; injection e with e; have := HA.out; omega)]
        exact KS.out _ hw
      have HUB := Lib.hid hub
      clear hbk hs hub
      go_wp2_with fail
      go_region_held3 (fun w' => w'.cell? ⟨a, 128 + k, none⟩ = some (.int .i64 s))
        (first | go_keep | exact KS.out _ k1 | exact KS2.out _ _ k1)
        (first | (go_at_call 13; (with_reducible refine HC.out.mono ?_); rintro e w4 ⟨A1, cc, rfl, k1, hr, hbu, ⟨v, t1⟩, t2⟩))
      have HBU := Lib.hid hbu.out
      clear hbu hr k1 t1 t2 HC KS KS2
      go_wp2
      go_roundw
      case rel => exact ⟨k + 1, by omega, by go_num, HBU⟩
      case measure => simp [RowKit.intOf]; omega
    · have hkn : k = n := by omega
      subst hkn
      go_wp2
      go_ret
      have hb := HB.out
      rw [HN.out] at hb ⊢
      exact ⟨rfl, hb.tab (fun r => by have := HR.out r; omega), hb.1⟩
end Go.Proofs.YtjeonnlcajlghaaDoor
