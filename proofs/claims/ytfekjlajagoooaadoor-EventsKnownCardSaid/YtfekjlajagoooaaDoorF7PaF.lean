/- Layer 7: All. -/
import Derived.Test.YtfekjlajagoooaaDoorF7PaI
import Derived.Deep.OwnRows
import Derived.Deep.RegionHeld3
namespace Go.Proofs.YtfekjlajagoooaaDoor.P7
open Go.RowKit Par

theorem of_drew {B : Nat} {W w' : World} (h : Below B W.drew w') : Below B W w' := ⟨h.os, h.tape, h.output, h.size, h.block⟩
theorem info_row : (Tryd.prog.info? 47).map (fun i => (i.zero, i.size, i.bytes)) = some (some (.slice none 0 0), 1, 24) := by kernel_rfl

/-- A row in new memory. -/
def RowPost (w : World) (xs : List Nat) (e : Ending) (w' : World) : Prop := ∃ A c, e = .returned (.slice A xs.length c) ∧ Below w.heap.size w w' ∧ RowI w' w'.heap.size A xs

theorem clone_row (a o c : Nat) (xs : List Nat) (w : World) (hl : xs.length ≤ c) (hc8 : c ≤ 1000000) (hc : ∀ j, j < xs.length → w.cell? ⟨a, o + j, none⟩ = some (.int .i64 (xs.getD j 0 : Nat))) (ha : a < w.heap.size) :
    Calls Tryd.prog 84 #[.slice (some ⟨a, o, none⟩) xs.length c] w (RowPost w xs) := by
  refine (clone_any a o c xs w hl hc8 hc ha).mono ?_
  rintro e w' ⟨v, rfl, ho, hb⟩
  rcases ho.2 with ⟨rfl, h0⟩ | ⟨g, cap, cur, rfl, _⟩
  · exact ⟨none, 0, by rw [h0], hb, fun k hk => by omega, fun a ha => by cases ha⟩
  · exact ⟨_, cap, rfl, hb, own_rowI ho⟩

/-- The table while it is built: the rows ahead of k are there. -/
def Built (w0 w : World) (ub : Nat) (l : List (List Nat)) (k : Nat) : Prop :=
  Below ub w0 w ∧ ub < w.heap.size ∧ ∃ F : Nat → Value, w.rowIs ub 47 l.length F ∧
    ∀ r, r < k → r < l.length → ∃ A c, F r = .slice A (l.getD r []).length c ∧ RowI w w.heap.size A (l.getD r [])

theorem Built.start (w : World) (l : List (List Nat)) : Built w (w.alloc (.cells (madeCells #[.slice none 0 0] l.length) 47)) w.heap.size l 0 :=
  ⟨(Below.refl _ _).alloc (Nat.le_refl _) _, by simp, fun _ => .slice none 0 0, World.rowIs_made w (.slice none 0 0) l.length 47, fun r hr => by omega⟩

theorem Built.next {w0 w w1 : World} {ub : Nat} {l : List (List Nat)} {k : Nat} (h : Built w0 w ub l k) (hb : Below w.heap.size w w1) {A : Option Addr} {c : Nat} (hr : RowI w1 w1.heap.size A (l.getD k [])) :
    Built w0 (w1.setCell ⟨ub, k, none⟩ (.slice A (l.getD k []).length c)) ub l (k + 1) := by
  obtain ⟨h1, h2, F, h3, h4⟩ := h
  have hsz := hb.size
  have h31 := h3.of_block (hb.block _ h2)
  have hne : ∀ {A' : Option Addr} {q : List Nat}, RowI w1 w1.heap.size A' q → ∀ a, A' = some a → (w1.setCell ⟨ub, k, none⟩ (.slice A (l.getD k []).length c)).heap[a.block]? = w1.heap[a.block]? := by
    intro A' q hq a ha
    refine Below.heap_setCell _ _ _ _ ?_
    intro e
    obtain ⟨_, cur, hc⟩ := hq.typ a ha
    obtain ⟨cur', hc', _⟩ := h31
    rw [e] at hc
    have hc : w1.heap[ub]? = some (.cells cur 3 (0, 0)) := hc
    rw [hc] at hc'
    cases hc'
  refine ⟨(h1.trans (hb.mono (by omega))).setCell (Nat.le_refl _) _, by simp; omega, fun r => if r = k then .slice A (l.getD k []).length c else F r, h31.set k _, fun r hr1 hr2 => ?_⟩
  by_cases e : r = k
  · subst e
    exact ⟨A, c, by simp, hr.block (hne hr) (by simp)⟩
  · obtain ⟨A', c', e0, ej⟩ := h4 r (by omega) hr2
    have ej1 : RowI w1 w1.heap.size A' (l.getD r []) := ej.block (fun a ha => hb.block _ (ej.typ a ha).1) hsz
    exact ⟨A', c', by simp [e, e0], ej1.block (hne ej1) (by simp)⟩

theorem Built.tabT {w0 w : World} {ub : Nat} {l : List (List Nat)} (h : Built w0 w ub l l.length) : TabT w (some ⟨ub, 0, none⟩) l := by
  obtain ⟨h1, h2, F, h3, h4⟩ := h
  intro hp
  refine ⟨ub, rfl, ?_, fun r hr => ?_⟩
  · obtain ⟨cur, hc, _⟩ := h3
    exact ⟨cur, hc⟩
  · obtain ⟨A, c, e, hj⟩ := h4 r hr hr
    exact ⟨A, c, by rw [h3.cell hr, e], hj⟩

/-- What All answers. -/
def AllPost (w : World) (l : List (List Nat)) (e : Ending) (w' : World) : Prop := e = .returned (.slice (some ⟨w.heap.size, 0, none⟩) l.length l.length) ∧ TabT w' (some ⟨w.heap.size, 0, none⟩) l ∧ Below w.heap.size w w'

theorem all_nil (w : World) : Calls Tryd.prog 73 #[.pointer none] w fun e w' => e = .returned (.slice none 0 0) ∧ w = w' := by
  go_enter Tryd.func73, Tryd.ntmps73
  go_wp2
  go_ret
  exact ⟨rfl, rfl⟩

theorem idx_top (ub n k : Nat) (hk : k < n) (W : World) : (Instr.indexAt 29 (.slice (some ⟨ub, 0, none⟩) n n) (.int .i64 (k : Int))).run Tryd.prog W = .ok (.pointer (some ⟨ub, k, none⟩)) W := by
  have hs : ∀ W : World, (sizeOf (Tryd.prog.elem 29)).run Tryd.prog W = .ok 1 W := fun W => by kernel_rfl
  rw [run_indexAt_slice (P := Tryd.prog) W 29 ⟨ub, 0, none⟩ n n .i64 k (by kernel_rfl), if_pos (by omega), hs]
  simp only [Result.andThen, Nat.mul_one, Int.toNat_natCast, add_zero]
set_option maxRecDepth 100000 in
theorem slice_parts (a o n : Nat) (hn : n ≤ 8) (W : World) : (Instr.sliceAt 53 (.pointer (some ⟨a, o, none⟩)) none (some (.int .i64 (n : Int))) none).run Tryd.prog W = .ok (.slice (some ⟨a, o, none⟩) n 8) W := by
  have ha : Tryd.prog.arrayLen 53 = 8 := by kernel_rfl
  have := run_sliceAt_array_h (P := Tryd.prog) (w := W) (t := 53) (a := ⟨a, o, none⟩) Tryd.underlying53 .i64 (n : Int) (by omega) (by rw [ha]; omega)
  rw [this, ha]
  rfl

set_option maxHeartbeats 1600000 in
theorem all_any (a f : Nat) (o : Option PS) (w : World) (h : IsPars w a f o) : Calls Tryd.prog 73 #[.pointer (some ⟨a, f, none⟩)] w (AllPost w (listP o)) := by
  obtain ⟨hL, hq⟩ := list_ok h.ok
  have hrow : ∀ r, ((listP o).getD r []).length ≤ 8 := fun r => by
    by_cases hr : r < (listP o).length
    · refine (hq _ ?_).2.1
      simp [List.getD, List.getElem?_eq_getElem hr]
    · rw [getD_out _ _ _ (by omega)]; simp
  have hb := h.blk
  have hlt := hb.lt
  have c0 : w.cell? ⟨a, f + 144, none⟩ = some (.int .i64 (listP o).length) := hb.len
  have HBk : Hid (∀ w', Below w.heap.size w w' → PB w' a f (memOf o)) := Lib.hid fun w' hw => Part.of_block hb (hw.block a hlt)
  have HR := Lib.hid hrow
  have HA := Lib.hid hlt
  have HO : Hid (∀ r j, (memOf o).S r = ((listP o).getD r []).length ∧ (memOf o).P r j = ((listP o).getD r []).getD j 0) := Lib.hid fun _ _ => ⟨rfl, rfl⟩
  generalize listP o = l at *
  generalize memOf o = m at *
  have hmk := run_make_row' (P := Tryd.prog) 29 47 (.slice none 0 0) 24 Tryd.underlying29 info_row rfl .i64 .i64 l.length (by omega) (by omega)
  have HS := Lib.hid (Built.start w l)
  obtain ⟨n, hn⟩ : ∃ n, n = l.length := ⟨_, rfl⟩
  have HN := Lib.hid hn
  rw [← hn] at c0 hL hmk
  clear h hq hrow hb hlt hn
  go_enter Tryd.func73, Tryd.ntmps73
  go_wp2
  go_loopw [14] (fun i wr => ∃ k : Nat, k ≤ n ∧ i = .int .i64 k ∧ Hid (Built w wr w.heap.size l k)) (fun i _ => n - (RowKit.intOf i).toNat)
  case atStart => exact ⟨0, Nat.zero_le _, rfl, Lib.hid (by rw [HN.out]; exact HS.out)⟩
  case round =>
    obtain ⟨k, hk, rfl, HB⟩ := hrel
    rename_i wr
    clear hmk c0 HS
    by_cases hlt : k < n
    · have hk16 : k < 16 := by omega
      obtain ⟨s, hs⟩ : ∃ s, s = (l.getD k []).length := ⟨_, rfl⟩
      have hs8 : s ≤ 8 := by rw [hs]; exact HR.out k
      have hbk : PB wr a f m := HBk.out _ HB.out.1
      have c1 : wr.cell? ⟨a, f + 128 + k, none⟩ = some (.int .i64 s) := by rw [hbk.size hk16, (HO.out k 0).1, hs]
      have i1 := idx_size a f k hk16
      have i2 := idx_row a f k hk16
      have i3 := idx_top w.heap.size n k hlt
      have i4 := slice_parts a (f + k * 8) s hs8
      have hub : w.heap.size < wr.heap.size := HB.out.2.1
      have HAw : Hid (a < wr.heap.size) := Lib.hid hbk.lt
      have KS : Hid (∀ w', Below wr.heap.size wr w' → w'.cell? ⟨a, f + 128 + k, none⟩ = some (.int .i64 s)) := Lib.hid fun w' hw => (hw.cell (p := ⟨a, f + 128 + k, none⟩) HAw.out).trans c1
      have HC : Hid (Calls Tryd.prog 84 #[.slice (some ⟨a, f + k * 8, none⟩) s 8] wr.drew (fun e w' => ∃ A c, e = .returned (.slice A s c) ∧ Below wr.heap.size wr w' ∧ Hid (Built w (w'.setCell ⟨w.heap.size, k, none⟩ (.slice A s c)) w.heap.size l (k + 1)) ∧ (∃ v, w'.cell? ⟨w.heap.size, k, none⟩ = some v) ∧ w'.frozen? ⟨w.heap.size, k, none⟩ = false)) := Lib.hid (by
        have := clone_row a (f + k * 8) 8 (l.getD k []) wr.drew (HR.out k) (by omega) (fun j hj => by
          have hj8 : j < 8 := Nat.lt_of_lt_of_le hj (HR.out k)
          have := hbk.part hk16 hj8
          rw [(HO.out k j).2] at this
          exact this) hbk.lt
        rw [hs]
        refine this.mono ?_
        rintro e w' ⟨A, c, rfl, b1, hr⟩
        have b2 : Below wr.heap.size wr w' := of_drew b1
        have hkl : k < l.length := by rw [← HN.out]; exact hlt
        have hw := World.rowIs.of_block HB.out.2.2.choose_spec.1 (b2.block _ hub)
        exact ⟨A, c, rfl, b2, Lib.hid (HB.out.next b2 hr), ⟨_, hw.cell hkl⟩, hw.frozen k⟩)
      have KS2 : Hid (∀ w' v, Below wr.heap.size wr w' → (w'.setCell ⟨w.heap.size, k, none⟩ v).cell? ⟨a, f + 128 + k, none⟩ = some (.int .i64 s)) := Lib.hid fun w' v hw => by
        rw [World.cell?_setCell_other _ _ _ _ (by intro e; injection e with e; have := HA.out; omega)]
        exact KS.out _ hw
      have HUB := Lib.hid hub
      clear hbk hs hub
      go_wp2_with fail
      go_region_held3 (fun w' => w'.cell? ⟨a, f + 128 + k, none⟩ = some (.int .i64 s))
        (first | go_keep | exact KS.out _ k1 | exact KS2.out _ _ k1)
        (first | (go_at_call 84; (with_reducible refine HC.out.mono ?_); rintro e w4 ⟨A1, cc, rfl, k1, hbu, ⟨v, t1⟩, t2⟩))
      have HBU := Lib.hid hbu.out
      clear hbu k1 t1 t2 HC KS KS2
      go_wp2
      go_roundw
      case rel => exact ⟨k + 1, by omega, by go_num, HBU⟩
      case measure => simp [RowKit.intOf]; omega
    · have hkn : k = n := by omega
      subst hkn
      go_wp2
      go_ret
      have hb := HB.out
      rw [HN.out] at hb ⊢
      exact ⟨rfl, hb.tabT, hb.1⟩
end Go.Proofs.YtfekjlajagoooaaDoor.P7
