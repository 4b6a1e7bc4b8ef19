/- Layer 1: fill, once: Join and Meet. -/
import Derived.Test.YtnccnaadhknfbaaLatI
namespace Go.Proofs.Ytnccnaadhknfbaa
open Go.RowKit Lat

/-- A struct's block with other cells: what 'setCell' makes of it. -/
theorem blk_set {w : World} {lb : Nat} {c : Array Value} {t : TypeId} (h : w.heap[lb]? = some (.cells c t (0, 0))) (i : Nat) (v : Value) : (w.setCell ⟨lb, i, none⟩ v).heap[lb]? = some (.cells (c.setIfInBounds i v) t (0, 0)) := by
  simp [World.setCell, Array.getElem?_modify, h]

theorem Keeps.refl (x : Nat) (w : World) : Keeps x w w := ⟨rfl, rfl, rfl, Nat.le_refl _, fun _ _ _ => rfl⟩
theorem Keeps.trans {x : Nat} {a b c : World} (h : Keeps x a b) (k : Keeps x b c) : Keeps x a c :=
  ⟨k.os.trans h.os, k.tape.trans h.tape, k.output.trans h.output, Nat.le_trans h.size k.size, fun i hi hx => (k.block i (Nat.lt_of_lt_of_le hi h.size) hx).trans (h.block i hi hx)⟩
theorem Keeps.set (x : Nat) (w : World) (i : Nat) (v : Value) : Keeps x w (w.setCell ⟨x, i, none⟩ v) :=
  ⟨rfl, rfl, rfl, by simp [World.setCell], fun k _ hk => Below.heap_setCell w ⟨x, i, none⟩ v k hk⟩
theorem Keeps.of_below {x : Nat} {w w' : World} (h : Below w.heap.size w w') : Keeps x w w' := ⟨h.os, h.tape, h.output, h.size, fun k hk _ => h.block k hk⟩
theorem Keeps.drew {x : Nat} {w w' : World} (h : Keeps x w w') : Keeps x w w'.drew := ⟨h.os, h.tape, h.output, h.size, h.block⟩

/-- The struct's seven cells. -/
def latCells (ub db n : Nat) (x2 x3 x4 js ms : Value) : Array Value := #[.slice (some ⟨ub, 0, none⟩) n n, .slice (some ⟨db, 0, none⟩) n n, x2, x3, x4, js, ms]

theorem fill_any (lb ub db n : Nat) (T : Nat → Nat → Bool) (x2 x3 x4 x5 x6 : Value) (w : World) (hn : n ≤ 64) (hb : w.heap[lb]? = some (.cells (latCells ub db n x2 x3 x4 x5 x6) 53 (0, 0)))
    (hu : Side w ub n T) (hd : Side w db n (flipT T)) :
    Calls Try.prog 32 #[.pointer (some ⟨lb, 0, none⟩)] w fun e w' => e = .returned (.tuple #[]) ∧ Keeps lb w w' ∧ ∃ js ms, w'.heap[lb]? = some (.cells (latCells ub db n x2 x3 x4 js ms) 53 (0, 0)) ∧ Table w' js n (joinT n T) ∧ Table w' ms n (joinT n (flipT T)) := by
  have c0 : w.cell? ⟨lb, 0, none⟩ = some (.slice (some ⟨ub, 0, none⟩) n n) := by rw [cell_of hb]; rfl
  have H1 := Lib.hid (bounds_any ub n T w hn hu)
  have HB := Lib.hid hb
  have HD := Lib.hid hd
  clear hb hu hd
  go_enter Try.func32, Try.ntmps32
  go_wp2_with fail
  refine H1.out.mono ?_
  rintro e w1 ⟨v, rfl, ht1, hb1, a1, rfl⟩
  have hb2 := (hb1.block lb (lt_of HB.out)).trans HB.out
  have c5 : w1.cell? ⟨lb, 5, none⟩ = some x5 := by rw [cell_of hb2]; rfl
  have f5 : w1.frozen? ⟨lb, 5, none⟩ = false := frozen_of hb2 5
  have hb3 := blk_set hb2 5 (.slice (some ⟨a1, 0, none⟩) n n)
  have c1 : (w1.setCell ⟨lb, 5, none⟩ (.slice (some ⟨a1, 0, none⟩) n n)).cell? ⟨lb, 1, none⟩ = some (.slice (some ⟨db, 0, none⟩) n n) := by rw [cell_of hb3]; rfl
  have HD2 := Lib.hid (show Side (w1.setCell ⟨lb, 5, none⟩ (.slice (some ⟨a1, 0, none⟩) n n)) db n (flipT T) from by
    obtain ⟨D, hr, hD⟩ := HD.out
    exact ⟨D, (row_keep hr fun c hc => hb1.block db (lt_of hc)).setOther (row_ne hr HB.out (by decide)) _, hD⟩)
  have HT1 := Lib.hid (show Table (w1.setCell ⟨lb, 5, none⟩ (.slice (some ⟨a1, 0, none⟩) n n)) (.slice (some ⟨a1, 0, none⟩) n n) n (joinT n T) from
    ht1.keep (lb := w1.heap.size) fun k c t hc ht => Below.heap_setCell w1 ⟨lb, 5, none⟩ _ k (by
      rintro rfl
      rcases ht with e | ht
      · have := lt_of hc; omega
      · rw [hb2] at hc
        injection hc with hc
        injection hc with _ e
        exact ht e.symm))
  have HK1 := Lib.hid ((Keeps.of_below (x := lb) hb1).trans (Keeps.set lb w1 5 (.slice (some ⟨a1, 0, none⟩) n n)))
  have HB3 := Lib.hid hb3
  clear hb1 hb2 hb3 ht1
  go_wp2_with fail
  refine (bounds_any db n (flipT T) _ hn HD2.out).mono ?_
  rintro e w3 ⟨v, rfl, ht2, hb1, a2, rfl⟩
  have hb4 := (hb1.block lb (lt_of HB3.out)).trans HB3.out
  have c6 : w3.cell? ⟨lb, 6, none⟩ = some x6 := by rw [cell_of hb4]; rfl
  have f6 : w3.frozen? ⟨lb, 6, none⟩ = false := frozen_of hb4 6
  have keepT : ∀ {v : Value} {J : Nat → Nat → Int}, Table w3 v n J → Table (w3.setCell ⟨lb, 6, none⟩ (.slice (some ⟨a2, 0, none⟩) n n)) v n J := fun ht =>
    ht.keep (lb := w3.heap.size) fun k c t hc ht => Below.heap_setCell w3 ⟨lb, 6, none⟩ _ k (by
      rintro rfl
      rcases ht with e | ht
      · have := lt_of hc; omega
      · rw [hb4] at hc
        injection hc with hc
        injection hc with _ e
        exact ht e.symm)
  have HF := Lib.hid (show Keeps lb w (w3.setCell ⟨lb, 6, none⟩ (.slice (some ⟨a2, 0, none⟩) n n)) ∧ ∃ js ms, (w3.setCell ⟨lb, 6, none⟩ (.slice (some ⟨a2, 0, none⟩) n n)).heap[lb]? = some (.cells (latCells ub db n x2 x3 x4 js ms) 53 (0, 0)) ∧ Table (w3.setCell ⟨lb, 6, none⟩ (.slice (some ⟨a2, 0, none⟩) n n)) js n (joinT n T) ∧ Table (w3.setCell ⟨lb, 6, none⟩ (.slice (some ⟨a2, 0, none⟩) n n)) ms n (joinT n (flipT T)) from
    ⟨(HK1.out.trans (Keeps.of_below hb1)).trans (Keeps.set lb w3 6 _), _, _, blk_set hb4 6 _, keepT (HT1.out.keep (lb := lb) fun k c t hc _ => hb1.block k (lt_of hc)), keepT ht2⟩)
  clear hb1 hb4 ht2 keepT
  go_wp2
  go_end0
  exact ⟨rfl, HF.out⟩

end Go.Proofs.Ytnccnaadhknfbaa
