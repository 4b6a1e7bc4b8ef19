/- Layer 11: the law's own row of a text. -/
import Derived.Test.YthpnmhllgjibgaaRwI
import Derived.Lib.OthersKept
import Derived.WalkSmall
import Derived.WalkSpells
set_option linter.unusedVariables false
namespace Go.Proofs.Ythpnmhllgjibgaa.Rw
open Go.RowKit

/-- A text's characters from a place on, as Go's loop reads them. -/
def Steps (s : ByteArray) : Nat → List Nat → Prop
  | pos, [] => s.size ≤ pos
  | pos, r :: rs => pos < s.size ∧ (Utf8.decode s pos).1 = r ∧ 1 ≤ (Utf8.decode s pos).2 ∧ Steps s (pos + (Utf8.decode s pos).2) rs
def ofR (r : Nat) : List Ce := if 255 < r then [⟨r, 1, zeroAa⟩, ⟨r, 2, zeroAa⟩] else [⟨r, 0, zeroAa⟩]
def ofV (rs : List Nat) : List Ce := rs.flatMap ofR
theorem ofV_snoc (rs : List Nat) (r : Nat) : ofV (rs ++ [r]) = ofV rs ++ ofR r := by simp [ofV]
theorem iterPos_of {w : World} {k : Nat} {s : ByteArray} {p : Nat} (h : w.heap[k]? = some (.stringIter s p)) : w.iterPos k = p := by simp [World.iterPos, h]
theorem ofR_len (r : Nat) : (ofR r).length ≤ 2 := by unfold ofR; split <;> simp
theorem ofV_len (rs : List Nat) : (ofV rs).length ≤ 2 * rs.length := by
  induction rs with
  | nil => simp [ofV]
  | cons r rs ih =>
    have e : ofV (r :: rs) = ofR r ++ ofV rs := rfl
    rw [e, List.length_append, List.length_cons]
    have := ofR_len r
    omega
/-- Two cells, made as a slice. -/
theorem two_lies (w : World) (r : Int) : Lies (w.alloc (.cells #[.int .i32 r, .int .u8 1, .int .u16 0, .int .u8 0, .int .u32 0, .int .u8 0, .int .u32 0, .int .i32 r, .int .u8 2, .int .u16 0, .int .u8 0, .int .u32 0, .int .u8 0, .int .u32 0] 44)) (.slice (some ⟨w.heap.size, 0, none⟩) 2 2) [⟨r, 1, zeroAa⟩, ⟨r, 2, zeroAa⟩] := by
  refine ⟨_, 2, rfl, fun e => (by cases e), ⟨Nat.le_refl 2, by decide⟩, fun _ => ⟨w.heap.size, 0, rfl, by simp, fun i hi j u hj => ?_⟩⟩
  rw [cell_of (heap_alloc_new w _)]
  have hi : i < 2 := hi
  have hj7 : j < 7 := by
    have := (List.getElem?_eq_some_iff.1 hj).1
    rwa [cells_len] at this
  have : i = 0 ∨ i = 1 := by omega
  have hj8 : j = 0 ∨ j = 1 ∨ j = 2 ∨ j = 3 ∨ j = 4 ∨ j = 5 ∨ j = 6 := by omega
  rcases this with rfl | rfl <;> rcases hj8 with rfl | rfl | rfl | rfl | rfl | rfl | rfl <;> exact hj

structure OfRel (w wr : World) (s : ByteArray) (rs : List Nat) (v : Value) (pos : Nat) (a b : List Nat) : Prop where
  cut : rs = a ++ b
  steps : Steps s pos b
  it : wr.heap[w.heap.size]? = some (.stringIter s pos)
  own : OwnC wr (w.heap.size + 1) v (ofV a)
  old : Below w.heap.size w wr
  sz : w.heap.size + 1 ≤ wr.heap.size
theorem OfRel.next {w W1 w2 : World} {s : ByteArray} {rs a b : List Nat} {u v : Value} {pos r : Nat} {x : Obj} (hc : rs = a ++ r :: b) (hs : Steps s pos b) (hit : W1.heap[w.heap.size]? = some (.stringIter s pos)) (hO : OwnC W1 (w.heap.size + 1) u (ofV a)) (hB : Below w.heap.size w W1) (hz : w.heap.size + 1 ≤ W1.heap.size)
    (ho : OwnC w2 (w.heap.size + 1) v (ofV a ++ ofR r)) (gr : (W1.alloc x).grownBy w2 u.ownBlock) : OfRel w w2 s rs v pos (a ++ [r]) b := by
  refine ⟨by rw [hc]; simp, hs, ?_, by rw [ofV_snoc]; exact ho, ?_, Nat.le_trans hz (Nat.le_trans (by simp) gr.size)⟩
  · rw [gr.block _ (by simp; omega) (fun e => by have := own_ge hO _ e.symm; omega), Below.heap_alloc _ _ _ (by omega)]
    exact hit
  · exact (hB.alloc (by omega) x).grown gr (by simp; omega) (fun g hg => by have := own_ge hO g hg; omega)

set_option maxRecDepth 100000 in
set_option maxHeartbeats 4000000 in
theorem of_any (s : ByteArray) (rs : List Nat) (hs : Steps s 0 rs) (hl : rs.length ≤ 1000) (w : World) :
    Calls Try.prog 22 #[.string s] w (RowPost w (ofV rs)) := by
  have HS := Lib.hid hs
  clear hs
  go_enter Try.func22, Try.ntmps22
  go_wp2
  go_loopw [3] (fun v wr => ∃ (pos : Nat) (a b : List Nat), OfRel w wr s rs v pos a b) (fun _ wr => s.size - wr.iterPos w.heap.size)
  case atStart => exact ⟨0, [], rs, rfl, HS.out, World.iter_heap w s 0, own_none _ _, (Below.refl _ _).alloc (Nat.le_refl _) _, by simp [World.iter]⟩
  case round =>
    obtain ⟨pos, a, b, hr⟩ := hrel
    rename_i wr
    have hpos0 := Lib.hid (iterPos_of hr.it)
    cases b with
    | nil =>
      have hp : ¬ pos < s.size := by have : s.size ≤ pos := hr.steps; omega
      have hnx : ∀ ty, (Instr.next (.pointer (some ⟨w.heap.size, 0, none⟩)) true ty).run Try.prog wr = .ok (.tuple #[.bool false]) wr := fun ty => Lib.run_next_end_at wr w.heap.size s pos ty hr.it hp
      have ho := hr.own
      have hc := hr.cut
      rw [List.append_nil] at hc
      rw [← hc] at ho
      have HO := Lib.hid (own_less ho (Nat.le_succ _))
      have HB := Lib.hid hr.old
      clear hr ho hc hpos0 hp
      go_wp2
      go_ret
      exact ⟨_, rfl, HO.out, HB.out⟩
    | cons r b =>
      obtain ⟨hp, hdr, hd1, hst⟩ := hr.steps
      have hnx0 : ∀ ty, (Instr.next (.pointer (some ⟨w.heap.size, 0, none⟩)) true ty).run Try.prog wr = _ := fun ty => Lib.run_next_any_at wr w.heap.size s pos ty hr.it hp
      obtain ⟨W1, hW1⟩ : ∃ W1, W1 = wr.iterAt w.heap.size s (pos + (Utf8.decode s pos).2) := ⟨_, rfl⟩
      have hit2 := Lib.hid (hW1 ▸ Lib.iterAt_heap wr w.heap.size s pos (pos + (Utf8.decode s pos).2) hr.it)
      have hbw2 := Lib.hid (hW1 ▸ Lib.below_iterAt hr.old (k := w.heap.size) (Nat.le_refl _) s (pos + (Utf8.decode s pos).2))
      have hown2 : Hid (OwnC W1 (w.heap.size + 1) _ (ofV a)) := Lib.hid (hW1 ▸ ownsRow_iterAt hr.own (k := w.heap.size) (by omega) s (pos + (Utf8.decode s pos).2))
      have hsz2 : Hid (w.heap.size + 1 ≤ W1.heap.size) := Lib.hid (by rw [hW1, Lib.iterAt_size]; exact hr.sz)
      have HC := Lib.hid hr.cut
      have HSt := Lib.hid hst
      have HD := Lib.hid hd1
      have hla := ofV_len a
      have hlen : a.length ≤ 1000 := by have := hl; rw [hr.cut, List.length_append] at this; omega
      have HP := Lib.hid hp
      rw [← hW1, hdr] at hnx0
      clear hr hW1 hst hdr hd1 hp
      by_cases hw : 255 < r
      · have g1 : decide ((r : Int) > 255) = true := by simp; omega
        have HE : Hid (ofR r = [⟨r, 1, zeroAa⟩, ⟨r, 2, zeroAa⟩]) := Lib.hid (by unfold ofR; rw [if_pos hw])
        go_wp2_with (at_builtin; refine append_cells _ rfl (.tmp 13) (.tmp 18) rfl (w.heap.size + 1) _ _ (ofV a) [⟨r, 1, zeroAa⟩, ⟨r, 2, zeroAa⟩] rfl (own_below hown2.out ((Below.refl _ _).alloc (Nat.le_refl _) _) (Nat.le_refl _)) rfl (two_lies W1 r) (by simp; omega) (by have := hsz2.out; simp; omega) ?_)
        intro v' w2 o2 gr
        have R2 := Lib.hid (OfRel.next HC.out HSt.out hit2.out hown2.out hbw2.out hsz2.out (by rw [HE.out]; exact o2) gr)
        clear o2 gr hit2 hbw2 hown2
        go_wp2
        go_roundw
        case rel => exact ⟨_, _, _, R2.out⟩
        case measure => rw [iterPos_of R2.out.it, hpos0.out]; have := HD.out; have := HP.out; omega
      · have g1 : decide ((r : Int) > 255) = false := by simp; omega
        have HE : Hid (ofR r = [⟨r, 0, zeroAa⟩]) := Lib.hid (by unfold ofR; rw [if_neg hw])
        go_wp2_with (at_builtin; refine append_cells _ rfl (.tmp 20) (.tmp 23) rfl (w.heap.size + 1) _ _ (ofV a) [⟨r, 0, zeroAa⟩] rfl (own_below hown2.out ((Below.refl _ _).alloc (Nat.le_refl _) _) (Nat.le_refl _)) rfl (one_lies W1 ⟨r, 0, zeroAa⟩) (by simp; omega) (by have := hsz2.out; simp; omega) ?_)
        intro v' w2 o2 gr
        have R2 := Lib.hid (OfRel.next HC.out HSt.out hit2.out hown2.out hbw2.out hsz2.out (by rw [HE.out]; exact o2) gr)
        clear o2 gr hit2 hbw2 hown2
        go_wp2
        go_roundw
        case rel => exact ⟨_, _, _, R2.out⟩
        case measure => rw [iterPos_of R2.out.it, hpos0.out]; have := HD.out; have := HP.out; omega
end Go.Proofs.Ythpnmhllgjibgaa.Rw
