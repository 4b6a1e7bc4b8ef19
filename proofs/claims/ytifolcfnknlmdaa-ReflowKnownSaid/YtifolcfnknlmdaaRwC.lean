/- Layer 11: the document's rows: Blanks, join, Same, room. -/
import Derived.Test.YtifolcfnknlmdaaRwA
set_option linter.unusedVariables false
namespace Go.Proofs.Ytifolcfnknlmdaa.Rw
open Go.RowKit

/-- A row of the call's own is answered. -/
def RowPost (w : World) (l : List Ce) (e : Ending) (w' : World) : Prop := ∃ v, e = .returned v ∧ OwnC w' w.heap.size v l ∧ Below w.heap.size w w'
theorem nil_cat (l : List Ce) : [] ++ l = l := rfl
theorem grown_below {B : Nat} {w0 w w' : World} {v : Value} {l : List Ce} (hb : Below B w0 w) (hg : w.grownBy w' v.ownBlock) (ho : OwnC w B v l) (hB : B ≤ w.heap.size) : Below B w0 w' := hb.grown hg hB (own_ge ho)

/-- One cell, made as a slice. -/
theorem one_lies (w : World) (c : Ce) : Lies (w.alloc (.cells (cellsC c).toArray 38)) (.slice (some ⟨w.heap.size, 0, none⟩) 1 1) [c] :=
  ⟨_, 1, rfl, fun e => (by cases e), ⟨Nat.le_refl 1, by decide⟩, fun _ => ⟨w.heap.size, 0, rfl, by simp, fun i hi j u hj => by
    have h0 : i = 0 := by simpa using hi
    subst h0
    rw [cell_of (heap_alloc_new w _)]
    have hj : (cellsC c)[j]? = some u := hj
    simpa using hj⟩⟩

set_option maxRecDepth 100000 in
set_option maxHeartbeats 1000000 in
theorem blanks_any (n : Int) (a : Aa) (w : World) (hn : n ≤ 100000) :
    Calls Try.prog 38 #[.int .i64 n, attrV a] w (RowPost w (blanks n.toNat a)) := by
  obtain ⟨W0, hW0⟩ : ∃ W0, W0 = w.alloc (.cells #[.int .u16 (a.fl : Int), .int .u8 (a.fk : Int), .int .u32 (a.fn : Int), .int .u8 (a.bk : Int), .int .u32 (a.bn : Int)] 36) := ⟨_, rfl⟩
  have hB : Below w.heap.size w W0 := by rw [hW0]; exact (Below.refl _ _).alloc (Nat.le_refl _) _
  have hblk : W0.heap[w.heap.size]? = some (.cells #[.int .u16 (a.fl : Int), .int .u8 (a.fk : Int), .int .u32 (a.fn : Int), .int .u8 (a.bk : Int), .int .u32 (a.bn : Int)] 36 (0, 0)) := by rw [hW0]; exact heap_alloc_new w _
  have hs : w.heap.size + 1 = W0.heap.size := by rw [hW0]; simp
  have HQ : Hid (∀ V, Below (w.heap.size + 1) W0 V → V.heap[w.heap.size]? = some (.cells #[.int .u16 (a.fl : Int), .int .u8 (a.fk : Int), .int .u32 (a.fn : Int), .int .u8 (a.bk : Int), .int .u32 (a.bn : Int)] 36 (0, 0))) := Lib.hid fun V hV => (hV.block _ (by omega)).trans hblk
  have HW := Lib.hid hW0
  have HB := Lib.hid hB
  have HS := Lib.hid hs
  clear hW0 hB hblk hs
  go_enter Try.func38, Try.ntmps38
  go_wp2_with fail
  rw [← HW.out]
  obtain ⟨m, hm⟩ : ∃ m, m = n.toNat := ⟨_, rfl⟩
  rw [← hm]
  obtain ⟨i0, hi, hz0, hz1, hz2⟩ := info_parts info_cell
  go_loopw [5, 6] (fun v i wr => ∃ k : Nat, k ≤ m ∧ i = .int .i64 k ∧ Hid (OwnC wr (w.heap.size + 1) v (blanks k a)) ∧ Hid (Below (w.heap.size + 1) W0 wr)) (fun _ i _ => m - (RowKit.intOf i).toNat)
  case atStart => exact ⟨0, Nat.zero_le _, rfl, Lib.hid (own_none _ _), Lib.hid (Below.refl _ _)⟩
  case round =>
    obtain ⟨k, hk, rfl, HO, HBr⟩ := hrel
    rename_i wr
    by_cases hlt : k < m
    · have glt : decide ((k : Int) < n) = true := by simp; omega
      have hb := HQ.out _ HBr.out
      have a0 := cell_of hb 0
      have a1 := cell_of hb 1
      have a2 := cell_of hb 2
      have a3 := cell_of hb 3
      have a4 := cell_of hb 4
      have hbs := HBr.out.size
      have HA : Hid (Lies (wr.alloc (.cells (cellsC (blankC a)).toArray 38)) (.slice (some ⟨wr.heap.size, 0, none⟩) 1 1) [blankC a]) := Lib.hid (one_lies wr (blankC a))
      have HBA : Hid (Below (w.heap.size + 1) W0 (wr.alloc (.cells (cellsC (blankC a)).toArray 38))) := Lib.hid (HBr.out.alloc (by rw [HS.out]; exact hbs) _)
      have HOA := Lib.hid (own_below (w' := wr.alloc (.cells (cellsC (blankC a)).toArray 38)) HO.out ((Below.refl _ _).alloc (Nat.le_refl _) _) (Nat.le_refl _))
      clear hb
      go_wp2_with (at_builtin; refine append_cells _ rfl (.tmp 12) (.tmp 15) rfl (w.heap.size + 1) _ _ (blanks k a) [blankC a] rfl HOA.out rfl HA.out (by rw [blanks_len]; simp; omega) (by rw [HS.out]; exact HBA.out.size) ?_)
      intro v' w1 ho hg
      have O1 : Hid (OwnC w1 (w.heap.size + 1) v' (blanks (k + 1) a)) := Lib.hid (by
        have e : blanks (k + 1) a = blanks k a ++ [blankC a] := by unfold blanks; rw [List.replicate_succ']
        rw [e]; exact ho)
      have B1 := Lib.hid (grown_below HBA.out hg HOA.out (by rw [HS.out]; exact HBA.out.size))
      clear ho hg HO HBr HA HBA HOA
      go_wp2
      go_roundw
      case rel => exact ⟨k + 1, by omega, by go_num, O1, B1⟩
      case measure => simp [RowKit.intOf]; omega
    · have hkm : k = m := by omega
      subst hkm
      have glt : decide ((k : Int) < n) = false := by simp; omega
      have ho := HO.out
      rw [hm] at ho
      have HO2 := Lib.hid ho
      clear ho HO hm
      go_wp2
      go_ret
      refine ⟨_, rfl, own_less HO2.out (Nat.le_succ _), ?_⟩
      exact HB.out.trans (HBr.out.mono (by omega))
end Go.Proofs.Ytifolcfnknlmdaa.Rw
