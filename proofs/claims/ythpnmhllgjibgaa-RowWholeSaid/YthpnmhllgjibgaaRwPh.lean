/- Layer 11: the program's Whole. -/
import Derived.Test.YthpnmhllgjibgaaRwPd
set_option linter.unusedVariables false
namespace Go.Proofs.Ythpnmhllgjibgaa.Rw
open Go.RowKit

abbrev zeroO : Obj := .cells #[.int .i32 0, .int .u8 0, .int .u16 0, .int .u8 0, .int .u32 0, .int .u8 0, .int .u32 0] 44 (0, 0)
/-- A cell's own block, made and written. -/
theorem zero_at (w : World) (c : Ce) {B : Nat} {w0 : World} (hb : Below B w0 w) : ∃ W q, w.alloc zeroO = W ∧ w.heap.size = q ∧
    (W.cell? ⟨q, 0, none⟩ = some (.int .i32 0) ∧ W.cell? ⟨q, 1, none⟩ = some (.int .u8 0) ∧ W.cell? ⟨q, 2, none⟩ = some (.int .u16 0) ∧ W.cell? ⟨q, 3, none⟩ = some (.int .u8 0) ∧ W.cell? ⟨q, 4, none⟩ = some (.int .u32 0) ∧ W.cell? ⟨q, 5, none⟩ = some (.int .u8 0) ∧ W.cell? ⟨q, 6, none⟩ = some (.int .u32 0)) ∧ (∀ i, W.frozen? ⟨q, i, none⟩ = false) ∧ (B ≤ w.heap.size → Below B w0 (setCe W q 0 c)) ∧ Below w.heap.size w (setCe W q 0 c) ∧
    (setCe W q 0 c).heap[q]? = some (.cells #[.int .i32 c.r, .int .u8 (c.w : Int), .int .u16 (c.a.fl : Int), .int .u8 (c.a.fk : Int), .int .u32 (c.a.fn : Int), .int .u8 (c.a.bk : Int), .int .u32 (c.a.bn : Int)] 44 (0, 0)) := by
  have hnew := heap_alloc_new w zeroO
  refine ⟨_, _, rfl, rfl, ⟨cell_of hnew 0, cell_of hnew 1, cell_of hnew 2, cell_of hnew 3, cell_of hnew 4, cell_of hnew 5, cell_of hnew 6⟩, free_of hnew, fun h => setCe_below (hb.alloc h _) h 0 c, setCe_below ((Below.refl _ _).alloc (Nat.le_refl _) _) (Nat.le_refl _) 0 c, heap_ce hnew c⟩

theorem wpList_alloc_ce {w : World} {ops : Array Oper} {rest : List Oper} {o : Oper} {a : Act} {Q : Exit → Act → World → Prop} (hgd : o.guard = none) (ho : o.op = .alloc 44)
    (h : wpList Try.prog ops Q rest (a.put o.dst (.pointer (some ⟨w.heap.size, 0, none⟩))) (w.alloc zeroO)) : wpList Try.prog ops Q (o :: rest) a w := by
  refine wpList_plain hgd fun K hK => ?_
  unfold Oper.wp
  rw [exec_alloc _ _ ho, Oper.upon_value]
  exact hK _ _ h

set_option maxRecDepth 100000 in
set_option maxHeartbeats 2000000 in
theorem pwhole_any (u : Value) (l : List Ce) (w : World) (h : Lies w u l) (hl : l.length ≤ 100000) : Calls Try.prog 12 #[u] w fun e w' => e = .returned (.bool (wholeB l)) ∧ Below w.heap.size w w' := by
  obtain ⟨A, c, rfl, -⟩ := id h
  obtain ⟨n, hnn⟩ : ∃ n, n = l.length := ⟨_, rfl⟩
  rw [← hnn] at h hl ⊢
  obtain ⟨hn, -, -, R⟩ := h.row
  have HN := Lib.hid hn
  have HR := Lib.hid R
  obtain ⟨W, hW⟩ : ∃ W, W = wholeB l := ⟨_, rfl⟩
  rw [← hW]
  have HW := Lib.hid hW
  clear h hn R hW hnn
  go_enter Try.func12, Try.ntmps12
  go_wp2
  go_loopw [8, 3] (fun i op wr => ∃ (k : Nat) (o : Bool), k ≤ n ∧ i = .int .i64 k ∧ op = .bool o ∧ Hid (runO false l = runO o (l.drop k)) ∧ Hid (Below w.heap.size w wr)) (fun i _ _ => n - (RowKit.intOf i).toNat)
  case atStart => exact ⟨0, false, Nat.zero_le _, rfl, rfl, Lib.hid rfl, Lib.hid (Below.refl _ _)⟩
  case round =>
    obtain ⟨k, o, hk, rfl, rfl, HO, HB⟩ := hrel
    rename_i wr
    by_cases hlt : k < n
    · have glt : decide ((k : Int) < (n : Int)) = true := by simp; omega
      have hkl : k < l.length := by rw [← HN.out]; exact hlt
      obtain ⟨b, p, rfl, hb, p0, p1, p2, p3, p4, p5, p6⟩ := HR.out.at_ hkl
      replace p0 := (HB.out.cell hb).trans p0
      replace p1 := (HB.out.cell hb).trans p1
      replace p2 := (HB.out.cell hb).trans p2
      replace p3 := (HB.out.cell hb).trans p3
      replace p4 := (HB.out.cell hb).trans p4
      replace p5 := (HB.out.cell hb).trans p5
      replace p6 := (HB.out.cell hb).trans p6
      have i1 := idx_cell b p n c k hlt
      have HNx := Lib.hid (run_next hkl o)
      obtain ⟨C, hC⟩ : ∃ C, C = cellV l k := ⟨_, rfl⟩
      rw [← hC] at p0 p1 p2 p3 p4 p5 p6
      rw [← hC] at HNx
      clear hC
      obtain ⟨W2, q, hW2, hq, ⟨e0, e1, e2, e3, e4, e5, e6⟩, fz, hbz, -, hcell⟩ := zero_at wr C HB.out
      have HB3 := Lib.hid (hbz HB.out.size)
      have c1 := cell_of hcell 1
      have HW2 := Lib.hid hW2
      have Hq := Lib.hid hq
      clear hbz hcell hW2 hq hb
      go_upto_region 5 with (refine wpList_alloc_ce rfl rfl ?_; rw [HW2.out, Hq.out])
      clear p0 p1 p2 p3 p4 p5 p6 HW2
      change Code.wp _ _ _ _ (setCe W2 q 0 C)
      generalize setCe W2 q 0 C = W3 at HB3 c1 ⊢
      clear e0 e1 e2 e3 e4 e5 e6 fz
      replace c1 : W3.cell? ⟨q, 1, none⟩ = some (.int .u8 (C.w : Int)) := c1
      obtain ⟨z, hz⟩ : ∃ z, z = C.w := ⟨_, rfl⟩
      rw [← hz] at c1
      by_cases hbad : z > 2 ∨ o ≠ (z == 2)
      · have HF : Hid (W = false) := Lib.hid (by rw [HW.out]; exact whole_no (by rw [HO.out, HNx.out, next_none (by rw [← hz]; exact hbad)]; rfl))
        clear HO HNx hz
        by_cases h2 : z > 2
        · have g1 : decide ((z : Int) > 2) = true := by simp; omega
          go_wp2
          go_ret
          exact ⟨ret_bool HF.out.symm, HB3.out⟩
        · have g1 : decide ((z : Int) > 2) = false := by simp; omega
          have hb2 := hbad.resolve_left h2
          by_cases h3 : z = 2
          · subst h3
            obtain rfl : o = false := by cases o; rfl; exact absurd rfl hb2
            go_wp2
            go_ret
            exact ⟨ret_bool HF.out.symm, HB3.out⟩
          · have g2 : ((z : Int) == 2) = false := by simp; omega
            obtain rfl : o = true := by
              cases o
              · exact absurd (by simp [h3]) hb2
              · rfl
            go_wp2
            go_ret
            exact ⟨ret_bool HF.out.symm, HB3.out⟩
      · have HS : Hid (runO false l = runO (z == 1) (l.drop (k + 1))) := Lib.hid (by rw [HO.out, HNx.out, next_some (by rw [← hz]; exact hbad), ← hz]; rfl)
        have g1 : decide ((z : Int) > 2) = false := by simp; omega
        have ho : o = (z == 2) := by
          by_cases e : o = (z == 2)
          · exact e
          · exact absurd (Or.inr e) hbad
        have g3 : ((z : Int) == 1) = (z == 1) := by
          by_cases e : z = 1
          · subst e; rfl
          · rw [show (z == 1) = false by simpa using e]; simp; omega
        clear HO HNx hz hbad
        by_cases h3 : z = 2
        · subst h3
          have e : o = true := ho
          clear ho
          subst e
          go_wp2
          go_roundw
          case rel => exact ⟨k + 1, false, by omega, by go_num, rfl, HS, HB3⟩
          case measure => simp [RowKit.intOf]; omega
        · have g2 : ((z : Int) == 2) = false := by simp; omega
          have e : o = false := by rw [ho]; simpa using h3
          clear ho h3
          subst e
          go_wp2
          go_roundw
          case rel => exact ⟨k + 1, (z == 1), by omega, by go_num, rfl, HS, HB3⟩
          case measure => simp [RowKit.intOf]; omega
    · have hkn : k = n := by omega
      have HF : Hid ((!o) = W) := Lib.hid (by rw [HW.out]; exact (whole_end (by rw [HO.out, List.drop_eq_nil_of_le (by rw [hkn, HN.out]; exact Nat.le_refl _)]; rfl)).symm)
      subst hkn
      clear HO
      go_wp2
      go_ret
      exact ⟨ret_bool HF.out, HB.out⟩
end Go.Proofs.Ythpnmhllgjibgaa.Rw
