/- Layer 9: the document's Of, Text, Cut. -/
import Derived.Test.YtablkipcngbkjaaDoorWdB
import Derived.Deep.CutBlock
import Derived.Deep.DeepCutAuto
set_option linter.unusedVariables false
namespace Go.Proofs.YtablkipcngbkjaaDoor
open Go.RowKit Wid

theorem build3 (x y z : Int) (W : World) : (Instr.build 22 #[(0, .int .i32 x), (1, .int .i32 y), (2, .int .i32 z)]).run Tryd.prog W = .ok (.agg #[.int .i32 x, .int .i32 y, .int .i32 z]) W := run_build W 22 _ _ (by kernel_rfl)

def rowC (x : Int × Int × Int) : List Value := [.int .i32 x.1, .int .i32 x.2.1, .int .i32 x.2.2]
def docC : Array Value := (docT.flatMap rowC).toArray
theorem flat3 : ∀ (l : List (Int × Int × Int)) (k : Nat) (hk : k < l.length) (j : Nat) (_ : j < 3), (l.flatMap rowC)[k * 3 + j]? = (rowC l[k])[j]?
  | x :: l, 0, _, j, hj => by
    rw [List.flatMap_cons, List.getElem?_append_left (by show _ < 3; omega)]
    simp
  | x :: l, k + 1, hk, j, hj => by
    have := flat3 l k (by simpa using hk) j hj
    rw [List.flatMap_cons, List.getElem?_append_right (by show 3 ≤ _; omega), show (k + 1) * 3 + j - (rowC x).length = k * 3 + j by show _ - 3 = _; omega, this]
    rfl
theorem doc_len : docT.length = 26 := by kernel_rfl

/-- The document's table in block R. -/
def DocAt (w : World) (R : Nat) : Prop := ∀ k (hk : k < docT.length), w.cell? ⟨R, k * 3, none⟩ = some (.int .i32 (docT[k]).1) ∧ w.cell? ⟨R, k * 3 + 1, none⟩ = some (.int .i32 (docT[k]).2.1) ∧ w.cell? ⟨R, k * 3 + 2, none⟩ = some (.int .i32 (docT[k]).2.2)
theorem cell_of {w : World} {b : Nat} {c : Array Value} {t : TypeId} (h : w.heap[b]? = some (.cells c t (0, 0))) (i : Nat) : w.cell? ⟨b, i, none⟩ = c[i]? := by
  simp [World.cell?, h]
theorem doc_new (w : World) : DocAt (w.alloc (.cells docC 22)) w.heap.size := fun k hk => by
  have h := cell_of (Deep.blk_alloc_new w (.cells docC 22))
  have g := flat3 docT k hk
  refine ⟨?_, ?_, ?_⟩
  · exact (h _).trans (by unfold docC; rw [List.getElem?_toArray]; exact g 0 (by omega))
  · exact (h _).trans (by unfold docC; rw [List.getElem?_toArray]; exact g 1 (by omega))
  · exact (h _).trans (by unfold docC; rw [List.getElem?_toArray]; exact g 2 (by omega))
theorem DocAt.below {w w' : World} {R B : Nat} (h : DocAt w R) (hb : Below B w w') (hR : R < B) : DocAt w' R := fun k hk =>
  ⟨(hb.cell (p := ⟨R, _, none⟩) hR).trans (h k hk).1, (hb.cell (p := ⟨R, _, none⟩) hR).trans (h k hk).2.1, (hb.cell (p := ⟨R, _, none⟩) hR).trans (h k hk).2.2⟩
theorem doc_row {k : Nat} (hk : k < docT.length) : 0 ≤ (docT[k]).2.2 ∧ (docT[k]).2.2 ≤ 2 := by simpa using List.all_eq_true.1 doc_in _ (List.getElem_mem hk)

set_option maxHeartbeats 2000000 in
theorem ref_of (r : Int) (w : World) : Calls Tryd.prog 10 #[.int .i32 r] w fun e w' => e = .returned (.int .i64 (ofV r)) ∧ Below w.heap.size w w' := by
  have kb := build3
  go_enter Tryd.func10, Tryd.ntmps10
  go_upto_region 1 with fail
  go_cut [3] (fun s3 wc => s3 = .slice (some ⟨w.heap.size, 0, none⟩) 26 26 ∧ DocAt wc w.heap.size ∧ Below w.heap.size w wc ∧ w.heap.size < wc.heap.size)
  case first =>
    go_wp2
    go_meet
    exact ⟨rfl, doc_new w, (Below.refl _ _).alloc (Nat.le_refl _) _, by simp⟩
  case rest =>
    obtain ⟨rfl, hD, hB, hS⟩ := hcut
    have HD := Lib.hid hD
    have HB0 := Lib.hid hB
    clear hD hB kb
    rename_i wc
    obtain ⟨R, hR⟩ : ∃ R, R = w.heap.size := ⟨_, rfl⟩
    have HR := Lib.hid hR
    rw [← hR] at HD hS ⊢
    clear hR
    go_wp2
    go_loopw [4] (fun i wr => ∃ k : Nat, k ≤ 26 ∧ i = .int .i64 k ∧ wr = wc ∧ Hid (findW r (docT.drop k) = ofV r)) (fun i _ => 26 - (RowKit.intOf i).toNat)
    case atStart => exact ⟨0, by omega, rfl, rfl, Lib.hid (by rw [List.drop_zero]; rfl)⟩
    case round =>
      obtain ⟨k, hk, rfl, rfl, HF⟩ := hrel
      by_cases hlt : k < 26
      · have hlt' : k < docT.length := by rw [doc_len]; exact hlt
        obtain ⟨c1, c2, c3⟩ := HD.out k hlt'
        have g3 := doc_row hlt'
        have HG := Lib.hid (findW_drop r hlt')
        generalize docT[k] = x at c1 c2 c3 HG g3
        obtain ⟨x1, x2, x3⟩ := x
        dsimp only at c1 c2 c3 HG g3
        obtain ⟨g3, g4⟩ := g3
        by_cases g1 : x1 ≤ r
        · by_cases g2 : r ≤ x2
          · have E : Hid (ofV r = x3) := Lib.hid (by rw [← HF.out, HG.out, fits_iff.2 ⟨g1, g2⟩]; rfl)
            go_wp2
            go_ret
            exact ⟨ret_int E.out.symm, HB0.out⟩
          · have E : Hid (findW r (docT.drop (k + 1)) = ofV r) := Lib.hid (by
              rw [← HF.out, HG.out]
              have : fitsW r (x1, x2, x3) = false := by simp [fitsW, g2]
              rw [this]; rfl)
            go_wp2
            go_roundw
            case rel => exact ⟨k + 1, by omega, by go_num, (by first | trivial | rfl), E⟩
            case measure => simp [RowKit.intOf]; omega
        · have E : Hid (findW r (docT.drop (k + 1)) = ofV r) := Lib.hid (by
            rw [← HF.out, HG.out]
            have : fitsW r (x1, x2, x3) = false := by simp [fitsW, g1]
            rw [this]; rfl)
          have d1 : decide (x1 ≤ r) = false := by simpa using g1
          go_wp2
          go_roundw
          case rel => exact ⟨k + 1, by omega, by go_num, (by first | trivial | rfl), E⟩
          case measure => simp [RowKit.intOf]; omega
      · have hk26 : k = 26 := by omega
        have E : Hid (ofV r = 1) := Lib.hid (by rw [← HF.out, hk26, List.drop_eq_nil_of_le (by rw [doc_len]; exact Nat.le_refl _)]; rfl)
        subst hk26
        go_wp2
        go_ret
        exact ⟨ret_int E.out.symm, HB0.out⟩
end Go.Proofs.YtablkipcngbkjaaDoor
