/- Layer 9: the program's table in memory; Of. -/
import Derived.Test.YtablkipcngbkjaaDoorProg
import Derived.Test.YtablkipcngbkjaaDoorWdM
import Derived.WalkKit
import Derived.Below
import Derived.LoopTactic
import Derived.IntWalk
import Derived.Deep.Heap
set_option linter.unusedVariables false
namespace Go.Proofs.YtablkipcngbkjaaDoor
open Go.RowKit Wid

theorem ret_int {k : IntKind} {a b : Int} (h : a = b) : Ending.returned (.int k a) = .returned (.int k b) := by rw [h]

theorem add_off (b o i : Nat) : ({ block := b, off := o, spot := none } : Addr).add i = ⟨b, o + i, none⟩ := by
  unfold Addr.add
  split
  all_goals first | rfl | (rename_i h; subst h; rfl)

/-- The program's table lies in memory. -/
structure WTab (w : World) : Prop where
  glob : 0 < w.heap.size
  ex : ∃ R o c, R < w.heap.size ∧ w.cell? ⟨0, 0, none⟩ = some (.slice (some ⟨R, o, none⟩) 26 c) ∧
    ∀ k (hk : k < proT.length), w.cell? ⟨R, o + k * 3, none⟩ = some (.int .i32 (proT[k]).1) ∧ w.cell? ⟨R, o + k * 3 + 1, none⟩ = some (.int .i32 (proT[k]).2.1) ∧ w.cell? ⟨R, o + k * 3 + 2, none⟩ = some (.int .i64 (proT[k]).2.2)
theorem WTab.below {w w' : World} {B : Nat} (h : WTab w) (hb : Below B w w') (hB : w.heap.size ≤ B) : WTab w' := by
  obtain ⟨R, o, c, h1, h2, h3⟩ := h.ex
  have k : ∀ b i, b < w.heap.size → w'.cell? ⟨b, i, none⟩ = w.cell? ⟨b, i, none⟩ := fun b i hl => hb.cell (p := ⟨b, i, none⟩) (Nat.lt_of_lt_of_le hl hB)
  exact ⟨Nat.lt_of_lt_of_le h.glob hb.size, R, o, c, Nat.lt_of_lt_of_le h1 hb.size, (k _ _ h.glob).trans h2, fun j hj => ⟨(k _ _ h1).trans (h3 j hj).1, (k _ _ h1).trans (h3 j hj).2.1, (k _ _ h1).trans (h3 j hj).2.2⟩⟩

theorem pro_len : proT.length = 26 := by kernel_rfl

set_option maxHeartbeats 1000000 in
theorem of_any (r : Int) (w : World) (hT : WTab w) : Calls Tryd.prog 7 #[.int .i32 r] w fun e w' => e = .returned (.int .i64 (ofV r)) ∧ Below w.heap.size w w' := by
  obtain ⟨R, o, c, h1, h2, h3⟩ := hT.ex
  have H3 := Lib.hid h3
  have HE := Lib.hid (findS_pro r)
  have hg := hT.glob
  clear h3 hT
  go_enter Tryd.func7, Tryd.ntmps7
  go_wp2
  go_loopw [7] (fun i wr => ∃ k : Nat, k ≤ 26 ∧ i = .int .i64 k ∧ Hid (Below w.heap.size w wr) ∧ Hid (findS r (proT.drop k) = ofV r)) (fun i _ => 26 - (RowKit.intOf i).toNat)
  case atStart => exact ⟨0, by omega, rfl, Lib.hid (Below.refl _ _), Lib.hid (by rw [List.drop_zero]; exact HE.out)⟩
  case round =>
    obtain ⟨k, hk, rfl, HB, HF⟩ := hrel
    rename_i wr
    by_cases hlt : k < 26
    · obtain ⟨c1, c2, c3⟩ := H3.out k (by rw [pro_len]; exact hlt)
      have b := fun i => HB.out.cell (p := ⟨R, i, none⟩) h1
      have c1 := (b _).trans c1
      have c2 := (b _).trans c2
      have c3 := (b _).trans c3
      have HD := Lib.hid (findS_drop r (show k < proT.length by rw [pro_len]; exact hlt))
      clear b
      generalize hx : (proT[k]'(by rw [pro_len]; exact hlt)) = x at c1 c2 c3 HD
      clear hx
      obtain ⟨x1, x2, x3⟩ := x
      dsimp only at c1 c2 c3 HD
      by_cases g1 : r < x1
      · have E : Hid (ofV r = 1) := Lib.hid (by rw [← HF.out, HD.out, if_pos g1])
        go_wp2
        go_ret
        exact ⟨ret_int E.out.symm, HB.out.alloc HB.out.size _⟩
      by_cases g2 : r ≤ x2
      · have E : Hid (ofV r = x3) := Lib.hid (by rw [← HF.out, HD.out, if_neg g1, if_pos g2])
        go_wp2
        go_ret
        exact ⟨ret_int E.out.symm, HB.out.alloc HB.out.size _⟩
      · have E : Hid (findS r (proT.drop (k + 1)) = ofV r) := Lib.hid (by rw [← HF.out, HD.out, if_neg g1, if_neg g2])
        go_wp2
        go_roundw
        case rel => exact ⟨k + 1, by omega, by go_num, Lib.hid (HB.out.alloc HB.out.size _), E⟩
        case measure => simp [RowKit.intOf]; omega
    · have hk26 : k = 26 := by omega
      have E : Hid (ofV r = 1) := Lib.hid (by rw [← HF.out, hk26, List.drop_eq_nil_of_le (by rw [pro_len]; exact Nat.le_refl _)]; rfl)
      subst hk26
      go_wp2
      go_ret
      exact ⟨ret_int E.out.symm, HB.out⟩

end Go.Proofs.YtablkipcngbkjaaDoor
