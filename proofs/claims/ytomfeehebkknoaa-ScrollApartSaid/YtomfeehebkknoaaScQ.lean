/- Layer 13: ScrollApart where it ends at once; where a cell is 99 wide. -/
import Derived.Test.YtomfeehebkknoaaScE
import Derived.Test.YtomfeehebkknoaaScO
set_option linter.unusedVariables false
namespace Go.Proofs.Ytomfeehebkknoaa.Rw
open Go.RowKit

set_option maxRecDepth 100000 in
set_option maxHeartbeats 8000000 in
theorem apart_no {F : Nat → Prop} {w : World} {v : Value} {ls : Ls} (h : TabAt F w v ls) (Y T B N W : Int) (a : Aa) (hg : greatB ls = true ∨ W > 60) : Calls Try.prog 4 #[v, moveV Y T B N W a] w fun e w' => e = .returned (.bool true) ∧ Below w.heap.size w w' := by
  have HWk : Hid (∀ V, Calls Try.prog 7 #[] V fun e w' => e = .returned (.bool true) ∧ Below V.heap.size V w') := Lib.hid fun V => wakes_any V
  obtain ⟨A, c, rfl, -, hc, -⟩ := id h
  obtain ⟨W0, hW0, hb, hs, hp⟩ := box_move w Y T B N W a
  have HGr := Lib.hid (great_any (h.below hb))
  have HW0 := Lib.hid hW0
  have HB := Lib.hid hb
  have key : greatB ls = true ∨ (greatB ls = false ∧ decide (W > 60) = true) := by
    rcases hg with hg | hg
    · exact Or.inl hg
    · cases hgr : greatB ls
      · exact Or.inr ⟨rfl, by simpa using hg⟩
      · exact Or.inl rfl
  have c4 := cell_of hp 4
  generalize greatB ls = gr at *
  generalize ls.length = m at *
  clear h hW0 hb hp hs hc hg
  rcases key with h1 | ⟨h1, h2⟩
  all_goals
    subst h1
    go_enter Try.func4, Try.ntmps4
    go_upto_region 1 with fail
    change Code.wp _ _ _ _ (w.alloc (moveO Y T B N W a))
    rw [← HW0.out]
    go_wp2_with fail
    refine (show Calls _ _ _ _ _ from HGr.out).mono ?_
    rintro e _ ⟨rfl, rfl⟩
    clear HGr
    go_wp2_with fail
    refine (HWk.out _).mono ?_
    rintro e w1 ⟨rfl, b1⟩
    go_wp2
    go_ret
    exact ⟨rfl, HB.out.trans (b1.mono HB.out.size)⟩
end Go.Proofs.Ytomfeehebkknoaa.Rw
