/- Layer 13: ScrollBack where it ends at once. -/
import Derived.Test.YtomfeehebkknoaaScW
import Derived.Test.YtomfeehebkknoaaScK
set_option linter.unusedVariables false
namespace Go.Proofs.Ytomfeehebkknoaa.Rw
open Go.RowKit

abbrev moveV (Y T B N W : Int) (a : Aa) : Value := .agg #[.int .i64 Y, .int .i64 T, .int .i64 B, .int .i64 N, .int .i64 W, .int .u16 (a.fl : Int), .int .u8 (a.fk : Int), .int .u32 (a.fn : Int), .int .u8 (a.bk : Int), .int .u32 (a.bn : Int)]
abbrev moveO (Y T B N W : Int) (a : Aa) : Obj := .cells #[.int .i64 Y, .int .i64 T, .int .i64 B, .int .i64 N, .int .i64 W, .int .u16 (a.fl : Int), .int .u8 (a.fk : Int), .int .u32 (a.fn : Int), .int .u8 (a.bk : Int), .int .u32 (a.bn : Int)] 30 (0, 0)
theorem box_move (w : World) (Y T B N W : Int) (a : Aa) : ∃ W0, W0 = w.alloc (moveO Y T B N W a) ∧ Below w.heap.size w W0 ∧ W0.heap.size = w.heap.size + 1 ∧ W0.heap[w.heap.size]? = some (moveO Y T B N W a) :=
  ⟨_, rfl, (Below.refl _ _).alloc (Nat.le_refl _) _, by simp, heap_alloc_new w _⟩
theorem back_key {gr : Bool} {T B m N W : Int} (h : gr = true ∨ T < 0 ∨ T > B ∨ B ≥ m ∨ N < 1 ∨ W > 60) :
    gr = true ∨ (gr = false ∧ decide (T < 0) = true) ∨ (gr = false ∧ decide (T < 0) = false ∧ decide (T > B) = true) ∨ (gr = false ∧ decide (T < 0) = false ∧ decide (T > B) = false ∧ decide (B ≥ m) = true) ∨ (gr = false ∧ decide (T < 0) = false ∧ decide (T > B) = false ∧ decide (B ≥ m) = false ∧ decide (N < 1) = true) ∨ (gr = false ∧ decide (T < 0) = false ∧ decide (T > B) = false ∧ decide (B ≥ m) = false ∧ decide (N < 1) = false ∧ decide (W > 60) = true) := by
  cases gr
  · simp only [decide_eq_true_eq, decide_eq_false_iff_not, true_and]
    have : (false = true) = False := by simp
    rw [this] at h ⊢
    simp only [false_or] at h ⊢
    omega
  · exact Or.inl rfl

set_option maxRecDepth 100000 in
set_option maxHeartbeats 8000000 in
theorem back_no {F : Nat → Prop} {w : World} {v : Value} {ls : Ls} (h : TabAt F w v ls) (Y T B N W : Int) (a : Aa) (hg : greatB ls = true ∨ T < 0 ∨ T > B ∨ B ≥ (ls.length : Int) ∨ N < 1 ∨ W > 60) : Calls Try.prog 3 #[v, moveV Y T B N W a] w fun e w' => e = .returned (.bool true) ∧ Below w.heap.size w w' := by
  have HWk : Hid (∀ V, Calls Try.prog 7 #[] V fun e w' => e = .returned (.bool true) ∧ Below V.heap.size V w') := Lib.hid fun V => wakes_any V
  obtain ⟨A, c, rfl, -, hc, -⟩ := id h
  obtain ⟨W0, hW0, hb, hs, hp⟩ := box_move w Y T B N W a
  have HGr := Lib.hid (great_any (h.below hb))
  have HW0 := Lib.hid hW0
  have HB := Lib.hid hb
  have key := back_key hg
  have c1 := cell_of hp 1
  have c2 := cell_of hp 2
  have c3 := cell_of hp 3
  have c4 := cell_of hp 4
  generalize greatB ls = gr at *
  generalize ls.length = m at *
  clear h hW0 hb hp hs hc hg
  rcases key with h1 | ⟨h1, h2⟩ | ⟨h1, h2, h3⟩ | ⟨h1, h2, h3, h4⟩ | ⟨h1, h2, h3, h4, h5⟩ | ⟨h1, h2, h3, h4, h5, h6⟩
  all_goals
    subst h1
    go_enter Try.func3, Try.ntmps3
    go_upto_region 1 with fail
    change Code.wp _ _ _ _ (w.alloc (moveO Y T B N W a))
    rw [← HW0.out]
    go_wp2_with fail
    refine (show Calls _ _ _ _ _ from HGr.out).mono ?_
    rintro e _ ⟨rfl, rfl⟩
    clear HGr
    go_wp2_with fail
    refine (HWk.out _).mono ?_
    rintro e w1 ⟨rfl, b1⟩
    go_wp2
    go_ret
    exact ⟨rfl, HB.out.trans (b1.mono HB.out.size)⟩
end Go.Proofs.Ytomfeehebkknoaa.Rw
