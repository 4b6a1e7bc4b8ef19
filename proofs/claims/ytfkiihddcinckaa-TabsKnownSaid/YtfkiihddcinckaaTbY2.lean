/- Layer 12: TabsKnown. -/
import Derived.Test.YtfkiihddcinckaaTbT
set_option linter.unusedVariables false
namespace Go.Proofs.Ytfkiihddcinckaa.Tb
open Go.RowKit

def badL : List Value := [.int .i64 0, .int .i64 0, .int .i64 0, .int .i64 0, .int .i64 401, .int .i64 1, .int .i64 0, .int .i64 0, .int .i64 1, .int .i64 401, .int .i64 0, .int .i64 0, .int .i64 1, .int .i64 1, .int .i64 0, .int .i64 1, .int .i64 1, .int .i64 2, .int .i64 1, .int .i64 0, .int .i64 1, .int .i64 2, .int .i64 (-1), .int .i64 0]
def badO : Obj := .cells badL.toArray 43 (0, 0)
theorem idx_bad (b n c k : Nat) (hk : k < n) (W : World) : (Instr.indexAt 55 (.slice (some ⟨b, 0, none⟩) n c) (.int .i64 (k : Int))).run Try.prog W = .ok (.pointer (some ⟨b, k * 4, none⟩)) W := by
  have hs : ∀ W : World, (sizeOf (Try.prog.elem 55)).run Try.prog W = .ok 4 W := fun W => by kernel_rfl
  rw [run_indexAt_slice (P := Try.prog) W 55 ⟨b, 0, none⟩ n c .i64 k (by kernel_rfl), if_pos (by omega), hs]
  simp only [Result.andThen, Int.toNat_natCast, add_z]
/-- None of them may be. -/
theorem bad_at {V : World} {g k : Nat} (h : V.heap[g]? = some badO) (hk : k < 6) : ∃ W H T B, mayB W H T B = false ∧ V.cell? ⟨g, k * 4, none⟩ = some (.int .i64 W) ∧ V.cell? ⟨g, k * 4 + 1, none⟩ = some (.int .i64 H) ∧ V.cell? ⟨g, k * 4 + 2, none⟩ = some (.int .i64 T) ∧ V.cell? ⟨g, k * 4 + 3, none⟩ = some (.int .i64 B) := by
  have c := fun i => cell_of (show V.heap[g]? = some (.cells badL.toArray 43 (0, 0)) from h) i
  have : k = 0 ∨ k = 1 ∨ k = 2 ∨ k = 3 ∨ k = 4 ∨ k = 5 := by omega
  rcases this with rfl | rfl | rfl | rfl | rfl | rfl
  · exact ⟨0, 0, 0, 0, by decide, (c _).trans rfl, (c _).trans rfl, (c _).trans rfl, (c _).trans rfl⟩
  · exact ⟨401, 1, 0, 0, by decide, (c _).trans rfl, (c _).trans rfl, (c _).trans rfl, (c _).trans rfl⟩
  · exact ⟨1, 401, 0, 0, by decide, (c _).trans rfl, (c _).trans rfl, (c _).trans rfl, (c _).trans rfl⟩
  · exact ⟨1, 1, 0, 1, by decide, (c _).trans rfl, (c _).trans rfl, (c _).trans rfl, (c _).trans rfl⟩
  · exact ⟨1, 2, 1, 0, by decide, (c _).trans rfl, (c _).trans rfl, (c _).trans rfl, (c _).trans rfl⟩
  · exact ⟨1, 2, -1, 0, by decide, (c _).trans rfl, (c _).trans rfl, (c _).trans rfl, (c _).trans rfl⟩

set_option maxRecDepth 100000 in
set_option maxHeartbeats 8000000 in
theorem known_law (w : World) : Calls Try.prog 8 #[] w fun e w' => e = .returned (.bool true) ∧ Below w.heap.size w w' := by
  have HN := Lib.hid (mine_new 20 w w (Below.refl _ _))
  go_enter Try.func8, Try.ntmps8
  go_wp2_with fail
  refine (show Calls _ _ _ _ _ from HN.out).mono ?_
  rintro e y0 ⟨s, rfl, hm⟩
  have M := Lib.hid hm
  clear hm HN
  have K : Hid (Calls Try.prog 21 #[s, .int .i64 0, .int .i64 1] y0 fun e w' => e = .returned (.int .i64 8) ∧ Below (y0).heap.size y0 w') := Lib.hid ((mine_next M.out 0 1 (in_small (by decide) (by decide)) (in_small (by decide) (by decide))).mono fun e w' h => ⟨by rw [h.1, show nextV ((newB 20)) 0 1 = 8 from by decide +kernel]; rfl, h.2.2⟩)
  go_wp2_with fail
  refine (show Calls _ _ _ _ _ from K.out).mono ?_
  rintro e y1 ⟨rfl, hb⟩
  have M2 := Lib.hid (M.out.old hb)
  clear M hb
  have M := M2
  clear M2
  clear K
  have K : Hid (Calls Try.prog 21 #[s, .int .i64 8, .int .i64 1] y1 fun e w' => e = .returned (.int .i64 16) ∧ Below (y1).heap.size y1 w') := Lib.hid ((mine_next M.out 8 1 (in_small (by decide) (by decide)) (in_small (by decide) (by decide))).mono fun e w' h => ⟨by rw [h.1, show nextV ((newB 20)) 8 1 = 16 from by decide +kernel]; rfl, h.2.2⟩)
  go_wp2_with fail
  refine (show Calls _ _ _ _ _ from K.out).mono ?_
  rintro e y2 ⟨rfl, hb⟩
  have M2 := Lib.hid (M.out.old hb)
  clear M hb
  have M := M2
  clear M2
  clear K
  have K : Hid (Calls Try.prog 21 #[s, .int .i64 16, .int .i64 1] y2 fun e w' => e = .returned (.int .i64 19) ∧ Below (y2).heap.size y2 w') := Lib.hid ((mine_next M.out 16 1 (in_small (by decide) (by decide)) (in_small (by decide) (by decide))).mono fun e w' h => ⟨by rw [h.1, show nextV ((newB 20)) 16 1 = 19 from by decide +kernel]; rfl, h.2.2⟩)
  go_wp2_with fail
  refine (show Calls _ _ _ _ _ from K.out).mono ?_
  rintro e y3 ⟨rfl, hb⟩
  have M2 := Lib.hid (M.out.old hb)
  clear M hb
  have M := M2
  clear M2
  clear K
  have K : Hid (Calls Try.prog 23 #[s, .int .i64 9, .int .i64 1] y3 fun e w' => e = .returned (.int .i64 8) ∧ Below (y3).heap.size y3 w') := Lib.hid ((mine_prev M.out 9 1 (in_small (by decide) (by decide)) (in_small (by decide) (by decide))).mono fun e w' h => ⟨by rw [h.1, show prevV ((newB 20)) 9 1 = 8 from by decide +kernel]; rfl, h.2.2⟩)
  go_wp2_with fail
  refine (show Calls _ _ _ _ _ from K.out).mono ?_
  rintro e y4 ⟨rfl, hb⟩
  have M2 := Lib.hid (M.out.old hb)
  clear M hb
  have M := M2
  clear M2
  clear K
  have K : Hid (Calls Try.prog 23 #[s, .int .i64 8, .int .i64 1] y4 fun e w' => e = .returned (.int .i64 0) ∧ Below (y4).heap.size y4 w') := Lib.hid ((mine_prev M.out 8 1 (in_small (by decide) (by decide)) (in_small (by decide) (by decide))).mono fun e w' h => ⟨by rw [h.1, show prevV ((newB 20)) 8 1 = 0 from by decide +kernel]; rfl, h.2.2⟩)
  go_wp2_with fail
  refine (show Calls _ _ _ _ _ from K.out).mono ?_
  rintro e y5 ⟨rfl, hb⟩
  have M2 := Lib.hid (M.out.old hb)
  clear M hb
  have M := M2
  clear M2
  clear K
  have K : Hid (Calls Try.prog 21 #[s, .int .i64 3, .int .i64 2] y5 fun e w' => e = .returned (.int .i64 16) ∧ Below (y5).heap.size y5 w') := Lib.hid ((mine_next M.out 3 2 (in_small (by decide) (by decide)) (in_small (by decide) (by decide))).mono fun e w' h => ⟨by rw [h.1, show nextV ((newB 20)) 3 2 = 16 from by decide +kernel]; rfl, h.2.2⟩)
  go_wp2_with fail
  refine (show Calls _ _ _ _ _ from K.out).mono ?_
  rintro e y6 ⟨rfl, hb⟩
  have M2 := Lib.hid (M.out.old hb)
  clear M hb
  have M := M2
  clear M2
  clear K
  have K : Hid (Calls Try.prog 21 #[s, .int .i64 0, .int .i64 0] y6 fun e w' => e = .returned (.int .i64 8) ∧ Below (y6).heap.size y6 w') := Lib.hid ((mine_next M.out 0 0 (in_small (by decide) (by decide)) (in_small (by decide) (by decide))).mono fun e w' h => ⟨by rw [h.1, show nextV ((newB 20)) 0 0 = 8 from by decide +kernel]; rfl, h.2.2⟩)
  go_wp2_with fail
  refine (show Calls _ _ _ _ _ from K.out).mono ?_
  rintro e y7 ⟨rfl, hb⟩
  have M2 := Lib.hid (M.out.old hb)
  clear M hb
  have M := M2
  clear M2
  clear K
  have K : Hid (Calls Try.prog 21 #[s, .int .i64 (-5), .int .i64 1] y7 fun e w' => e = .returned (.int .i64 8) ∧ Below (y7).heap.size y7 w') := Lib.hid ((mine_next M.out (-5) 1 (in_small (by decide) (by decide)) (in_small (by decide) (by decide))).mono fun e w' h => ⟨by rw [h.1, show nextV ((newB 20)) (-5) 1 = 8 from by decide +kernel]; rfl, h.2.2⟩)
  go_wp2_with fail
  refine (show Calls _ _ _ _ _ from K.out).mono ?_
  rintro e y8 ⟨rfl, hb⟩
  have M2 := Lib.hid (M.out.old hb)
  clear M hb
  have M := M2
  clear M2
  clear K
  have K : Hid (Calls Try.prog 23 #[s, .int .i64 99, .int .i64 2] y8 fun e w' => e = .returned (.int .i64 8) ∧ Below (y8).heap.size y8 w') := Lib.hid ((mine_prev M.out 99 2 (in_small (by decide) (by decide)) (in_small (by decide) (by decide))).mono fun e w' h => ⟨by rw [h.1, show prevV ((newB 20)) 99 2 = 8 from by decide +kernel]; rfl, h.2.2⟩)
  go_wp2_with fail
  refine (show Calls _ _ _ _ _ from K.out).mono ?_
  rintro e y9 ⟨rfl, hb⟩
  have M2 := Lib.hid (M.out.old hb)
  clear M hb
  have M := M2
  clear M2
  clear K
  have K : Hid (Calls Try.prog 12 #[s, .int .i64 3] y9 fun e w' => e = .returned (.bool true) ∧ MineT w s (setB (newB 20) 3) w') := Lib.hid ((mine_set M.out 3).mono fun e w' h => ⟨by rw [h.1, show setOk ((newB 20)) 3 = true from by decide +kernel], h.2⟩)
  go_wp2_with fail
  refine (show Calls _ _ _ _ _ from K.out).mono ?_
  rintro e y10 ⟨rfl, hm⟩
  have M2 := Lib.hid hm
  clear M hm
  have M := M2
  clear M2
  clear K
  have K : Hid (Calls Try.prog 12 #[s, .int .i64 3] y10 fun e w' => e = .returned (.bool false) ∧ MineT w s (setB (newB 20) 3) w') := Lib.hid ((mine_set M.out 3).mono fun e w' h => ⟨by rw [h.1, show setOk ((setB (newB 20) 3)) 3 = false from by decide +kernel], by have q := h.2; rwa [show setB ((setB (newB 20) 3)) 3 = (setB (newB 20) 3) from by decide +kernel] at q⟩)
  go_wp2_with fail
  refine (show Calls _ _ _ _ _ from K.out).mono ?_
  rintro e y11 ⟨rfl, hm⟩
  have M2 := Lib.hid hm
  clear M hm
  have M := M2
  clear M2
  clear K
  have K : Hid (Calls Try.prog 12 #[s, .int .i64 20] y11 fun e w' => e = .returned (.bool false) ∧ MineT w s (setB (newB 20) 3) w') := Lib.hid ((mine_set M.out 20).mono fun e w' h => ⟨by rw [h.1, show setOk ((setB (newB 20) 3)) 20 = false from by decide +kernel], by have q := h.2; rwa [show setB ((setB (newB 20) 3)) 20 = (setB (newB 20) 3) from by decide +kernel] at q⟩)
  go_wp2_with fail
  refine (show Calls _ _ _ _ _ from K.out).mono ?_
  rintro e y12 ⟨rfl, hm⟩
  have M2 := Lib.hid hm
  clear M hm
  have M := M2
  clear M2
  clear K
  have K : Hid (Calls Try.prog 12 #[s, .int .i64 (-1)] y12 fun e w' => e = .returned (.bool false) ∧ MineT w s (setB (newB 20) 3) w') := Lib.hid ((mine_set M.out (-1)).mono fun e w' h => ⟨by rw [h.1, show setOk ((setB (newB 20) 3)) (-1) = false from by decide +kernel], by have q := h.2; rwa [show setB ((setB (newB 20) 3)) (-1) = (setB (newB 20) 3) from by decide +kernel] at q⟩)
  go_wp2_with fail
  refine (show Calls _ _ _ _ _ from K.out).mono ?_
  rintro e y13 ⟨rfl, hm⟩
  have M2 := Lib.hid hm
  clear M hm
  have M := M2
  clear M2
  clear K
  have K : Hid (Calls Try.prog 14 #[s, .int .i64 8] y13 fun e w' => e = .returned (.bool true) ∧ MineT w s (clrB (setB (newB 20) 3) 8) w') := Lib.hid ((mine_clr M.out 8).mono fun e w' h => ⟨by rw [h.1, show clrOk ((setB (newB 20) 3)) 8 = true from by decide +kernel], h.2⟩)
  go_wp2_with fail
  refine (show Calls _ _ _ _ _ from K.out).mono ?_
  rintro e y14 ⟨rfl, hm⟩
  have M2 := Lib.hid hm
  clear M hm
  have M := M2
  clear M2
  clear K
  have K : Hid (Calls Try.prog 14 #[s, .int .i64 8] y14 fun e w' => e = .returned (.bool false) ∧ MineT w s (clrB (setB (newB 20) 3) 8) w') := Lib.hid ((mine_clr M.out 8).mono fun e w' h => ⟨by rw [h.1, show clrOk ((clrB (setB (newB 20) 3) 8)) 8 = false from by decide +kernel], by have q := h.2; rwa [show clrB ((clrB (setB (newB 20) 3) 8)) 8 = (clrB (setB (newB 20) 3) 8) from by decide +kernel] at q⟩)
  go_wp2_with fail
  refine (show Calls _ _ _ _ _ from K.out).mono ?_
  rintro e y15 ⟨rfl, hm⟩
  have M2 := Lib.hid hm
  clear M hm
  have M := M2
  clear M2
  clear K
  have K : Hid (Calls Try.prog 20 #[s, .int .i64 9] y15 fun e w' => ∃ A c, e = .returned (.slice A 2 c) ∧ LiesI w' (.slice A 2 c) [3, 16] ∧ Below (y15).heap.size y15 w') := Lib.hid ((mine_all M.out 9 (by decide) (by decide)).mono fun e w' h => by obtain ⟨v, he, ho, _, hb⟩ := h; rw [show (stL (clrB (setB (newB 20) 3) 8)).take 9 = [3, 16] from by decide +kernel] at ho; obtain ⟨A, c, rfl, hr⟩ := ownI_lies ho; exact ⟨A, c, he, ⟨A, c, rfl, hr⟩, hb⟩)
  go_wp2_with fail
  refine (show Calls _ _ _ _ _ from K.out).mono ?_
  rintro e y16 ⟨ua, uc, rfl, hl, hb⟩
  have HL := Lib.hid hl
  clear hl
  have M2 := Lib.hid (M.out.old hb)
  clear M hb
  have M := M2
  clear M2
  clear K
  have HA : Hid (Below y16.heap.size y16 (y16.alloc (.cells #[.int .i64 3, .int .i64 16] 3))) := Lib.hid ((Below.refl _ _).alloc (Nat.le_refl _) _)
  have K : Hid (Calls Try.prog 19 #[.slice ua 2 uc, .slice (some ⟨y16.heap.size, 0, none⟩) 2 2] (y16.alloc (.cells #[.int .i64 3, .int .i64 16] 3)) fun e w' => e = .returned (.bool true) ∧ Below y16.heap.size y16 w') := Lib.hid (by have := same_any (.slice ua 2 uc) (.slice (some ⟨y16.heap.size, 0, none⟩) 2 2) _ _ (y16.alloc (.cells #[.int .i64 3, .int .i64 16] 3)) (HL.out.below HA.out) (lit_ints y16 [3, 16] (by decide)) (by decide); rw [show decide (([3, 16] : List Nat) = [3, 16]) = true from by decide +kernel] at this; exact this.mono fun e w' ⟨he, hb⟩ => ⟨he, HA.out.trans (hb.mono HA.out.size)⟩)
  clear HA HL
  go_wp2_with fail
  refine (show Calls _ _ _ _ _ from K.out).mono ?_
  rintro e y17 ⟨rfl, hb⟩
  have M2 := Lib.hid (M.out.old hb)
  clear M hb
  have M := M2
  clear M2
  clear K
  have K : Hid (Calls Try.prog 20 #[s, .int .i64 1] y17 fun e w' => ∃ A c, e = .returned (.slice A 1 c) ∧ LiesI w' (.slice A 1 c) [3] ∧ Below (y17).heap.size y17 w') := Lib.hid ((mine_all M.out 1 (by decide) (by decide)).mono fun e w' h => by obtain ⟨v, he, ho, _, hb⟩ := h; rw [show (stL (clrB (setB (newB 20) 3) 8)).take 1 = [3] from by decide +kernel] at ho; obtain ⟨A, c, rfl, hr⟩ := ownI_lies ho; exact ⟨A, c, he, ⟨A, c, rfl, hr⟩, hb⟩)
  go_wp2_with fail
  refine (show Calls _ _ _ _ _ from K.out).mono ?_
  rintro e y18 ⟨ua, uc, rfl, hl, hb⟩
  have HL := Lib.hid hl
  clear hl
  have M2 := Lib.hid (M.out.old hb)
  clear M hb
  have M := M2
  clear M2
  clear K
  have HA : Hid (Below y18.heap.size y18 (y18.alloc (.cells #[.int .i64 3] 3))) := Lib.hid ((Below.refl _ _).alloc (Nat.le_refl _) _)
  have K : Hid (Calls Try.prog 19 #[.slice ua 1 uc, .slice (some ⟨y18.heap.size, 0, none⟩) 1 1] (y18.alloc (.cells #[.int .i64 3] 3)) fun e w' => e = .returned (.bool true) ∧ Below y18.heap.size y18 w') := Lib.hid (by have := same_any (.slice ua 1 uc) (.slice (some ⟨y18.heap.size, 0, none⟩) 1 1) _ _ (y18.alloc (.cells #[.int .i64 3] 3)) (HL.out.below HA.out) (lit_ints y18 [3] (by decide)) (by decide); rw [show decide (([3] : List Nat) = [3]) = true from by decide +kernel] at this; exact this.mono fun e w' ⟨he, hb⟩ => ⟨he, HA.out.trans (hb.mono HA.out.size)⟩)
  clear HA HL
  go_wp2_with fail
  refine (show Calls _ _ _ _ _ from K.out).mono ?_
  rintro e y19 ⟨rfl, hb⟩
  have M2 := Lib.hid (M.out.old hb)
  clear M hb
  have M := M2
  clear M2
  clear K
  have K : Hid (Calls Try.prog 12 #[s, .int .i64 0] y19 fun e w' => e = .returned (.bool true) ∧ MineT w s (setB (clrB (setB (newB 20) 3) 8) 0) w') := Lib.hid ((mine_set M.out 0).mono fun e w' h => ⟨by rw [h.1, show setOk ((clrB (setB (newB 20) 3) 8)) 0 = true from by decide +kernel], h.2⟩)
  go_wp2_with fail
  refine (show Calls _ _ _ _ _ from K.out).mono ?_
  rintro e y20 ⟨rfl, hm⟩
  have M2 := Lib.hid hm
  clear M hm
  have M := M2
  clear M2
  clear K
  have K : Hid (Calls Try.prog 23 #[s, .int .i64 2, .int .i64 1] y20 fun e w' => e = .returned (.int .i64 0) ∧ Below (y20).heap.size y20 w') := Lib.hid ((mine_prev M.out 2 1 (in_small (by decide) (by decide)) (in_small (by decide) (by decide))).mono fun e w' h => ⟨by rw [h.1, show prevV ((setB (clrB (setB (newB 20) 3) 8) 0)) 2 1 = 0 from by decide +kernel]; rfl, h.2.2⟩)
  go_wp2_with fail
  refine (show Calls _ _ _ _ _ from K.out).mono ?_
  rintro e y21 ⟨rfl, hb⟩
  have M2 := Lib.hid (M.out.old hb)
  clear M hb
  have M := M2
  clear M2
  clear K
  have K : Hid (Calls Try.prog 17 #[s, .int .i64 4] y21 fun e w' => e = .returned (.tuple #[]) ∧ MineT w s (sizeB (setB (clrB (setB (newB 20) 3) 8) 0) 4) w') := Lib.hid ((mine_size M.out 4).mono fun e w' h => ⟨h.1, h.2⟩)
  go_wp2_with fail
  refine (show Calls _ _ _ _ _ from K.out).mono ?_
  rintro e y22 ⟨rfl, hm⟩
  have M2 := Lib.hid hm
  clear M hm
  have M := M2
  clear M2
  clear K
  have K : Hid (Calls Try.prog 20 #[s, .int .i64 9] y22 fun e w' => ∃ A c, e = .returned (.slice A 2 c) ∧ LiesI w' (.slice A 2 c) [0, 3] ∧ Below (y22).heap.size y22 w') := Lib.hid ((mine_all M.out 9 (by decide) (by decide)).mono fun e w' h => by obtain ⟨v, he, ho, _, hb⟩ := h; rw [show (stL (sizeB (setB (clrB (setB (newB 20) 3) 8) 0) 4)).take 9 = [0, 3] from by decide +kernel] at ho; obtain ⟨A, c, rfl, hr⟩ := ownI_lies ho; exact ⟨A, c, he, ⟨A, c, rfl, hr⟩, hb⟩)
  go_wp2_with fail
  refine (show Calls _ _ _ _ _ from K.out).mono ?_
  rintro e y23 ⟨ua, uc, rfl, hl, hb⟩
  have HL := Lib.hid hl
  clear hl
  have M2 := Lib.hid (M.out.old hb)
  clear M hb
  have M := M2
  clear M2
  clear K
  have HA : Hid (Below y23.heap.size y23 (y23.alloc (.cells #[.int .i64 0, .int .i64 3] 3))) := Lib.hid ((Below.refl _ _).alloc (Nat.le_refl _) _)
  have K : Hid (Calls Try.prog 19 #[.slice ua 2 uc, .slice (some ⟨y23.heap.size, 0, none⟩) 2 2] (y23.alloc (.cells #[.int .i64 0, .int .i64 3] 3)) fun e w' => e = .returned (.bool true) ∧ Below y23.heap.size y23 w') := Lib.hid (by have := same_any (.slice ua 2 uc) (.slice (some ⟨y23.heap.size, 0, none⟩) 2 2) _ _ (y23.alloc (.cells #[.int .i64 0, .int .i64 3] 3)) (HL.out.below HA.out) (lit_ints y23 [0, 3] (by decide)) (by decide); rw [show decide (([0, 3] : List Nat) = [0, 3]) = true from by decide +kernel] at this; exact this.mono fun e w' ⟨he, hb⟩ => ⟨he, HA.out.trans (hb.mono HA.out.size)⟩)
  clear HA HL
  go_wp2_with fail
  refine (show Calls _ _ _ _ _ from K.out).mono ?_
  rintro e y24 ⟨rfl, hb⟩
  have M2 := Lib.hid (M.out.old hb)
  clear M hb
  have M := M2
  clear M2
  clear K
  have K : Hid (Calls Try.prog 21 #[s, .int .i64 3, .int .i64 1] y24 fun e w' => e = .returned (.int .i64 3) ∧ Below (y24).heap.size y24 w') := Lib.hid ((mine_next M.out 3 1 (in_small (by decide) (by decide)) (in_small (by decide) (by decide))).mono fun e w' h => ⟨by rw [h.1, show nextV ((sizeB (setB (clrB (setB (newB 20) 3) 8) 0) 4)) 3 1 = 3 from by decide +kernel]; rfl, h.2.2⟩)
  go_wp2_with fail
  refine (show Calls _ _ _ _ _ from K.out).mono ?_
  rintro e y25 ⟨rfl, hb⟩
  have M2 := Lib.hid (M.out.old hb)
  clear M hb
  have M := M2
  clear M2
  clear K
  have K : Hid (Calls Try.prog 17 #[s, .int .i64 17] y25 fun e w' => e = .returned (.tuple #[]) ∧ MineT w s (sizeB (sizeB (setB (clrB (setB (newB 20) 3) 8) 0) 4) 17) w') := Lib.hid ((mine_size M.out 17).mono fun e w' h => ⟨h.1, h.2⟩)
  go_wp2_with fail
  refine (show Calls _ _ _ _ _ from K.out).mono ?_
  rintro e y26 ⟨rfl, hm⟩
  have M2 := Lib.hid hm
  clear M hm
  have M := M2
  clear M2
  clear K
  have K : Hid (Calls Try.prog 20 #[s, .int .i64 9] y26 fun e w' => ∃ A c, e = .returned (.slice A 4 c) ∧ LiesI w' (.slice A 4 c) [0, 3, 8, 16] ∧ Below (y26).heap.size y26 w') := Lib.hid ((mine_all M.out 9 (by decide) (by decide)).mono fun e w' h => by obtain ⟨v, he, ho, _, hb⟩ := h; rw [show (stL (sizeB (sizeB (setB (clrB (setB (newB 20) 3) 8) 0) 4) 17)).take 9 = [0, 3, 8, 16] from by decide +kernel] at ho; obtain ⟨A, c, rfl, hr⟩ := ownI_lies ho; exact ⟨A, c, he, ⟨A, c, rfl, hr⟩, hb⟩)
  go_wp2_with fail
  refine (show Calls _ _ _ _ _ from K.out).mono ?_
  rintro e y27 ⟨ua, uc, rfl, hl, hb⟩
  have HL := Lib.hid hl
  clear hl
  have M2 := Lib.hid (M.out.old hb)
  clear M hb
  have M := M2
  clear M2
  clear K
  have HA : Hid (Below y27.heap.size y27 (y27.alloc (.cells #[.int .i64 0, .int .i64 3, .int .i64 8, .int .i64 16] 3))) := Lib.hid ((Below.refl _ _).alloc (Nat.le_refl _) _)
  have K : Hid (Calls Try.prog 19 #[.slice ua 4 uc, .slice (some ⟨y27.heap.size, 0, none⟩) 4 4] (y27.alloc (.cells #[.int .i64 0, .int .i64 3, .int .i64 8, .int .i64 16] 3)) fun e w' => e = .returned (.bool true) ∧ Below y27.heap.size y27 w') := Lib.hid (by have := same_any (.slice ua 4 uc) (.slice (some ⟨y27.heap.size, 0, none⟩) 4 4) _ _ (y27.alloc (.cells #[.int .i64 0, .int .i64 3, .int .i64 8, .int .i64 16] 3)) (HL.out.below HA.out) (lit_ints y27 [0, 3, 8, 16] (by decide)) (by decide); rw [show decide (([0, 3, 8, 16] : List Nat) = [0, 3, 8, 16]) = true from by decide +kernel] at this; exact this.mono fun e w' ⟨he, hb⟩ => ⟨he, HA.out.trans (hb.mono HA.out.size)⟩)
  clear HA HL
  go_wp2_with fail
  refine (show Calls _ _ _ _ _ from K.out).mono ?_
  rintro e y28 ⟨rfl, hb⟩
  have M2 := Lib.hid (M.out.old hb)
  clear M hb
  have M := M2
  clear M2
  clear K
  have K : Hid (Calls Try.prog 16 #[s] y28 fun e w' => e = .returned (.tuple #[]) ∧ MineT w s (wipeB (sizeB (sizeB (setB (clrB (setB (newB 20) 3) 8) 0) 4) 17)) w') := Lib.hid ((mine_wipe M.out).mono fun e w' h => ⟨h.1, h.2⟩)
  go_wp2_with fail
  refine (show Calls _ _ _ _ _ from K.out).mono ?_
  rintro e y29 ⟨rfl, hm⟩
  have M2 := Lib.hid hm
  clear M hm
  have M := M2
  clear M2
  clear K
  have K : Hid (Calls Try.prog 36 #[] y29 fun e w' => e = .returned (areaV 10 8 2 5) ∧ Below (y29).heap.size y29 w') := Lib.hid (area_any y29)
  go_wp2_with fail
  refine (show Calls _ _ _ _ _ from K.out).mono ?_
  rintro e y30 ⟨rfl, hb⟩
  have M2 := Lib.hid (M.out.old hb)
  clear M hb
  have M := M2
  clear M2
  clear K
  obtain ⟨z0, hz0, hzb, hzl, hzq⟩ := ar_new 10 8 2 5 y30
  have AB := Lib.hid hzq
  have HZ := Lib.hid hz0
  have M2 := Lib.hid (M.out.old hzb)
  obtain ⟨ar, har⟩ : ∃ ar, y30.heap.size = ar := ⟨_, rfl⟩
  have HAr0 := Lib.hid har
  rw [har] at AB
  have AC := AB.out z0 (Below.refl _ _)
  have c0 := cell_of AC 0
  have c1 := cell_of AC 1
  have c2 := cell_of AC 2
  have c3 := cell_of AC 3
  clear hz0 hzb hzl hzq har M AC
  have M := M2
  clear M2
  go_upto_region 10 with fail
  change Code.wp _ _ _ _ (y30.alloc (arO 10 8 2 5))
  rw [HZ.out, HAr0.out]
  clear HZ HAr0
  have K : Hid (Calls Try.prog 26 #[areaV 10 8 2 5, .bool true, .int .i64 3, .int .i64 9] z0 fun e w' => e = .returned (.tuple #[.int .i64 3, .int .i64 5]) ∧ Below (z0).heap.size z0 w') := Lib.hid (by have := to_any 10 8 2 5 (in_small (by decide) (by decide)) (in_small (by decide) (by decide)) (in_small (by decide) (by decide)) (in_small (by decide) (by decide)) z0 true 3 9 (in_small (by decide) (by decide)) (in_small (by decide) (by decide)); rwa [show (if mayB 10 8 2 5 then toxV 10 3 else 0 : Int) = 3 from by decide +kernel, show (if mayB 10 8 2 5 then toyV 8 2 5 true 9 else 0 : Int) = 5 from by decide +kernel] at this)
  go_wp2_with fail
  refine (show Calls _ _ _ _ _ from K.out).mono ?_
  rintro e y31 ⟨rfl, hb⟩
  clear c0 c1 c2 c3
  have M2 := Lib.hid (M.out.old hb)
  have AB2 : Hid (∀ V, Below y31.heap.size y31 V → V.heap[ar]? = some (arO 10 8 2 5)) := Lib.hid fun V hV => AB.out V (hb.trans (hV.mono hb.size))
  clear AB
  have AB := AB2
  clear AB2
  clear M hb
  have M := M2
  clear M2
  clear K
  have HAr := AB.out y31 (Below.refl _ _)
  have c0 := cell_of HAr 0
  have c1 := cell_of HAr 1
  have c2 := cell_of HAr 2
  have c3 := cell_of HAr 3
  clear HAr
  have K : Hid (Calls Try.prog 26 #[areaV 10 8 2 5, .bool false, .int .i64 30, .int .i64 (-1)] y31 fun e w' => e = .returned (.tuple #[.int .i64 9, .int .i64 0]) ∧ Below (y31).heap.size y31 w') := Lib.hid (by have := to_any 10 8 2 5 (in_small (by decide) (by decide)) (in_small (by decide) (by decide)) (in_small (by decide) (by decide)) (in_small (by decide) (by decide)) y31 false 30 (-1) (in_small (by decide) (by decide)) (in_small (by decide) (by decide)); rwa [show (if mayB 10 8 2 5 then toxV 10 30 else 0 : Int) = 9 from by decide +kernel, show (if mayB 10 8 2 5 then toyV 8 2 5 false (-1) else 0 : Int) = 0 from by decide +kernel] at this)
  go_wp2_with fail
  refine (show Calls _ _ _ _ _ from K.out).mono ?_
  rintro e y32 ⟨rfl, hb⟩
  clear c0 c1 c2 c3
  have M2 := Lib.hid (M.out.old hb)
  have AB2 : Hid (∀ V, Below y32.heap.size y32 V → V.heap[ar]? = some (arO 10 8 2 5)) := Lib.hid fun V hV => AB.out V (hb.trans (hV.mono hb.size))
  clear AB
  have AB := AB2
  clear AB2
  clear M hb
  have M := M2
  clear M2
  clear K
  have HAr := AB.out y32 (Below.refl _ _)
  have c0 := cell_of HAr 0
  have c1 := cell_of HAr 1
  have c2 := cell_of HAr 2
  have c3 := cell_of HAr 3
  clear HAr
  have K : Hid (Calls Try.prog 26 #[areaV 10 8 2 5, .bool true, .int .i64 (-1), .int .i64 (-1)] y32 fun e w' => e = .returned (.tuple #[.int .i64 0, .int .i64 2]) ∧ Below (y32).heap.size y32 w') := Lib.hid (by have := to_any 10 8 2 5 (in_small (by decide) (by decide)) (in_small (by decide) (by decide)) (in_small (by decide) (by decide)) (in_small (by decide) (by decide)) y32 true (-1) (-1) (in_small (by decide) (by decide)) (in_small (by decide) (by decide)); rwa [show (if mayB 10 8 2 5 then toxV 10 (-1) else 0 : Int) = 0 from by decide +kernel, show (if mayB 10 8 2 5 then toyV 8 2 5 true (-1) else 0 : Int) = 2 from by decide +kernel] at this)
  go_wp2_with fail
  refine (show Calls _ _ _ _ _ from K.out).mono ?_
  rintro e y33 ⟨rfl, hb⟩
  clear c0 c1 c2 c3
  have M2 := Lib.hid (M.out.old hb)
  have AB2 : Hid (∀ V, Below y33.heap.size y33 V → V.heap[ar]? = some (arO 10 8 2 5)) := Lib.hid fun V hV => AB.out V (hb.trans (hV.mono hb.size))
  clear AB
  have AB := AB2
  clear AB2
  clear M hb
  have M := M2
  clear M2
  clear K
  have HAr := AB.out y33 (Below.refl _ _)
  have c0 := cell_of HAr 0
  have c1 := cell_of HAr 1
  have c2 := cell_of HAr 2
  have c3 := cell_of HAr 3
  clear HAr
  have K : Hid (Calls Try.prog 27 #[areaV 10 8 2 5, .int .i64 4, .int .i64 9] y33 fun e w' => e = .returned (.int .i64 2) ∧ Below (y33).heap.size y33 w') := Lib.hid (by have := up_any 10 8 2 5 (in_small (by decide) (by decide)) (in_small (by decide) (by decide)) (in_small (by decide) (by decide)) (in_small (by decide) (by decide)) y33 4 9 (in_small (by decide) (by decide)) (in_small (by decide) (by decide)); rwa [show (if mayB 10 8 2 5 then upV 8 2 4 9 else 0 : Int) = 2 from by decide +kernel] at this)
  go_wp2_with fail
  refine (show Calls _ _ _ _ _ from K.out).mono ?_
  rintro e y34 ⟨rfl, hb⟩
  clear c0 c1 c2 c3
  have M2 := Lib.hid (M.out.old hb)
  have AB2 : Hid (∀ V, Below y34.heap.size y34 V → V.heap[ar]? = some (arO 10 8 2 5)) := Lib.hid fun V hV => AB.out V (hb.trans (hV.mono hb.size))
  clear AB
  have AB := AB2
  clear AB2
  clear M hb
  have M := M2
  clear M2
  clear K
  have HAr := AB.out y34 (Below.refl _ _)
  have c0 := cell_of HAr 0
  have c1 := cell_of HAr 1
  have c2 := cell_of HAr 2
  have c3 := cell_of HAr 3
  clear HAr
  have K : Hid (Calls Try.prog 27 #[areaV 10 8 2 5, .int .i64 1, .int .i64 9] y34 fun e w' => e = .returned (.int .i64 0) ∧ Below (y34).heap.size y34 w') := Lib.hid (by have := up_any 10 8 2 5 (in_small (by decide) (by decide)) (in_small (by decide) (by decide)) (in_small (by decide) (by decide)) (in_small (by decide) (by decide)) y34 1 9 (in_small (by decide) (by decide)) (in_small (by decide) (by decide)); rwa [show (if mayB 10 8 2 5 then upV 8 2 1 9 else 0 : Int) = 0 from by decide +kernel] at this)
  go_wp2_with fail
  refine (show Calls _ _ _ _ _ from K.out).mono ?_
  rintro e y35 ⟨rfl, hb⟩
  clear c0 c1 c2 c3
  have M2 := Lib.hid (M.out.old hb)
  have AB2 : Hid (∀ V, Below y35.heap.size y35 V → V.heap[ar]? = some (arO 10 8 2 5)) := Lib.hid fun V hV => AB.out V (hb.trans (hV.mono hb.size))
  clear AB
  have AB := AB2
  clear AB2
  clear M hb
  have M := M2
  clear M2
  clear K
  have HAr := AB.out y35 (Below.refl _ _)
  have c0 := cell_of HAr 0
  have c1 := cell_of HAr 1
  have c2 := cell_of HAr 2
  have c3 := cell_of HAr 3
  clear HAr
  have K : Hid (Calls Try.prog 28 #[areaV 10 8 2 5, .int .i64 4, .int .i64 9] y35 fun e w' => e = .returned (.int .i64 5) ∧ Below (y35).heap.size y35 w') := Lib.hid (by have := down_any 10 8 2 5 (in_small (by decide) (by decide)) (in_small (by decide) (by decide)) (in_small (by decide) (by decide)) (in_small (by decide) (by decide)) y35 4 9 (in_small (by decide) (by decide)) (in_small (by decide) (by decide)); rwa [show (if mayB 10 8 2 5 then downV 8 5 4 9 else 0 : Int) = 5 from by decide +kernel] at this)
  go_wp2_with fail
  refine (show Calls _ _ _ _ _ from K.out).mono ?_
  rintro e y36 ⟨rfl, hb⟩
  clear c0 c1 c2 c3
  have M2 := Lib.hid (M.out.old hb)
  have AB2 : Hid (∀ V, Below y36.heap.size y36 V → V.heap[ar]? = some (arO 10 8 2 5)) := Lib.hid fun V hV => AB.out V (hb.trans (hV.mono hb.size))
  clear AB
  have AB := AB2
  clear AB2
  clear M hb
  have M := M2
  clear M2
  clear K
  have HAr := AB.out y36 (Below.refl _ _)
  have c0 := cell_of HAr 0
  have c1 := cell_of HAr 1
  have c2 := cell_of HAr 2
  have c3 := cell_of HAr 3
  clear HAr
  have K : Hid (Calls Try.prog 28 #[areaV 10 8 2 5, .int .i64 6, .int .i64 9] y36 fun e w' => e = .returned (.int .i64 7) ∧ Below (y36).heap.size y36 w') := Lib.hid (by have := down_any 10 8 2 5 (in_small (by decide) (by decide)) (in_small (by decide) (by decide)) (in_small (by decide) (by decide)) (in_small (by decide) (by decide)) y36 6 9 (in_small (by decide) (by decide)) (in_small (by decide) (by decide)); rwa [show (if mayB 10 8 2 5 then downV 8 5 6 9 else 0 : Int) = 7 from by decide +kernel] at this)
  go_wp2_with fail
  refine (show Calls _ _ _ _ _ from K.out).mono ?_
  rintro e y37 ⟨rfl, hb⟩
  clear c0 c1 c2 c3
  have M2 := Lib.hid (M.out.old hb)
  have AB2 : Hid (∀ V, Below y37.heap.size y37 V → V.heap[ar]? = some (arO 10 8 2 5)) := Lib.hid fun V hV => AB.out V (hb.trans (hV.mono hb.size))
  clear AB
  have AB := AB2
  clear AB2
  clear M hb
  have M := M2
  clear M2
  clear K
  have HAr := AB.out y37 (Below.refl _ _)
  have c0 := cell_of HAr 0
  have c1 := cell_of HAr 1
  have c2 := cell_of HAr 2
  have c3 := cell_of HAr 3
  clear HAr
  have K : Hid (Calls Try.prog 27 #[areaV 10 8 2 5, .int .i64 4, .int .i64 0] y37 fun e w' => e = .returned (.int .i64 3) ∧ Below (y37).heap.size y37 w') := Lib.hid (by have := up_any 10 8 2 5 (in_small (by decide) (by decide)) (in_small (by decide) (by decide)) (in_small (by decide) (by decide)) (in_small (by decide) (by decide)) y37 4 0 (in_small (by decide) (by decide)) (in_small (by decide) (by decide)); rwa [show (if mayB 10 8 2 5 then upV 8 2 4 0 else 0 : Int) = 3 from by decide +kernel] at this)
  go_wp2_with fail
  refine (show Calls _ _ _ _ _ from K.out).mono ?_
  rintro e y38 ⟨rfl, hb⟩
  clear c0 c1 c2 c3
  have M2 := Lib.hid (M.out.old hb)
  have AB2 : Hid (∀ V, Below y38.heap.size y38 V → V.heap[ar]? = some (arO 10 8 2 5)) := Lib.hid fun V hV => AB.out V (hb.trans (hV.mono hb.size))
  clear AB
  have AB := AB2
  clear AB2
  clear M hb
  have M := M2
  clear M2
  clear K
  have HAr := AB.out y38 (Below.refl _ _)
  have c0 := cell_of HAr 0
  have c1 := cell_of HAr 1
  have c2 := cell_of HAr 2
  have c3 := cell_of HAr 3
  clear HAr
  have K : Hid (Calls Try.prog 27 #[areaV 10 8 2 5, .int .i64 6, .int .i64 4611686018427387904] y38 fun e w' => e = .returned (.int .i64 2) ∧ Below (y38).heap.size y38 w') := Lib.hid (by have := up_any 10 8 2 5 (in_small (by decide) (by decide)) (in_small (by decide) (by decide)) (in_small (by decide) (by decide)) (in_small (by decide) (by decide)) y38 6 4611686018427387904 (in_small (by decide) (by decide)) ⟨by decide, by decide⟩; rwa [show (if mayB 10 8 2 5 then upV 8 2 6 4611686018427387904 else 0 : Int) = 2 from by decide +kernel] at this)
  go_wp2_with fail
  refine (show Calls _ _ _ _ _ from K.out).mono ?_
  rintro e y39 ⟨rfl, hb⟩
  clear c0 c1 c2 c3
  have M2 := Lib.hid (M.out.old hb)
  have AB2 : Hid (∀ V, Below y39.heap.size y39 V → V.heap[ar]? = some (arO 10 8 2 5)) := Lib.hid fun V hV => AB.out V (hb.trans (hV.mono hb.size))
  clear AB
  have AB := AB2
  clear AB2
  clear M hb
  have M := M2
  clear M2
  clear K
  have HAr := AB.out y39 (Below.refl _ _)
  have c0 := cell_of HAr 0
  have c1 := cell_of HAr 1
  have c2 := cell_of HAr 2
  have c3 := cell_of HAr 3
  clear HAr
  have K : Hid (Calls Try.prog 28 #[areaV 10 8 2 5, .int .i64 99, .int .i64 1] y39 fun e w' => e = .returned (.int .i64 7) ∧ Below (y39).heap.size y39 w') := Lib.hid (by have := down_any 10 8 2 5 (in_small (by decide) (by decide)) (in_small (by decide) (by decide)) (in_small (by decide) (by decide)) (in_small (by decide) (by decide)) y39 99 1 (in_small (by decide) (by decide)) (in_small (by decide) (by decide)); rwa [show (if mayB 10 8 2 5 then downV 8 5 99 1 else 0 : Int) = 7 from by decide +kernel] at this)
  go_wp2_with fail
  refine (show Calls _ _ _ _ _ from K.out).mono ?_
  rintro e y40 ⟨rfl, hb⟩
  clear c0 c1 c2 c3
  have M2 := Lib.hid (M.out.old hb)
  have AB2 : Hid (∀ V, Below y40.heap.size y40 V → V.heap[ar]? = some (arO 10 8 2 5)) := Lib.hid fun V hV => AB.out V (hb.trans (hV.mono hb.size))
  clear AB
  have AB := AB2
  clear AB2
  clear M hb
  have M := M2
  clear M2
  clear K
  have HAr := AB.out y40 (Below.refl _ _)
  have c0 := cell_of HAr 0
  have c1 := cell_of HAr 1
  have c2 := cell_of HAr 2
  have c3 := cell_of HAr 3
  clear HAr
  have K : Hid (Calls Try.prog 29 #[areaV 10 8 2 5, .int .i64 4, .int .i64 2] y40 fun e w' => e = .returned (.int .i64 2) ∧ Below (y40).heap.size y40 w') := Lib.hid (by have := left_any 10 8 2 5 (in_small (by decide) (by decide)) (in_small (by decide) (by decide)) (in_small (by decide) (by decide)) (in_small (by decide) (by decide)) y40 4 2 (in_small (by decide) (by decide)) (in_small (by decide) (by decide)); rwa [show (if mayB 10 8 2 5 then leftV 10 4 2 else 0 : Int) = 2 from by decide +kernel] at this)
  go_wp2_with fail
  refine (show Calls _ _ _ _ _ from K.out).mono ?_
  rintro e y41 ⟨rfl, hb⟩
  clear c0 c1 c2 c3
  have M2 := Lib.hid (M.out.old hb)
  have AB2 : Hid (∀ V, Below y41.heap.size y41 V → V.heap[ar]? = some (arO 10 8 2 5)) := Lib.hid fun V hV => AB.out V (hb.trans (hV.mono hb.size))
  clear AB
  have AB := AB2
  clear AB2
  clear M hb
  have M := M2
  clear M2
  clear K
  have HAr := AB.out y41 (Below.refl _ _)
  have c0 := cell_of HAr 0
  have c1 := cell_of HAr 1
  have c2 := cell_of HAr 2
  have c3 := cell_of HAr 3
  clear HAr
  have K : Hid (Calls Try.prog 29 #[areaV 10 8 2 5, .int .i64 4, .int .i64 9] y41 fun e w' => e = .returned (.int .i64 0) ∧ Below (y41).heap.size y41 w') := Lib.hid (by have := left_any 10 8 2 5 (in_small (by decide) (by decide)) (in_small (by decide) (by decide)) (in_small (by decide) (by decide)) (in_small (by decide) (by decide)) y41 4 9 (in_small (by decide) (by decide)) (in_small (by decide) (by decide)); rwa [show (if mayB 10 8 2 5 then leftV 10 4 9 else 0 : Int) = 0 from by decide +kernel] at this)
  go_wp2_with fail
  refine (show Calls _ _ _ _ _ from K.out).mono ?_
  rintro e y42 ⟨rfl, hb⟩
  clear c0 c1 c2 c3
  have M2 := Lib.hid (M.out.old hb)
  have AB2 : Hid (∀ V, Below y42.heap.size y42 V → V.heap[ar]? = some (arO 10 8 2 5)) := Lib.hid fun V hV => AB.out V (hb.trans (hV.mono hb.size))
  clear AB
  have AB := AB2
  clear AB2
  clear M hb
  have M := M2
  clear M2
  clear K
  have HAr := AB.out y42 (Below.refl _ _)
  have c0 := cell_of HAr 0
  have c1 := cell_of HAr 1
  have c2 := cell_of HAr 2
  have c3 := cell_of HAr 3
  clear HAr
  have K : Hid (Calls Try.prog 30 #[areaV 10 8 2 5, .int .i64 4, .int .i64 4611686018427387904] y42 fun e w' => e = .returned (.int .i64 9) ∧ Below (y42).heap.size y42 w') := Lib.hid (by have := ahead_any 10 8 2 5 (in_small (by decide) (by decide)) (in_small (by decide) (by decide)) (in_small (by decide) (by decide)) (in_small (by decide) (by decide)) y42 4 4611686018427387904 (in_small (by decide) (by decide)) ⟨by decide, by decide⟩; rwa [show (if mayB 10 8 2 5 then aheadV 10 4 4611686018427387904 else 0 : Int) = 9 from by decide +kernel] at this)
  go_wp2_with fail
  refine (show Calls _ _ _ _ _ from K.out).mono ?_
  rintro e y43 ⟨rfl, hb⟩
  clear c0 c1 c2 c3
  have M2 := Lib.hid (M.out.old hb)
  have AB2 : Hid (∀ V, Below y43.heap.size y43 V → V.heap[ar]? = some (arO 10 8 2 5)) := Lib.hid fun V hV => AB.out V (hb.trans (hV.mono hb.size))
  clear AB
  have AB := AB2
  clear AB2
  clear M hb
  have M := M2
  clear M2
  clear K
  clear AB
  go_upto_region 15 with fail
  change Code.wp _ _ _ _ (y43.alloc badO)
  obtain ⟨g, hg⟩ : ∃ g, y43.heap.size = g := ⟨_, rfl⟩
  have hbb := (Below.refl y43.heap.size y43).alloc (Nat.le_refl _) badO
  have HB0 : Hid (∀ V, Below (y43.alloc badO).heap.size (y43.alloc badO) V → V.heap[g]? = some badO) := Lib.hid fun V hV => by rw [← hg]; exact (hV.block _ (by simp)).trans (heap_new _ _)
  have M2 := Lib.hid (M.out.old hbb)
  rw [hg]
  generalize y43.alloc badO = x0 at HB0 M2 ⊢
  clear M hg hbb
  go_wp2_with fail
  go_loopw [15] (fun i wr => ∃ k : Nat, k ≤ 6 ∧ i = .int .i64 k ∧ Hid (Below x0.heap.size x0 wr)) (fun i _ => 6 - (RowKit.intOf i).toNat)
  case atStart => exact ⟨0, Nat.zero_le _, rfl, Lib.hid (Below.refl _ _)⟩
  case round =>
    obtain ⟨k, hk, rfl, HB⟩ := hrel
    rename_i wr
    by_cases hlk : k < 6
    · have glk : decide ((k : Int) < 6) = true := by simp; omega
      have i1 := idx_bad g 6 6 k hlk
      obtain ⟨aW, aH, aT, aB, hm, c0, c1, c2, c3⟩ := bad_at (HB0.out wr HB.out) hlk
      have KR : Hid (Calls Try.prog 25 #[areaV aW aH aT aB] wr fun e w' => e = .returned (.bool false) ∧ Below wr.heap.size wr w') := Lib.hid (by have := right_any0 aW aH aT aB wr; rwa [hm] at this)
      have KD : Hid (∀ V, Calls Try.prog 28 #[areaV aW aH aT aB, .int .i64 5, .int .i64 1] V fun e w' => e = .returned (.int .i64 0) ∧ Below V.heap.size V w') := Lib.hid fun V => down_no aW aH aT aB V hm 5 1
      clear hm
      go_wp2_with fail
      refine (show Calls _ _ _ _ _ from KR.out).mono ?_
      rintro e w1 ⟨rfl, hb1⟩
      have B1 := Lib.hid (HB.out.trans (hb1.mono HB.out.size))
      have d0 := (hb1.cell (p := ⟨g, k * 4, none⟩) (blk_lt (HB0.out wr HB.out))).trans c0
      have d1 := (hb1.cell (p := ⟨g, k * 4 + 1, none⟩) (blk_lt (HB0.out wr HB.out))).trans c1
      have d2 := (hb1.cell (p := ⟨g, k * 4 + 2, none⟩) (blk_lt (HB0.out wr HB.out))).trans c2
      have d3 := (hb1.cell (p := ⟨g, k * 4 + 3, none⟩) (blk_lt (HB0.out wr HB.out))).trans c3
      clear c0 c1 c2 c3 hb1 KR
      go_wp2_with fail
      refine (KD.out _).mono ?_
      rintro e w2 ⟨rfl, hb2⟩
      have B2 := Lib.hid (B1.out.trans (hb2.mono B1.out.size))
      clear hb2 d0 d1 d2 d3 KD
      go_wp2
      go_roundw
      case rel => exact ⟨k + 1, by omega, by go_num, B2⟩
      case measure => simp [RowKit.intOf]; omega
    · have glk : decide ((k : Int) < 6) = false := by simp; omega
      have M := Lib.hid (M2.out.old HB.out)
      clear HB HB0 M2
      have K : Hid (Calls Try.prog 20 #[s, .int .i64 9] wr fun e w' => ∃ A c, e = .returned (.slice A 0 c) ∧ LiesI w' (.slice A 0 c) [] ∧ Below (wr).heap.size wr w') := Lib.hid ((mine_all M.out 9 (by decide) (by decide)).mono fun e w' h => by obtain ⟨v, he, ho, _, hb⟩ := h; rw [show (stL (wipeB (sizeB (sizeB (setB (clrB (setB (newB 20) 3) 8) 0) 4) 17))).take 9 = [] from by decide +kernel] at ho; obtain ⟨A, c, rfl, hr⟩ := ownI_lies ho; exact ⟨A, c, he, ⟨A, c, rfl, hr⟩, hb⟩)
      go_wp2_with fail
      refine (show Calls _ _ _ _ _ from K.out).mono ?_
      rintro e y44 ⟨ua, uc, rfl, hl, hb⟩
      have HL := Lib.hid hl
      clear hl
      have M2 := Lib.hid (M.out.old hb)
      clear M hb
      have M := M2
      clear M2
      clear K
      clear HL
      have K : Hid (Calls Try.prog 21 #[s, .int .i64 0, .int .i64 1] y44 fun e w' => e = .returned (.int .i64 16) ∧ Below (y44).heap.size y44 w') := Lib.hid ((mine_next M.out 0 1 (in_small (by decide) (by decide)) (in_small (by decide) (by decide))).mono fun e w' h => ⟨by rw [h.1, show nextV ((wipeB (sizeB (sizeB (setB (clrB (setB (newB 20) 3) 8) 0) 4) 17))) 0 1 = 16 from by decide +kernel]; rfl, h.2.2⟩)
      go_wp2_with fail
      refine (show Calls _ _ _ _ _ from K.out).mono ?_
      rintro e y45 ⟨rfl, hb⟩
      have M2 := Lib.hid (M.out.old hb)
      clear M hb
      have M := M2
      clear M2
      clear K
      have K : Hid (Calls Try.prog 10 #[.int .i64 0] y45 fun e w' => ∃ t, e = .returned t ∧ MineT y45 t (newB 0) w' ∧ Below (y45).heap.size y45 w') := Lib.hid ((mine_new 0 y45 y45 (Below.refl _ _)).mono fun e w' ⟨t, he, ht⟩ => ⟨t, he, ht, ht.1⟩)
      go_wp2_with fail
      refine (show Calls _ _ _ _ _ from K.out).mono ?_
      rintro e y46 ⟨t0, rfl, ht, hb⟩
      have MT := Lib.hid ht
      clear ht
      have M2 := Lib.hid (M.out.old hb)
      clear M hb
      have M := M2
      clear M2
      clear K
      have K : Hid (Calls Try.prog 20 #[t0, .int .i64 9] y46 fun e w' => ∃ A c, e = .returned (.slice A 0 c) ∧ Below (y46).heap.size y46 w') := Lib.hid ((mine_all MT.out 9 (by decide) (by decide)).mono fun e w' h => by obtain ⟨v, he, ho, _, hb⟩ := h; rw [show (stL (newB 0)).take 9 = [] from by decide +kernel] at ho; obtain ⟨A, c, rfl, hr⟩ := ownI_lies ho; exact ⟨A, c, he, hb⟩)
      go_wp2_with fail
      refine (show Calls _ _ _ _ _ from K.out).mono ?_
      rintro e y47 ⟨va, vc, rfl, hb⟩
      have M2 := Lib.hid (M.out.old hb)
      clear M hb
      have M := M2
      clear M2
      clear MT
      clear K
      have K : Hid (Calls Try.prog 10 #[.int .i64 1000] y47 fun e w' => ∃ t, e = .returned t ∧ MineT y47 t (newB 1000) w' ∧ Below (y47).heap.size y47 w') := Lib.hid ((mine_new 1000 y47 y47 (Below.refl _ _)).mono fun e w' ⟨t, he, ht⟩ => ⟨t, he, ht, ht.1⟩)
      go_wp2_with fail
      refine (show Calls _ _ _ _ _ from K.out).mono ?_
      rintro e y48 ⟨t1, rfl, ht, hb⟩
      have MT := Lib.hid ht
      clear ht
      have M2 := Lib.hid (M.out.old hb)
      clear M hb
      have M := M2
      clear M2
      clear K
      have K : Hid (Calls Try.prog 21 #[t1, .int .i64 399, .int .i64 1] y48 fun e w' => e = .returned (.int .i64 399) ∧ Below (y48).heap.size y48 w') := Lib.hid ((mine_next MT.out 399 1 (in_small (by decide) (by decide)) (in_small (by decide) (by decide))).mono fun e w' h => ⟨by rw [h.1, show nextV (newB 1000) 399 1 = 399 from by decide +kernel]; rfl, h.2.2⟩)
      go_wp2_with fail
      refine (show Calls _ _ _ _ _ from K.out).mono ?_
      rintro e y49 ⟨rfl, hb⟩
      have M2 := Lib.hid (M.out.old hb)
      clear M hb
      have M := M2
      clear M2
      clear MT
      clear K
      have K : Hid (Calls Try.prog 25 #[areaV 1 1 0 0] y49 fun e w' => e = .returned (.bool true) ∧ Below (y49).heap.size y49 w') := Lib.hid (by have := right_any0 1 1 0 0 y49; rwa [show mayB 1 1 0 0 = true from by decide +kernel] at this)
      go_wp2_with fail
      refine (show Calls _ _ _ _ _ from K.out).mono ?_
      rintro e y50 ⟨rfl, hb⟩
      have M2 := Lib.hid (M.out.old hb)
      clear M hb
      have M := M2
      clear M2
      clear K
      have K : Hid (Calls Try.prog 9 #[] y50 fun e w' => e = .returned (.bool true) ∧ Below (y50).heap.size y50 w') := Lib.hid (wakes_any y50)
      go_wp2_with fail
      refine (show Calls _ _ _ _ _ from K.out).mono ?_
      rintro e y51 ⟨rfl, hb⟩
      have M2 := Lib.hid (M.out.old hb)
      clear M hb
      have M := M2
      clear M2
      clear K
      go_wp2
      go_ret
      exact ⟨rfl, M.out.1⟩
end Go.Proofs.Ytfkiihddcinckaa.Tb
