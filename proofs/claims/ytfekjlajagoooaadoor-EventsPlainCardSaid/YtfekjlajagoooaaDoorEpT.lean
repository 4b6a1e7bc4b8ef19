/- Layer 8: awake. -/
import Derived.Test.YtfekjlajagoooaaDoorEpQ
import Derived.Test.YtfekjlajagoooaaDoorEpP
namespace Go.Proofs.YtfekjlajagoooaaDoor
open Go.RowKit Ev

def awL : List UInt8 := [97, 195, 169, 27, 91, 49, 59, 51, 49, 109, 195]
def awE : List EV := [printE 97, printE 233, ⟨4, 0, 109, [], [[1], [31]], []⟩]
set_option maxRecDepth 100000 in
theorem aw_told : (runE q0 awL).1 = awE := by decide +kernel
set_option maxRecDepth 100000 in
theorem aw_kept : (runE q0 awL).2.kept = [195] ∧ (runE q0 awL).2.st = 0 := by decide +kernel
theorem aw_par : ∀ x ∈ awE ++ [printE 65533], ParOk x.params := by
  intro x hx
  simp only [awE, List.cons_append, List.nil_append, List.mem_cons, List.not_mem_nil, or_false] at hx
  rcases hx with rfl | rfl | rfl | rfl
  · exact ⟨by simp [printE], by simp [printE]⟩
  · exact ⟨by simp [printE], by simp [printE]⟩
  · exact ⟨by simp, by simp⟩
  · exact ⟨by simp [printE], by simp [printE]⟩
theorem ev_cells {w : World} {g k : Nat} {x : EV} (h : EvAt w g k x) : ∃ A c, (w.cell? ⟨g, k * 6, none⟩ = some (.int .i64 x.kind) ∧ w.cell? ⟨g, k * 6 + 1, none⟩ = some (.int .i32 x.rune) ∧ w.cell? ⟨g, k * 6 + 2, none⟩ = some (.int .u8 x.final) ∧ w.cell? ⟨g, k * 6 + 3, none⟩ = some (.string (strK x.mids)) ∧ w.cell? ⟨g, k * 6 + 4, none⟩ = some (.slice A x.params.length c) ∧ w.cell? ⟨g, k * 6 + 5, none⟩ = some (.string (strK x.text))) ∧ GridW w A x.params.length (lenP x.params) (valP x.params) := h

set_option maxHeartbeats 4000000 in
set_option maxRecDepth 100000 in
theorem awake_any (w : World) (hT : D5.Tabs w) (hf : 1 < w.heap.size ∧ 2 < w.heap.size) : Calls Tryd.prog 15 #[] w fun e w' => e = .returned (.bool true) ∧ Below w.heap.size w w' := by
  have HN := Lib.hid (new_any w hf)
  have HTb := Lib.hid hT
  clear hT hf
  go_enter Tryd.func15, Tryd.ntmps15
  go_wp2_with fail
  refine (show Calls _ _ _ _ _ from HN.out).mono ?_
  rintro e w1 ⟨rfl, hI, hb⟩
  obtain ⟨a, ha⟩ : ∃ a, a = w.heap.size := ⟨_, rfl⟩
  rw [← ha] at hI ⊢
  have HA := Lib.hid ha
  have HB1 := Lib.hid hb
  have HF := Lib.hid (feed_any hI (HTb.out.below hb (Nat.le_refl _)) ⟨#[97, 195, 169, 27, 91, 49, 59, 51, 49, 109, 195]⟩ awL rfl (by decide) (by decide) (by decide))
  clear hI hb HN ha
  go_wp2_with fail
  refine (show Calls _ _ _ _ _ from HF.out).mono ?_
  rintro e w2 ⟨rfl, hI, hs⟩
  rw [aw_told, List.nil_append] at hI
  have HB2 : Hid (Below w.heap.size w w2) := Lib.hid (hs.below (by rw [HA.out]; exact Nat.le_refl _) HB1.out HB1.out.size)
  have HW := Lib.hid (wait_any hI)
  rw [show waitsB (runE q0 awL).2 = true by unfold waitsB; rw [aw_kept.1, aw_kept.2]; rfl] at HW
  have HI := Lib.hid hI
  clear hI hs HF HB1
  go_wp2_with fail
  refine (show Calls _ _ _ _ _ from HW.out).mono ?_
  rintro e w3 ⟨rfl, j, rfl⟩
  have HE := Lib.hid (end_any (HI.out.below (below_drew (Below.refl _ _) j)))
  clear HW HI
  go_wp2_with fail
  refine (show Calls _ _ _ _ _ from HE.out).mono ?_
  rintro e w4 ⟨rfl, hI, hs⟩
  rw [show markE (runE q0 awL).2 = [printE 65533] by unfold markE; rw [aw_kept.1]; rfl] at hI
  have HB4 : Hid (Below w.heap.size w w4) := Lib.hid (hs.below (by rw [HA.out]; exact Nat.le_refl _) (below_drew HB2.out j) HB2.out.size)
  have HTk := Lib.hid (take_law hI aw_par (by decide))
  have HWt := Lib.hid (show waitsB { (runE q0 awL).2 with kept := [] } = false by unfold waitsB; rw [aw_kept.2]; rfl)
  clear hI hs HE HB2
  go_wp2_with fail
  refine (show Calls _ _ _ _ _ from HTk.out).mono ?_
  rintro e w5 ⟨A, c, he, ht, hI, hs⟩
  have he : e = .returned (.slice A 4 c) := he
  subst he
  have ht : Told w5 w4.heap.size 31 (.slice A 4 c) (awE ++ [printE 65533]) := ht
  have HB5 : Hid (Below w.heap.size w w5) := Lib.hid (hs.below (by rw [HA.out]; exact Nat.le_refl _) HB4.out HB4.out.size)
  have hr := ht.reads (fun x hx q hq => by have := (aw_par x hx).2 q hq; omega)
  have HWw := fun W (hW : Below w5.heap.size w5 W) => Lib.hid (HWt.out ▸ wait_any (hI.below hW))
  obtain ⟨g, rfl, e0⟩ := hr 0 (by decide)
  obtain ⟨_, h1, e1⟩ := hr 1 (by decide)
  cases h1
  obtain ⟨_, h1, e2⟩ := hr 2 (by decide)
  cases h1
  obtain ⟨_, h1, e3⟩ := hr 3 (by decide)
  cases h1
  obtain ⟨A0, c0, ⟨p0, p1, p2, p3, p4, p5⟩, g0⟩ := ev_cells e0
  obtain ⟨A1, c1, ⟨q0', q1, q2, q3, q4, q5⟩, g1⟩ := ev_cells e1
  obtain ⟨A2, c2, ⟨r0, r1, r2, r3, r4, r5⟩, g2⟩ := ev_cells e2
  obtain ⟨A3, c3, ⟨s0, s1, s2, s3, s4, s5⟩, g3⟩ := ev_cells e3
  have C0 : w5.cell? ⟨g, 0, none⟩ = some (.int .i64 1) := p0
  have C1 : w5.cell? ⟨g, 1, none⟩ = some (.int .i32 97) := p1
  have C2 : w5.cell? ⟨g, 2, none⟩ = some (.int .u8 0) := p2
  have C3 : w5.cell? ⟨g, 3, none⟩ = some (.string ⟨#[]⟩) := p3
  have C4 : w5.cell? ⟨g, 4, none⟩ = some (.slice A0 0 c0) := p4
  have C5 : w5.cell? ⟨g, 5, none⟩ = some (.string ⟨#[]⟩) := p5
  have C6 : w5.cell? ⟨g, 6, none⟩ = some (.int .i64 1) := q0'
  have C7 : w5.cell? ⟨g, 7, none⟩ = some (.int .i32 233) := q1
  have C8 : w5.cell? ⟨g, 8, none⟩ = some (.int .u8 0) := q2
  have C9 : w5.cell? ⟨g, 9, none⟩ = some (.string ⟨#[]⟩) := q3
  have C10 : w5.cell? ⟨g, 10, none⟩ = some (.slice A1 0 c1) := q4
  have C11 : w5.cell? ⟨g, 11, none⟩ = some (.string ⟨#[]⟩) := q5
  have C12 : w5.cell? ⟨g, 12, none⟩ = some (.int .i64 4) := r0
  have C13 : w5.cell? ⟨g, 13, none⟩ = some (.int .i32 0) := r1
  have C14 : w5.cell? ⟨g, 14, none⟩ = some (.int .u8 109) := r2
  have C15 : w5.cell? ⟨g, 15, none⟩ = some (.string ⟨#[]⟩) := r3
  have C16 : w5.cell? ⟨g, 16, none⟩ = some (.slice A2 2 c2) := r4
  have C17 : w5.cell? ⟨g, 17, none⟩ = some (.string ⟨#[]⟩) := r5
  have C18 : w5.cell? ⟨g, 18, none⟩ = some (.int .i64 1) := s0
  have C19 : w5.cell? ⟨g, 19, none⟩ = some (.int .i32 65533) := s1
  have C20 : w5.cell? ⟨g, 20, none⟩ = some (.int .u8 0) := s2
  have C21 : w5.cell? ⟨g, 21, none⟩ = some (.string ⟨#[]⟩) := s3
  have C22 : w5.cell? ⟨g, 22, none⟩ = some (.slice A3 0 c3) := s4
  have C23 : w5.cell? ⟨g, 23, none⟩ = some (.string ⟨#[]⟩) := s5
  have HCell : Hid (∀ W, Below w5.heap.size w5 W → (fun W => W.cell? ⟨g, 0, none⟩ = some (.int .i64 1) ∧ W.cell? ⟨g, 1, none⟩ = some (.int .i32 97) ∧ W.cell? ⟨g, 2, none⟩ = some (.int .u8 0) ∧ W.cell? ⟨g, 3, none⟩ = some (.string ⟨#[]⟩) ∧ W.cell? ⟨g, 4, none⟩ = some (.slice A0 0 c0) ∧ W.cell? ⟨g, 5, none⟩ = some (.string ⟨#[]⟩) ∧ W.cell? ⟨g, 6, none⟩ = some (.int .i64 1) ∧ W.cell? ⟨g, 7, none⟩ = some (.int .i32 233) ∧ W.cell? ⟨g, 8, none⟩ = some (.int .u8 0) ∧ W.cell? ⟨g, 9, none⟩ = some (.string ⟨#[]⟩) ∧ W.cell? ⟨g, 10, none⟩ = some (.slice A1 0 c1) ∧ W.cell? ⟨g, 11, none⟩ = some (.string ⟨#[]⟩) ∧ W.cell? ⟨g, 12, none⟩ = some (.int .i64 4) ∧ W.cell? ⟨g, 13, none⟩ = some (.int .i32 0) ∧ W.cell? ⟨g, 14, none⟩ = some (.int .u8 109) ∧ W.cell? ⟨g, 15, none⟩ = some (.string ⟨#[]⟩) ∧ W.cell? ⟨g, 16, none⟩ = some (.slice A2 2 c2) ∧ W.cell? ⟨g, 17, none⟩ = some (.string ⟨#[]⟩) ∧ W.cell? ⟨g, 18, none⟩ = some (.int .i64 1) ∧ W.cell? ⟨g, 19, none⟩ = some (.int .i32 65533) ∧ W.cell? ⟨g, 20, none⟩ = some (.int .u8 0) ∧ W.cell? ⟨g, 21, none⟩ = some (.string ⟨#[]⟩) ∧ W.cell? ⟨g, 22, none⟩ = some (.slice A3 0 c3) ∧ W.cell? ⟨g, 23, none⟩ = some (.string ⟨#[]⟩)) W) := Lib.hid fun W hW => ⟨(hW.cell (cell_lt C0)).trans C0, (hW.cell (cell_lt C1)).trans C1, (hW.cell (cell_lt C2)).trans C2, (hW.cell (cell_lt C3)).trans C3, (hW.cell (cell_lt C4)).trans C4, (hW.cell (cell_lt C5)).trans C5, (hW.cell (cell_lt C6)).trans C6, (hW.cell (cell_lt C7)).trans C7, (hW.cell (cell_lt C8)).trans C8, (hW.cell (cell_lt C9)).trans C9, (hW.cell (cell_lt C10)).trans C10, (hW.cell (cell_lt C11)).trans C11, (hW.cell (cell_lt C12)).trans C12, (hW.cell (cell_lt C13)).trans C13, (hW.cell (cell_lt C14)).trans C14, (hW.cell (cell_lt C15)).trans C15, (hW.cell (cell_lt C16)).trans C16, (hW.cell (cell_lt C17)).trans C17, (hW.cell (cell_lt C18)).trans C18, (hW.cell (cell_lt C19)).trans C19, (hW.cell (cell_lt C20)).trans C20, (hW.cell (cell_lt C21)).trans C21, (hW.cell (cell_lt C22)).trans C22, (hW.cell (cell_lt C23)).trans C23⟩
  have HS22 : Hid (∀ W, Below w5.heap.size w5 W → Calls Tryd.prog 16 #[.agg #[.int .i64 4, .int .i32 0, .int .u8 109, .string ⟨#[]⟩, .slice A2 2 c2, .string ⟨#[]⟩], .agg #[.int .i64 4, .int .i32 0, .int .u8 109, .string ⟨#[]⟩, .slice A2 2 c2, .string ⟨#[]⟩]] W fun x w' => x = .returned (.bool true) ∧ Below w5.heap.size w5 w') := Lib.hid fun W hW => (same_yes (e := ⟨4, 0, 109, [], [[1], [31]], []⟩) c2 c2 (by decide) (g2.below hW) (g2.below hW)).mono fun _ _ hx => ⟨hx.1, hW.trans (hx.2.mono hW.size)⟩
  have HS01 : Hid (∀ W, Below w5.heap.size w5 W → Calls Tryd.prog 16 #[.agg #[.int .i64 1, .int .i32 97, .int .u8 0, .string ⟨#[]⟩, .slice A0 0 c0, .string ⟨#[]⟩], .agg #[.int .i64 1, .int .i32 233, .int .u8 0, .string ⟨#[]⟩, .slice A1 0 c1, .string ⟨#[]⟩]] W fun x w' => x = .returned (.bool false) ∧ Below w5.heap.size w5 w') := Lib.hid fun W hW => (same_any 1 1 97 233 0 0 ⟨#[]⟩ ⟨#[]⟩ ⟨#[]⟩ ⟨#[]⟩ c0 c1 (by decide) (by decide) (g0.below hW) (g1.below hW)).mono fun _ _ hx => ⟨by rw [hx.1]; rfl, hW.trans (hx.2.mono hW.size)⟩
  have HS2n : Hid (∀ W, Below w5.heap.size w5 W → Calls Tryd.prog 16 #[.agg #[.int .i64 4, .int .i32 0, .int .u8 109, .string ⟨#[]⟩, .slice A2 2 c2, .string ⟨#[]⟩], .agg #[.int .i64 4, .int .i32 0, .int .u8 109, .string ⟨#[]⟩, .slice none 0 0, .string ⟨#[]⟩]] W fun x w' => x = .returned (.bool false) ∧ Below w5.heap.size w5 w') := Lib.hid fun W hW => (same_any (L := lenP [[1], [31]]) (T := valP [[1], [31]]) (M := fun _ => 0) (U := fun _ _ => 0) 4 4 0 0 109 109 ⟨#[]⟩ ⟨#[]⟩ ⟨#[]⟩ ⟨#[]⟩ c2 0 (n1 := 2) (n2 := 0) (by decide) (by decide) (g2.below hW) (fun r hr => absurd hr (by omega))).mono fun _ _ hx => ⟨by rw [hx.1]; simp [sameV, gridsB], hW.trans (hx.2.mono hW.size)⟩
  have HWa : Hid (∀ W, Below w5.heap.size w5 W → Calls Tryd.prog 17 #[.pointer (some ⟨a, 0, none⟩)] W fun x w' => x = .returned (.bool false) ∧ Below w5.heap.size w5 w') := Lib.hid fun W hW => (HWw W hW).out.mono fun _ _ ⟨h1, j, h2⟩ => ⟨h1, by rw [h2]; exact below_drew hW j⟩
  have kb := fun W => run_build (P := Tryd.prog) W 31 #[(0, .int .i64 4), (2, .int .u8 109)] #[.int .i64 4, .int .i32 0, .int .u8 109, .string ⟨#[]⟩, .slice none 0 0, .string ⟨#[]⟩] (by kernel_rfl)
  have k0 : Below w5.heap.size w5 w5 := Below.refl _ _
  have k0d : Below w5.heap.size w5 w5.drew := below_drew (Below.refl _ _) 1
  clear hI hs ht hr HWw HTk HWt HB4 g0 g1 g2 g3 e0 e1 e2 e3 p0 p1 p2 p3 p4 p5 q0' q1 q2 q3 q4 q5 r0 r1 r2 r3 r4 r5 s0 s1 s2 s3 s4 s5
  go_wp2_with fail
  dsimp only [List.append]
  go_region_held3 (fun W => W.cell? ⟨g, 0, none⟩ = some (.int .i64 1) ∧ W.cell? ⟨g, 1, none⟩ = some (.int .i32 97) ∧ W.cell? ⟨g, 2, none⟩ = some (.int .u8 0) ∧ W.cell? ⟨g, 3, none⟩ = some (.string ⟨#[]⟩) ∧ W.cell? ⟨g, 4, none⟩ = some (.slice A0 0 c0) ∧ W.cell? ⟨g, 5, none⟩ = some (.string ⟨#[]⟩) ∧ W.cell? ⟨g, 6, none⟩ = some (.int .i64 1) ∧ W.cell? ⟨g, 7, none⟩ = some (.int .i32 233) ∧ W.cell? ⟨g, 8, none⟩ = some (.int .u8 0) ∧ W.cell? ⟨g, 9, none⟩ = some (.string ⟨#[]⟩) ∧ W.cell? ⟨g, 10, none⟩ = some (.slice A1 0 c1) ∧ W.cell? ⟨g, 11, none⟩ = some (.string ⟨#[]⟩) ∧ W.cell? ⟨g, 12, none⟩ = some (.int .i64 4) ∧ W.cell? ⟨g, 13, none⟩ = some (.int .i32 0) ∧ W.cell? ⟨g, 14, none⟩ = some (.int .u8 109) ∧ W.cell? ⟨g, 15, none⟩ = some (.string ⟨#[]⟩) ∧ W.cell? ⟨g, 16, none⟩ = some (.slice A2 2 c2) ∧ W.cell? ⟨g, 17, none⟩ = some (.string ⟨#[]⟩) ∧ W.cell? ⟨g, 18, none⟩ = some (.int .i64 1) ∧ W.cell? ⟨g, 19, none⟩ = some (.int .i32 65533) ∧ W.cell? ⟨g, 20, none⟩ = some (.int .u8 0) ∧ W.cell? ⟨g, 21, none⟩ = some (.string ⟨#[]⟩) ∧ W.cell? ⟨g, 22, none⟩ = some (.slice A3 0 c3) ∧ W.cell? ⟨g, 23, none⟩ = some (.string ⟨#[]⟩))
    (exact HCell.out _ (by assumption))
    (first | (go_at_call 17; (with_reducible refine (HWa.out _ (by assumption)).mono ?_); rintro e w6 ⟨rfl, k1⟩) | (go_at_call 16; (with_reducible refine (HS22.out _ (by assumption)).mono ?_); rintro e w7 ⟨rfl, k2⟩) | (go_at_call 16; (with_reducible refine (HS01.out _ (by assumption)).mono ?_); rintro e w8 ⟨rfl, k3⟩) | (go_at_call 16; (with_reducible refine (HS2n.out _ (by assumption)).mono ?_); rintro e w9 ⟨rfl, k4⟩))
  go_wp2
  go_ret
  exact ⟨rfl, HB5.out.trans (k4.mono HB5.out.size)⟩
end Go.Proofs.YtfekjlajagoooaaDoor
