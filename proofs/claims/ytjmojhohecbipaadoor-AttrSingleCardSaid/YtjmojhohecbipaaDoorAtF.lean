/- Layer 10: the document's long, the ways with three numbers (five parts). -/
import Derived.Test.YtjmojhohecbipaaDoorAtE
set_option linter.unusedVariables false
namespace Go.Proofs.YtjmojhohecbipaaDoor.A10
open Go.RowKit Sgr

set_option maxRecDepth 100000 in
set_option maxHeartbeats 4000000 in
theorem long_rgb2_0 (L : List (List Int)) (A : Option Addr) (n c k : Nat) (w : World) (hT : TabL w A L) (hn : n = L.length) (hl : n ≤ 9223372036854775807) (hk : k < n) (hp : 1 < (L.getD k []).length) (e1 : partV (L.getD k []) 1 = 2) (h4 : 4 < (L.getD k []).length) (h5 : ¬ 5 < (L.getD k []).length) (hfa : fitsB (partV (L.getD k []) 2) = false) :
    Calls Tryd.prog 24 #[.slice A n c, .int .i64 k] w (LongPost w (partsV (L.getD k []))) := by
  obtain ⟨a, A', C, rfl, hc, hm, hR⟩ := hT.row (k := k) (by omega)
  obtain ⟨a', rfl, hx⟩ := hR.lit (by omega)
  clear hT hR hn
  generalize L.getD k [] = p at *
  obtain ⟨m, hmp⟩ : ∃ m, m = p.length := ⟨_, rfl⟩
  have HM := Lib.hid hmp
  rw [← hmp] at hc hm hp hx
  rw [← hmp] at h4
  rw [← hmp] at h5
  have HX := Lib.hid hx
  clear hx hmp
  have HA : Hid (∀ o, Below w.heap.size w (w.alloc o)) := Lib.hid fun o => (Below.refl _ _).alloc (Nat.le_refl _) _
  have c0 := hc _ (HA.out (.cells #[.int .u8 0, .int .u32 0] 25))
  obtain ⟨x1, h1⟩ : ∃ x, x = partV p 1 := ⟨_, rfl⟩
  have H1 := Lib.hid h1
  have c1 := ((HX.out 1 (by decide) hp).1 _ (HA.out (.cells #[.int .u8 0, .int .u32 0] 25)))
  rw [← h1] at c1
  rw [← h1] at e1
  subst e1
  clear h1 hc
  have g1 : decide ((m : Int) > 1) = true := by simp; omega
  have g4 : decide ((m : Int) > 4) = true := by simp; omega
  have g5 : decide ((m : Int) > 5) = false := by simp; omega
  obtain ⟨x2, hx2⟩ : ∃ x, x = partV p 2 := ⟨_, rfl⟩
  have H2 := Lib.hid hx2
  have c2 := ((HX.out 2 (by decide) (by omega)).1 _ (HA.out (.cells #[.int .u8 0, .int .u32 0] 25)))
  rw [← hx2] at c2
  clear hx2
  obtain ⟨x3, hx3⟩ : ∃ x, x = partV p 3 := ⟨_, rfl⟩
  have H3 := Lib.hid hx3
  have c3 := ((HX.out 3 (by decide) (by omega)).1 _ (HA.out (.cells #[.int .u8 0, .int .u32 0] 25)))
  rw [← hx3] at c3
  clear hx3
  obtain ⟨x4, hx4⟩ : ∃ x, x = partV p 4 := ⟨_, rfl⟩
  have H4 := Lib.hid hx4
  have c4 := ((HX.out 4 (by decide) (by omega)).1 _ (HA.out (.cells #[.int .u8 0, .int .u32 0] 25)))
  rw [← hx4] at c4
  clear hx4
  rw [← H2.out] at hfa
  have F2 := Lib.hid (fits_is hfa)
  have HV : Hid (partsV p = (zeroC, 0, false)) := Lib.hid (by unfold partsV; rw [← H1.out, ← HM.out, if_neg (by omega), if_neg h5]; show (if _ ∧ _ ∧ fitsB (partV p 2) = true ∧ fitsB (partV p 3) = true ∧ fitsB (partV p 4) = true then (rgbV (partV p 2) (partV p 3) (partV p 4), 0, true) else (zeroC, 0, false)) = _; rw [← H2.out, ← H3.out, ← H4.out, if_neg (fun h => by rw [hfa] at h; simp at h)])
  clear hfa
  unfold LongPost
  rw [HV.out]
  go_enter Tryd.func24, Tryd.ntmps24
  go_wp2_with (first | (go_at_call 35; refine (F2.out _).mono ?_; rintro e w' ⟨rfl, rfl⟩))
  all_goals
    refine bodyPost_ret (v := .tuple #[.agg #[.int .u8 0, .int .u32 0], .int .i64 0, .bool false]) (by simp [results, Tryd.results24, go_sem]) rfl ?_
    exact ⟨rfl, HA.out _⟩
set_option maxRecDepth 100000 in
set_option maxHeartbeats 4000000 in
theorem long_rgb2_1 (L : List (List Int)) (A : Option Addr) (n c k : Nat) (w : World) (hT : TabL w A L) (hn : n = L.length) (hl : n ≤ 9223372036854775807) (hk : k < n) (hp : 1 < (L.getD k []).length) (e1 : partV (L.getD k []) 1 = 2) (h4 : 4 < (L.getD k []).length) (h5 : ¬ 5 < (L.getD k []).length) (hfa : fitsB (partV (L.getD k []) 2) = true) (hfb : fitsB (partV (L.getD k []) 3) = false) :
    Calls Tryd.prog 24 #[.slice A n c, .int .i64 k] w (LongPost w (partsV (L.getD k []))) := by
  obtain ⟨a, A', C, rfl, hc, hm, hR⟩ := hT.row (k := k) (by omega)
  obtain ⟨a', rfl, hx⟩ := hR.lit (by omega)
  clear hT hR hn
  generalize L.getD k [] = p at *
  obtain ⟨m, hmp⟩ : ∃ m, m = p.length := ⟨_, rfl⟩
  have HM := Lib.hid hmp
  rw [← hmp] at hc hm hp hx
  rw [← hmp] at h4
  rw [← hmp] at h5
  have HX := Lib.hid hx
  clear hx hmp
  have HA : Hid (∀ o, Below w.heap.size w (w.alloc o)) := Lib.hid fun o => (Below.refl _ _).alloc (Nat.le_refl _) _
  have c0 := hc _ (HA.out (.cells #[.int .u8 0, .int .u32 0] 25))
  obtain ⟨x1, h1⟩ : ∃ x, x = partV p 1 := ⟨_, rfl⟩
  have H1 := Lib.hid h1
  have c1 := ((HX.out 1 (by decide) hp).1 _ (HA.out (.cells #[.int .u8 0, .int .u32 0] 25)))
  rw [← h1] at c1
  rw [← h1] at e1
  subst e1
  clear h1 hc
  have g1 : decide ((m : Int) > 1) = true := by simp; omega
  have g4 : decide ((m : Int) > 4) = true := by simp; omega
  have g5 : decide ((m : Int) > 5) = false := by simp; omega
  obtain ⟨x2, hx2⟩ : ∃ x, x = partV p 2 := ⟨_, rfl⟩
  have H2 := Lib.hid hx2
  have c2 := ((HX.out 2 (by decide) (by omega)).1 _ (HA.out (.cells #[.int .u8 0, .int .u32 0] 25)))
  rw [← hx2] at c2
  clear hx2
  obtain ⟨x3, hx3⟩ : ∃ x, x = partV p 3 := ⟨_, rfl⟩
  have H3 := Lib.hid hx3
  have c3 := ((HX.out 3 (by decide) (by omega)).1 _ (HA.out (.cells #[.int .u8 0, .int .u32 0] 25)))
  rw [← hx3] at c3
  clear hx3
  obtain ⟨x4, hx4⟩ : ∃ x, x = partV p 4 := ⟨_, rfl⟩
  have H4 := Lib.hid hx4
  have c4 := ((HX.out 4 (by decide) (by omega)).1 _ (HA.out (.cells #[.int .u8 0, .int .u32 0] 25)))
  rw [← hx4] at c4
  clear hx4
  rw [← H2.out] at hfa
  have F2 := Lib.hid (fits_is hfa)
  rw [← H3.out] at hfb
  have F3 := Lib.hid (fits_is hfb)
  have HV : Hid (partsV p = (zeroC, 0, false)) := Lib.hid (by unfold partsV; rw [← H1.out, ← HM.out, if_neg (by omega), if_neg h5]; show (if _ ∧ _ ∧ fitsB (partV p 2) = true ∧ fitsB (partV p 3) = true ∧ fitsB (partV p 4) = true then (rgbV (partV p 2) (partV p 3) (partV p 4), 0, true) else (zeroC, 0, false)) = _; rw [← H2.out, ← H3.out, ← H4.out, if_neg (fun h => by rw [hfb] at h; simp at h)])
  clear hfa hfb
  unfold LongPost
  rw [HV.out]
  go_enter Tryd.func24, Tryd.ntmps24
  go_wp2_with (first | (go_at_call 35; refine (F2.out _).mono ?_; rintro e w' ⟨rfl, rfl⟩) | (go_at_call 35; refine (F3.out _).mono ?_; rintro e w' ⟨rfl, rfl⟩))
  all_goals
    refine bodyPost_ret (v := .tuple #[.agg #[.int .u8 0, .int .u32 0], .int .i64 0, .bool false]) (by simp [results, Tryd.results24, go_sem]) rfl ?_
    exact ⟨rfl, HA.out _⟩
set_option maxRecDepth 100000 in
set_option maxHeartbeats 4000000 in
theorem long_rgb2_2 (L : List (List Int)) (A : Option Addr) (n c k : Nat) (w : World) (hT : TabL w A L) (hn : n = L.length) (hl : n ≤ 9223372036854775807) (hk : k < n) (hp : 1 < (L.getD k []).length) (e1 : partV (L.getD k []) 1 = 2) (h4 : 4 < (L.getD k []).length) (h5 : ¬ 5 < (L.getD k []).length) (hfa : fitsB (partV (L.getD k []) 2) = true) (hfb : fitsB (partV (L.getD k []) 3) = true) (hfc : fitsB (partV (L.getD k []) 4) = false) :
    Calls Tryd.prog 24 #[.slice A n c, .int .i64 k] w (LongPost w (partsV (L.getD k []))) := by
  obtain ⟨a, A', C, rfl, hc, hm, hR⟩ := hT.row (k := k) (by omega)
  obtain ⟨a', rfl, hx⟩ := hR.lit (by omega)
  clear hT hR hn
  generalize L.getD k [] = p at *
  obtain ⟨m, hmp⟩ : ∃ m, m = p.length := ⟨_, rfl⟩
  have HM := Lib.hid hmp
  rw [← hmp] at hc hm hp hx
  rw [← hmp] at h4
  rw [← hmp] at h5
  have HX := Lib.hid hx
  clear hx hmp
  have HA : Hid (∀ o, Below w.heap.size w (w.alloc o)) := Lib.hid fun o => (Below.refl _ _).alloc (Nat.le_refl _) _
  have c0 := hc _ (HA.out (.cells #[.int .u8 0, .int .u32 0] 25))
  obtain ⟨x1, h1⟩ : ∃ x, x = partV p 1 := ⟨_, rfl⟩
  have H1 := Lib.hid h1
  have c1 := ((HX.out 1 (by decide) hp).1 _ (HA.out (.cells #[.int .u8 0, .int .u32 0] 25)))
  rw [← h1] at c1
  rw [← h1] at e1
  subst e1
  clear h1 hc
  have g1 : decide ((m : Int) > 1) = true := by simp; omega
  have g4 : decide ((m : Int) > 4) = true := by simp; omega
  have g5 : decide ((m : Int) > 5) = false := by simp; omega
  obtain ⟨x2, hx2⟩ : ∃ x, x = partV p 2 := ⟨_, rfl⟩
  have H2 := Lib.hid hx2
  have c2 := ((HX.out 2 (by decide) (by omega)).1 _ (HA.out (.cells #[.int .u8 0, .int .u32 0] 25)))
  rw [← hx2] at c2
  clear hx2
  obtain ⟨x3, hx3⟩ : ∃ x, x = partV p 3 := ⟨_, rfl⟩
  have H3 := Lib.hid hx3
  have c3 := ((HX.out 3 (by decide) (by omega)).1 _ (HA.out (.cells #[.int .u8 0, .int .u32 0] 25)))
  rw [← hx3] at c3
  clear hx3
  obtain ⟨x4, hx4⟩ : ∃ x, x = partV p 4 := ⟨_, rfl⟩
  have H4 := Lib.hid hx4
  have c4 := ((HX.out 4 (by decide) (by omega)).1 _ (HA.out (.cells #[.int .u8 0, .int .u32 0] 25)))
  rw [← hx4] at c4
  clear hx4
  rw [← H2.out] at hfa
  have F2 := Lib.hid (fits_is hfa)
  rw [← H3.out] at hfb
  have F3 := Lib.hid (fits_is hfb)
  rw [← H4.out] at hfc
  have F4 := Lib.hid (fits_is hfc)
  have HV : Hid (partsV p = (zeroC, 0, false)) := Lib.hid (by unfold partsV; rw [← H1.out, ← HM.out, if_neg (by omega), if_neg h5]; show (if _ ∧ _ ∧ fitsB (partV p 2) = true ∧ fitsB (partV p 3) = true ∧ fitsB (partV p 4) = true then (rgbV (partV p 2) (partV p 3) (partV p 4), 0, true) else (zeroC, 0, false)) = _; rw [← H2.out, ← H3.out, ← H4.out, if_neg (fun h => by rw [hfc] at h; simp at h)])
  clear hfa hfb hfc
  unfold LongPost
  rw [HV.out]
  go_enter Tryd.func24, Tryd.ntmps24
  go_wp2_with (first | (go_at_call 35; refine (F2.out _).mono ?_; rintro e w' ⟨rfl, rfl⟩) | (go_at_call 35; refine (F3.out _).mono ?_; rintro e w' ⟨rfl, rfl⟩) | (go_at_call 35; refine (F4.out _).mono ?_; rintro e w' ⟨rfl, rfl⟩))
  all_goals
    refine bodyPost_ret (v := .tuple #[.agg #[.int .u8 0, .int .u32 0], .int .i64 0, .bool false]) (by simp [results, Tryd.results24, go_sem]) rfl ?_
    exact ⟨rfl, HA.out _⟩
set_option maxRecDepth 100000 in
set_option maxHeartbeats 4000000 in
theorem long_rgb2_3 (L : List (List Int)) (A : Option Addr) (n c k : Nat) (w : World) (hT : TabL w A L) (hn : n = L.length) (hl : n ≤ 9223372036854775807) (hk : k < n) (hp : 1 < (L.getD k []).length) (e1 : partV (L.getD k []) 1 = 2) (h4 : 4 < (L.getD k []).length) (h5 : ¬ 5 < (L.getD k []).length) (hfa : fitsB (partV (L.getD k []) 2) = true) (hfb : fitsB (partV (L.getD k []) 3) = true) (hfc : fitsB (partV (L.getD k []) 4) = true) :
    Calls Tryd.prog 24 #[.slice A n c, .int .i64 k] w (LongPost w (partsV (L.getD k []))) := by
  obtain ⟨a, A', C, rfl, hc, hm, hR⟩ := hT.row (k := k) (by omega)
  obtain ⟨a', rfl, hx⟩ := hR.lit (by omega)
  clear hT hR hn
  generalize L.getD k [] = p at *
  obtain ⟨m, hmp⟩ : ∃ m, m = p.length := ⟨_, rfl⟩
  have HM := Lib.hid hmp
  rw [← hmp] at hc hm hp hx
  rw [← hmp] at h4
  rw [← hmp] at h5
  have HX := Lib.hid hx
  clear hx hmp
  have HA : Hid (∀ o, Below w.heap.size w (w.alloc o)) := Lib.hid fun o => (Below.refl _ _).alloc (Nat.le_refl _) _
  have c0 := hc _ (HA.out (.cells #[.int .u8 0, .int .u32 0] 25))
  obtain ⟨x1, h1⟩ : ∃ x, x = partV p 1 := ⟨_, rfl⟩
  have H1 := Lib.hid h1
  have c1 := ((HX.out 1 (by decide) hp).1 _ (HA.out (.cells #[.int .u8 0, .int .u32 0] 25)))
  rw [← h1] at c1
  rw [← h1] at e1
  subst e1
  clear h1 hc
  have g1 : decide ((m : Int) > 1) = true := by simp; omega
  have g4 : decide ((m : Int) > 4) = true := by simp; omega
  have g5 : decide ((m : Int) > 5) = false := by simp; omega
  obtain ⟨x2, hx2⟩ : ∃ x, x = partV p 2 := ⟨_, rfl⟩
  have H2 := Lib.hid hx2
  have c2 := ((HX.out 2 (by decide) (by omega)).1 _ (HA.out (.cells #[.int .u8 0, .int .u32 0] 25)))
  rw [← hx2] at c2
  clear hx2
  obtain ⟨x3, hx3⟩ : ∃ x, x = partV p 3 := ⟨_, rfl⟩
  have H3 := Lib.hid hx3
  have c3 := ((HX.out 3 (by decide) (by omega)).1 _ (HA.out (.cells #[.int .u8 0, .int .u32 0] 25)))
  rw [← hx3] at c3
  clear hx3
  obtain ⟨x4, hx4⟩ : ∃ x, x = partV p 4 := ⟨_, rfl⟩
  have H4 := Lib.hid hx4
  have c4 := ((HX.out 4 (by decide) (by omega)).1 _ (HA.out (.cells #[.int .u8 0, .int .u32 0] 25)))
  rw [← hx4] at c4
  clear hx4
  rw [← H2.out] at hfa
  have F2 := Lib.hid (fits_is hfa)
  rw [← H3.out] at hfb
  have F3 := Lib.hid (fits_is hfb)
  rw [← H4.out] at hfc
  have F4 := Lib.hid (fits_is hfc)
  have hb2 := fits_iff.1 hfa
  obtain ⟨r, rfl⟩ : ∃ r : Nat, x2 = r := ⟨x2.toNat, by omega⟩
  have hb3 := fits_iff.1 hfb
  obtain ⟨g, rfl⟩ : ∃ g : Nat, x3 = g := ⟨x3.toNat, by omega⟩
  have hb4 := fits_iff.1 hfc
  obtain ⟨b, rfl⟩ : ∃ b : Nat, x4 = b := ⟨x4.toNat, by omega⟩
  have HV : Hid (partsV p = (⟨2, 65536 * r + 256 * g + b⟩, 0, true)) := Lib.hid (by unfold partsV; rw [← H1.out, ← HM.out, if_neg (by omega), if_neg h5]; show (if _ ∧ _ ∧ fitsB (partV p 2) = true ∧ fitsB (partV p 3) = true ∧ fitsB (partV p 4) = true then (rgbV (partV p 2) (partV p 3) (partV p 4), 0, true) else (zeroC, 0, false)) = _; rw [← H2.out, ← H3.out, ← H4.out, if_pos ⟨rfl, h4, hfa, hfb, hfc⟩]; simp [rgbV])
  have HN : Hid (((65536 * r + 256 * g + b : Nat) : Int) = 65536 * (r : Int) + 256 * (g : Int) + (b : Int)) := Lib.hid (by omega)
  clear hfa hfb hfc
  have y1 : IntKind.i64.wrap (65536 * (r : Int)) = 65536 * (r : Int) := IntWalk.i64_in _ (by omega)
  have y2 : IntKind.i64.wrap (256 * (g : Int)) = 256 * (g : Int) := IntWalk.i64_in _ (by omega)
  have y3 : IntKind.i64.wrap (65536 * (r : Int) + 256 * (g : Int)) = 65536 * (r : Int) + 256 * (g : Int) := IntWalk.i64_in _ (by omega)
  have y4 : IntKind.i64.wrap (65536 * (r : Int) + 256 * (g : Int) + (b : Int)) = 65536 * (r : Int) + 256 * (g : Int) + (b : Int) := IntWalk.i64_in _ (by omega)
  have y5 : IntKind.u32.wrap (65536 * (r : Int) + 256 * (g : Int) + (b : Int)) = 65536 * (r : Int) + 256 * (g : Int) + (b : Int) := IntWalk.u32_in _ (by omega)
  have HYs := Lib.hid (And.intro y1 (And.intro y2 (And.intro y3 (And.intro y4 y5))))
  clear y1 y2 y3 y4 y5
  unfold LongPost
  rw [HV.out]
  go_enter Tryd.func24, Tryd.ntmps24
  go_wp2_with (first | (go_at_call 35; refine (F2.out _).mono ?_; rintro e w' ⟨rfl, rfl⟩) | (go_at_call 35; refine (F3.out _).mono ?_; rintro e w' ⟨rfl, rfl⟩) | (go_at_call 35; refine (F4.out _).mono ?_; rintro e w' ⟨rfl, rfl⟩))
  obtain ⟨y1, y2, y3, y4, y5⟩ := HYs.out
  have d2 : ∀ V, Below w.heap.size w V → V.cell? ⟨a'.block, a'.off + 2, none⟩ = some (.int .i64 (r : Int)) := fun V hV => ((HX.out 2 (by decide) (by omega)).1 V hV).trans (by rw [H2.out])
  have d2' : ∀ V, Below w.heap.size w V → V.cell? (a'.add 2) = some (.int .i64 (r : Int)) := fun V hV => by rw [add_pos a' (i := 2) (by decide)]; exact d2 V hV
  have l2 : (2 : Int) < m := by omega
  have d3 : ∀ V, Below w.heap.size w V → V.cell? ⟨a'.block, a'.off + 3, none⟩ = some (.int .i64 (g : Int)) := fun V hV => ((HX.out 3 (by decide) (by omega)).1 V hV).trans (by rw [H3.out])
  have d3' : ∀ V, Below w.heap.size w V → V.cell? (a'.add 3) = some (.int .i64 (g : Int)) := fun V hV => by rw [add_pos a' (i := 3) (by decide)]; exact d3 V hV
  have l3 : (3 : Int) < m := by omega
  have d4 : ∀ V, Below w.heap.size w V → V.cell? ⟨a'.block, a'.off + 4, none⟩ = some (.int .i64 (b : Int)) := fun V hV => ((HX.out 4 (by decide) (by omega)).1 V hV).trans (by rw [H4.out])
  have d4' : ∀ V, Below w.heap.size w V → V.cell? (a'.add 4) = some (.int .i64 (b : Int)) := fun V hV => by rw [add_pos a' (i := 4) (by decide)]; exact d4 V hV
  have l4 : (4 : Int) < m := by omega
  have v3 : IntKind.i64.wrap 3 = 3 := IntWalk.i64_in _ (by omega)
  have u3 : IntKind.i64.wrap (2 + 1) = 3 := IntWalk.i64_in _ (by omega)
  have v4 : IntKind.i64.wrap 4 = 4 := IntWalk.i64_in _ (by omega)
  have u4 : IntKind.i64.wrap (2 + 2) = 4 := IntWalk.i64_in _ (by omega)
  have kd : Below w.heap.size w (w.alloc (.cells #[.int .u8 0, .int .u32 0] 25)).drew := below_drew (HA.out _) 1
  clear c0 c1 c2 c3 c4 F2 F3 F4
  go_region_held3 (fun V => Below w.heap.size w V)
    (first | assumption | exact below_drew (HA.out _) 1)
    (fail)
  go_wp2
  refine bodyPost_ret (v := .tuple #[.agg #[.int .u8 2, .int .u32 (65536 * (r : Int) + 256 * (g : Int) + (b : Int))], .int .i64 0, .bool true]) (by simp [results, Tryd.results24, go_sem]) rfl ?_
  exact ⟨by unfold coA; rw [HN.out]; rfl, below_drew (HA.out _) 1⟩
end Go.Proofs.YtjmojhohecbipaaDoor.A10
