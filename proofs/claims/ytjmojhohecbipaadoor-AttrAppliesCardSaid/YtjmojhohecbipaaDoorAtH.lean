/- Layer 10: the document's long where nothing but a number stands ahead. -/
import Derived.Test.YtjmojhohecbipaaDoorAtE
set_option linter.unusedVariables false
namespace Go.Proofs.YtjmojhohecbipaaDoor.A10
open Go.RowKit Sgr

theorem TabL.rows {w : World} {A : Option Addr} {L : List (List Int)} (h : TabL w A L) {r : Nat} (hr : r < L.length) : ∃ a, A = some a ∧ ∀ k, k < L.length → ∃ A' C, (∀ V, Below w.heap.size w V → V.cell? (a.add k) = some (.slice A' (L.getD k []).length C)) ∧ (L.getD k []).length ≤ 9223372036854775807 ∧ RowL w A' (L.getD k []) := by
  obtain ⟨a, A', C, e, _⟩ := h r hr
  refine ⟨a, e, fun k hk => ?_⟩
  obtain ⟨a2, A2, C2, e2, h1, h2, h3⟩ := h.row hk
  obtain rfl : a2 = a := Option.some.inj (e2.symm.trans e)
  exact ⟨A2, C2, h1, h2, h3⟩
theorem head_drop (L : List (List Int)) (k j : Nat) : headV (L.drop (k + 1)) j = partV (L.getD (k + (j + 1)) []) 0 := by
  unfold headV
  rw [List.getD_eq_getElem?_getD, List.getElem?_drop, List.getD_eq_getElem?_getD, show k + 1 + j = k + (j + 1) by omega]
set_option maxRecDepth 100000 in
set_option maxHeartbeats 4000000 in
theorem behind_none (L : List (List Int)) (A : Option Addr) (n c k : Nat) (w : World) (hT : TabL w A L) (hn : n = L.length) (hl : n ≤ 9223372036854775807) (hk : k < n) (hp : ¬ 1 < (L.getD k []).length) (h0 : k + 1 ≤ n) (h9 : n ≤ k + 1) :
    Calls Tryd.prog 24 #[.slice A n c, .int .i64 k] w (LongPost w (behindV (L.drop (k + 1)))) := by
  have HA : Hid (∀ o, Below w.heap.size w (w.alloc o)) := Lib.hid fun o => (Below.refl _ _).alloc (Nat.le_refl _) _
  obtain ⟨a, rfl, hrow⟩ := hT.rows (r := k) (by omega)
  obtain ⟨A0, C0, hc0, hm0, hR0⟩ := hrow k (by omega)
  have c0 := hc0 _ (HA.out (.cells #[.int .u8 0, .int .u32 0] 25))
  generalize (L.getD k []).length = m0 at *
  have g1 : decide ((m0 : Int) > 1) = false := by simp; omega
  have hlen : (L.drop (k + 1)).length = n - (k + 1) := by rw [List.length_drop, hn]
  have HL := Lib.hid hlen
  have f0 : ((n : Int) - k - 1 == 0) = true := by simp; omega
  have HV : Hid (behindV (L.drop (k + 1)) = (zeroC, 0, false)) := Lib.hid (by unfold behindV; rw [HL.out, if_pos (by omega)])
  unfold LongPost
  rw [HV.out]
  clear hrow hT hn hc0 hR0 hlen
  go_enter Tryd.func24, Tryd.ntmps24
  go_wp2_with (fail)
  refine bodyPost_ret (v := .tuple #[.agg #[.int .u8 0, .int .u32 0], .int .i64 0, .bool false]) (by simp [results, Tryd.results24, go_sem]) rfl ?_
  exact ⟨rfl, HA.out _⟩
set_option maxRecDepth 100000 in
set_option maxHeartbeats 4000000 in
theorem behind_five_few (L : List (List Int)) (A : Option Addr) (n c k : Nat) (w : World) (hT : TabL w A L) (hn : n = L.length) (hl : n ≤ 9223372036854775807) (hk : k < n) (hp : ¬ 1 < (L.getD k []).length) (h0 : k + 2 ≤ n) (h9 : n ≤ k + 2) (h1 : headV (L.drop (k + 1)) 0 = 5) :
    Calls Tryd.prog 24 #[.slice A n c, .int .i64 k] w (LongPost w (behindV (L.drop (k + 1)))) := by
  have HA : Hid (∀ o, Below w.heap.size w (w.alloc o)) := Lib.hid fun o => (Below.refl _ _).alloc (Nat.le_refl _) _
  obtain ⟨a, rfl, hrow⟩ := hT.rows (r := k) (by omega)
  obtain ⟨A0, C0, hc0, hm0, hR0⟩ := hrow k (by omega)
  have c0 := hc0 _ (HA.out (.cells #[.int .u8 0, .int .u32 0] 25))
  generalize (L.getD k []).length = m0 at *
  have g1 : decide ((m0 : Int) > 1) = false := by simp; omega
  obtain ⟨A1, C1, hc1, hm1, hR1⟩ := hrow (k + 1) (by omega)
  rw [add_pos a (i := k + 1) (by omega)] at hc1
  obtain ⟨m1, hmm1⟩ : ∃ m, m = (L.getD (k + 1) []).length := ⟨_, rfl⟩
  rw [← hmm1] at hc1 hm1
  have c1 := hc1 _ (HA.out (.cells #[.int .u8 0, .int .u32 0] 25))
  have d1 : ∀ i, ((w.alloc (.cells #[.int .u8 0, .int .u32 0] 25)).drewN i).cell? ⟨a.block, a.off + (k + 1), none⟩ = some (.slice A1 m1 C1) := fun i => hc1 _ (below_drew (HA.out _) i)
  obtain ⟨q1, hq1⟩ : ∃ x, x = headV (L.drop (k + 1)) 0 := ⟨_, rfl⟩
  have e1 : partV (L.getD (k + 1) []) 0 = q1 := by rw [hq1, head_drop]
  have P1 : Hid (∀ V, Below w.heap.size w V → Calls Tryd.prog 23 #[.slice A1 m1 C1, .int .i64 0] V fun e w' => e = .returned (.int .i64 q1) ∧ V = w') := Lib.hid fun V hV => by have := part_any (L.getD (k + 1) []) A1 _ C1 0 V (hR1.below hV) hmm1 hm1 (by decide); rw [e1] at this; exact this
  have Q1 := Lib.hid (P1.out _ (HA.out (.cells #[.int .u8 0, .int .u32 0] 25)))
  have D1 : Hid (∀ i, Calls Tryd.prog 23 #[.slice A1 m1 C1, .int .i64 0] ((w.alloc (.cells #[.int .u8 0, .int .u32 0] 25)).drewN i) fun e w' => e = .returned (.int .i64 q1) ∧ (w.alloc (.cells #[.int .u8 0, .int .u32 0] 25)).drewN i = w') := Lib.hid fun i => P1.out _ (below_drew (HA.out _) i)
  have H1 := Lib.hid hq1
  clear hc1 hR1 e1 hmm1
  have hlen : (L.drop (k + 1)).length = n - (k + 1) := by rw [List.length_drop, hn]
  have HL := Lib.hid hlen
  have f0 : ((n : Int) - k - 1 == 0) = false := by simp; omega
  have f2 : decide ((n : Int) - k - 1 < 2) = true := by simp; omega
  have HV : Hid (behindV (L.drop (k + 1)) = (zeroC, 1, false)) := Lib.hid (by unfold behindV; rw [HL.out, if_neg (by omega), if_pos h1, if_pos (by omega), show n - (k + 1) = 1 by omega])
  have HN : Hid ((n : Int) - k - 1 = 1) := Lib.hid (by omega)
  rw [h1] at hq1
  subst hq1
  unfold LongPost
  rw [HV.out]
  clear hrow hT hn hc0 hR0 hlen hm1
  clear h1
  go_enter Tryd.func24, Tryd.ntmps24
  clear d1
  go_wp2_with fail
  refine (show Calls _ _ _ _ _ from Q1.out).mono ?_
  rintro e w' ⟨rfl, rfl⟩
  clear c1 Q1 D1 P1
  go_wp2_with (fail)
  refine bodyPost_ret (v := .tuple #[.agg #[.int .u8 0, .int .u32 0], .int .i64 ((n : Int) - k - 1), .bool false]) (by simp [results, Tryd.results24, go_sem]) rfl ?_
  exact ⟨by rw [HN.out]; rfl, HA.out _⟩
set_option maxRecDepth 100000 in
set_option maxHeartbeats 4000000 in
theorem behind_five_no (L : List (List Int)) (A : Option Addr) (n c k : Nat) (w : World) (hT : TabL w A L) (hn : n = L.length) (hl : n ≤ 9223372036854775807) (hk : k < n) (hp : ¬ 1 < (L.getD k []).length) (h0 : k + 3 ≤ n) (h1 : headV (L.drop (k + 1)) 0 = 5) (hf : fitsB (headV (L.drop (k + 1)) 1) = false) :
    Calls Tryd.prog 24 #[.slice A n c, .int .i64 k] w (LongPost w (behindV (L.drop (k + 1)))) := by
  have HA : Hid (∀ o, Below w.heap.size w (w.alloc o)) := Lib.hid fun o => (Below.refl _ _).alloc (Nat.le_refl _) _
  obtain ⟨a, rfl, hrow⟩ := hT.rows (r := k) (by omega)
  obtain ⟨A0, C0, hc0, hm0, hR0⟩ := hrow k (by omega)
  have c0 := hc0 _ (HA.out (.cells #[.int .u8 0, .int .u32 0] 25))
  generalize (L.getD k []).length = m0 at *
  have g1 : decide ((m0 : Int) > 1) = false := by simp; omega
  obtain ⟨A1, C1, hc1, hm1, hR1⟩ := hrow (k + 1) (by omega)
  rw [add_pos a (i := k + 1) (by omega)] at hc1
  obtain ⟨m1, hmm1⟩ : ∃ m, m = (L.getD (k + 1) []).length := ⟨_, rfl⟩
  rw [← hmm1] at hc1 hm1
  have c1 := hc1 _ (HA.out (.cells #[.int .u8 0, .int .u32 0] 25))
  have d1 : ∀ i, ((w.alloc (.cells #[.int .u8 0, .int .u32 0] 25)).drewN i).cell? ⟨a.block, a.off + (k + 1), none⟩ = some (.slice A1 m1 C1) := fun i => hc1 _ (below_drew (HA.out _) i)
  obtain ⟨q1, hq1⟩ : ∃ x, x = headV (L.drop (k + 1)) 0 := ⟨_, rfl⟩
  have e1 : partV (L.getD (k + 1) []) 0 = q1 := by rw [hq1, head_drop]
  have P1 : Hid (∀ V, Below w.heap.size w V → Calls Tryd.prog 23 #[.slice A1 m1 C1, .int .i64 0] V fun e w' => e = .returned (.int .i64 q1) ∧ V = w') := Lib.hid fun V hV => by have := part_any (L.getD (k + 1) []) A1 _ C1 0 V (hR1.below hV) hmm1 hm1 (by decide); rw [e1] at this; exact this
  have Q1 := Lib.hid (P1.out _ (HA.out (.cells #[.int .u8 0, .int .u32 0] 25)))
  have D1 : Hid (∀ i, Calls Tryd.prog 23 #[.slice A1 m1 C1, .int .i64 0] ((w.alloc (.cells #[.int .u8 0, .int .u32 0] 25)).drewN i) fun e w' => e = .returned (.int .i64 q1) ∧ (w.alloc (.cells #[.int .u8 0, .int .u32 0] 25)).drewN i = w') := Lib.hid fun i => P1.out _ (below_drew (HA.out _) i)
  have H1 := Lib.hid hq1
  clear hc1 hR1 e1 hmm1
  obtain ⟨A2, C2, hc2, hm2, hR2⟩ := hrow (k + 2) (by omega)
  rw [add_pos a (i := k + 2) (by omega)] at hc2
  obtain ⟨m2, hmm2⟩ : ∃ m, m = (L.getD (k + 2) []).length := ⟨_, rfl⟩
  rw [← hmm2] at hc2 hm2
  have c2 := hc2 _ (HA.out (.cells #[.int .u8 0, .int .u32 0] 25))
  have d2 : ∀ i, ((w.alloc (.cells #[.int .u8 0, .int .u32 0] 25)).drewN i).cell? ⟨a.block, a.off + (k + 2), none⟩ = some (.slice A2 m2 C2) := fun i => hc2 _ (below_drew (HA.out _) i)
  obtain ⟨q2, hq2⟩ : ∃ x, x = headV (L.drop (k + 1)) 1 := ⟨_, rfl⟩
  have e2 : partV (L.getD (k + 2) []) 0 = q2 := by rw [hq2, head_drop]
  have P2 : Hid (∀ V, Below w.heap.size w V → Calls Tryd.prog 23 #[.slice A2 m2 C2, .int .i64 0] V fun e w' => e = .returned (.int .i64 q2) ∧ V = w') := Lib.hid fun V hV => by have := part_any (L.getD (k + 2) []) A2 _ C2 0 V (hR2.below hV) hmm2 hm2 (by decide); rw [e2] at this; exact this
  have Q2 := Lib.hid (P2.out _ (HA.out (.cells #[.int .u8 0, .int .u32 0] 25)))
  have D2 : Hid (∀ i, Calls Tryd.prog 23 #[.slice A2 m2 C2, .int .i64 0] ((w.alloc (.cells #[.int .u8 0, .int .u32 0] 25)).drewN i) fun e w' => e = .returned (.int .i64 q2) ∧ (w.alloc (.cells #[.int .u8 0, .int .u32 0] 25)).drewN i = w') := Lib.hid fun i => P2.out _ (below_drew (HA.out _) i)
  have H2 := Lib.hid hq2
  clear hc2 hR2 e2 hmm2
  have hlen : (L.drop (k + 1)).length = n - (k + 1) := by rw [List.length_drop, hn]
  have HL := Lib.hid hlen
  have f0 : ((n : Int) - k - 1 == 0) = false := by simp; omega
  have f2 : decide ((n : Int) - k - 1 < 2) = false := by simp; omega
  rw [← hq2] at hf
  have F2 := Lib.hid (fits_is hf)
  have HV : Hid (behindV (L.drop (k + 1)) = (zeroC, 2, false)) := Lib.hid (by unfold behindV; rw [HL.out, if_neg (by omega), if_pos h1, if_neg (by omega), ← H2.out, hf]; simp)
  rw [h1] at hq1
  subst hq1
  clear hf
  have w2 : IntKind.i64.wrap ((k : Int) + 2) = (k : Int) + 2 := IntWalk.i64_in _ (by omega)
  have u2 : (0 : Int) ≤ (k : Int) + 2 := by omega
  have v2 : ((k : Int) + 2) < n := by omega
  have t2 : ((k : Int) + 2).toNat = k + 2 := by omega
  unfold LongPost
  rw [HV.out]
  clear hrow hT hn hc0 hR0 hlen hm1 hq2 hm2
  clear h1
  go_enter Tryd.func24, Tryd.ntmps24
  clear d1 d2
  go_wp2_with fail
  refine (show Calls _ _ _ _ _ from Q1.out).mono ?_
  rintro e w' ⟨rfl, rfl⟩
  clear c1 Q1 D1 P1
  go_wp2_with fail
  refine (show Calls _ _ _ _ _ from Q2.out).mono ?_
  rintro e w' ⟨rfl, rfl⟩
  clear c2 Q2 D2 P2
  go_wp2_with (first | (go_at_call 35; refine (F2.out _).mono ?_; rintro e w' ⟨rfl, rfl⟩))
  refine bodyPost_ret (v := .tuple #[.agg #[.int .u8 0, .int .u32 0], .int .i64 2, .bool false]) (by simp [results, Tryd.results24, go_sem]) rfl ?_
  exact ⟨rfl, HA.out _⟩
set_option maxRecDepth 100000 in
set_option maxHeartbeats 4000000 in
theorem behind_five_yes (L : List (List Int)) (A : Option Addr) (n c k : Nat) (w : World) (hT : TabL w A L) (hn : n = L.length) (hl : n ≤ 9223372036854775807) (hk : k < n) (hp : ¬ 1 < (L.getD k []).length) (h0 : k + 3 ≤ n) (h1 : headV (L.drop (k + 1)) 0 = 5) (hf : fitsB (headV (L.drop (k + 1)) 1) = true) :
    Calls Tryd.prog 24 #[.slice A n c, .int .i64 k] w (LongPost w (behindV (L.drop (k + 1)))) := by
  have HA : Hid (∀ o, Below w.heap.size w (w.alloc o)) := Lib.hid fun o => (Below.refl _ _).alloc (Nat.le_refl _) _
  obtain ⟨a, rfl, hrow⟩ := hT.rows (r := k) (by omega)
  obtain ⟨A0, C0, hc0, hm0, hR0⟩ := hrow k (by omega)
  have c0 := hc0 _ (HA.out (.cells #[.int .u8 0, .int .u32 0] 25))
  generalize (L.getD k []).length = m0 at *
  have g1 : decide ((m0 : Int) > 1) = false := by simp; omega
  obtain ⟨A1, C1, hc1, hm1, hR1⟩ := hrow (k + 1) (by omega)
  rw [add_pos a (i := k + 1) (by omega)] at hc1
  obtain ⟨m1, hmm1⟩ : ∃ m, m = (L.getD (k + 1) []).length := ⟨_, rfl⟩
  rw [← hmm1] at hc1 hm1
  have c1 := hc1 _ (HA.out (.cells #[.int .u8 0, .int .u32 0] 25))
  have d1 : ∀ i, ((w.alloc (.cells #[.int .u8 0, .int .u32 0] 25)).drewN i).cell? ⟨a.block, a.off + (k + 1), none⟩ = some (.slice A1 m1 C1) := fun i => hc1 _ (below_drew (HA.out _) i)
  obtain ⟨q1, hq1⟩ : ∃ x, x = headV (L.drop (k + 1)) 0 := ⟨_, rfl⟩
  have e1 : partV (L.getD (k + 1) []) 0 = q1 := by rw [hq1, head_drop]
  have P1 : Hid (∀ V, Below w.heap.size w V → Calls Tryd.prog 23 #[.slice A1 m1 C1, .int .i64 0] V fun e w' => e = .returned (.int .i64 q1) ∧ V = w') := Lib.hid fun V hV => by have := part_any (L.getD (k + 1) []) A1 _ C1 0 V (hR1.below hV) hmm1 hm1 (by decide); rw [e1] at this; exact this
  have Q1 := Lib.hid (P1.out _ (HA.out (.cells #[.int .u8 0, .int .u32 0] 25)))
  have D1 : Hid (∀ i, Calls Tryd.prog 23 #[.slice A1 m1 C1, .int .i64 0] ((w.alloc (.cells #[.int .u8 0, .int .u32 0] 25)).drewN i) fun e w' => e = .returned (.int .i64 q1) ∧ (w.alloc (.cells #[.int .u8 0, .int .u32 0] 25)).drewN i = w') := Lib.hid fun i => P1.out _ (below_drew (HA.out _) i)
  have H1 := Lib.hid hq1
  clear hc1 hR1 e1 hmm1
  obtain ⟨A2, C2, hc2, hm2, hR2⟩ := hrow (k + 2) (by omega)
  rw [add_pos a (i := k + 2) (by omega)] at hc2
  obtain ⟨m2, hmm2⟩ : ∃ m, m = (L.getD (k + 2) []).length := ⟨_, rfl⟩
  rw [← hmm2] at hc2 hm2
  have c2 := hc2 _ (HA.out (.cells #[.int .u8 0, .int .u32 0] 25))
  have d2 : ∀ i, ((w.alloc (.cells #[.int .u8 0, .int .u32 0] 25)).drewN i).cell? ⟨a.block, a.off + (k + 2), none⟩ = some (.slice A2 m2 C2) := fun i => hc2 _ (below_drew (HA.out _) i)
  obtain ⟨q2, hq2⟩ : ∃ x, x = headV (L.drop (k + 1)) 1 := ⟨_, rfl⟩
  have e2 : partV (L.getD (k + 2) []) 0 = q2 := by rw [hq2, head_drop]
  have P2 : Hid (∀ V, Below w.heap.size w V → Calls Tryd.prog 23 #[.slice A2 m2 C2, .int .i64 0] V fun e w' => e = .returned (.int .i64 q2) ∧ V = w') := Lib.hid fun V hV => by have := part_any (L.getD (k + 2) []) A2 _ C2 0 V (hR2.below hV) hmm2 hm2 (by decide); rw [e2] at this; exact this
  have Q2 := Lib.hid (P2.out _ (HA.out (.cells #[.int .u8 0, .int .u32 0] 25)))
  have D2 : Hid (∀ i, Calls Tryd.prog 23 #[.slice A2 m2 C2, .int .i64 0] ((w.alloc (.cells #[.int .u8 0, .int .u32 0] 25)).drewN i) fun e w' => e = .returned (.int .i64 q2) ∧ (w.alloc (.cells #[.int .u8 0, .int .u32 0] 25)).drewN i = w') := Lib.hid fun i => P2.out _ (below_drew (HA.out _) i)
  have H2 := Lib.hid hq2
  clear hc2 hR2 e2 hmm2
  have hlen : (L.drop (k + 1)).length = n - (k + 1) := by rw [List.length_drop, hn]
  have HL := Lib.hid hlen
  have f0 : ((n : Int) - k - 1 == 0) = false := by simp; omega
  have f2 : decide ((n : Int) - k - 1 < 2) = false := by simp; omega
  rw [← hq2] at hf
  have F2 := Lib.hid (fits_is hf)
  have hb := fits_iff.1 hf
  obtain ⟨b, rfl⟩ : ∃ b : Nat, q2 = b := ⟨q2.toNat, by omega⟩
  have HV : Hid (behindV (L.drop (k + 1)) = (⟨1, b⟩, 2, true)) := Lib.hid (by unfold behindV; rw [HL.out, if_neg (by omega), if_pos h1, if_neg (by omega), ← H2.out, if_pos hf]; simp [tabV])
  rw [h1] at hq1
  subst hq1
  clear hf
  have w2 : IntKind.i64.wrap ((k : Int) + 2) = (k : Int) + 2 := IntWalk.i64_in _ (by omega)
  have u2 : (0 : Int) ≤ (k : Int) + 2 := by omega
  have v2 : ((k : Int) + 2) < n := by omega
  have t2 : ((k : Int) + 2).toNat = k + 2 := by omega
  unfold LongPost
  rw [HV.out]
  clear hrow hT hn hc0 hR0 hlen hm1 hq2 hm2
  clear h1
  go_enter Tryd.func24, Tryd.ntmps24
  clear d1 d2
  go_wp2_with fail
  refine (show Calls _ _ _ _ _ from Q1.out).mono ?_
  rintro e w' ⟨rfl, rfl⟩
  clear c1 Q1 D1 P1
  go_wp2_with fail
  refine (show Calls _ _ _ _ _ from Q2.out).mono ?_
  rintro e w' ⟨rfl, rfl⟩
  clear c2 Q2 D2 P2
  go_wp2_with (first | (go_at_call 35; refine (F2.out _).mono ?_; rintro e w' ⟨rfl, rfl⟩))
  refine bodyPost_ret (v := .tuple #[.agg #[.int .u8 1, .int .u32 (b : Int)], .int .i64 2, .bool true]) (by simp [results, Tryd.results24, go_sem]) rfl ?_
  exact ⟨rfl, HA.out _⟩
set_option maxRecDepth 100000 in
set_option maxHeartbeats 4000000 in
theorem behind_two_few (L : List (List Int)) (A : Option Addr) (n c k : Nat) (w : World) (hT : TabL w A L) (hn : n = L.length) (hl : n ≤ 9223372036854775807) (hk : k < n) (hp : ¬ 1 < (L.getD k []).length) (h0 : k + 2 ≤ n) (h9 : n < k + 5) (h1 : headV (L.drop (k + 1)) 0 = 2) :
    Calls Tryd.prog 24 #[.slice A n c, .int .i64 k] w (LongPost w (behindV (L.drop (k + 1)))) := by
  have HA : Hid (∀ o, Below w.heap.size w (w.alloc o)) := Lib.hid fun o => (Below.refl _ _).alloc (Nat.le_refl _) _
  obtain ⟨a, rfl, hrow⟩ := hT.rows (r := k) (by omega)
  obtain ⟨A0, C0, hc0, hm0, hR0⟩ := hrow k (by omega)
  have c0 := hc0 _ (HA.out (.cells #[.int .u8 0, .int .u32 0] 25))
  generalize (L.getD k []).length = m0 at *
  have g1 : decide ((m0 : Int) > 1) = false := by simp; omega
  obtain ⟨A1, C1, hc1, hm1, hR1⟩ := hrow (k + 1) (by omega)
  rw [add_pos a (i := k + 1) (by omega)] at hc1
  obtain ⟨m1, hmm1⟩ : ∃ m, m = (L.getD (k + 1) []).length := ⟨_, rfl⟩
  rw [← hmm1] at hc1 hm1
  have c1 := hc1 _ (HA.out (.cells #[.int .u8 0, .int .u32 0] 25))
  have d1 : ∀ i, ((w.alloc (.cells #[.int .u8 0, .int .u32 0] 25)).drewN i).cell? ⟨a.block, a.off + (k + 1), none⟩ = some (.slice A1 m1 C1) := fun i => hc1 _ (below_drew (HA.out _) i)
  obtain ⟨q1, hq1⟩ : ∃ x, x = headV (L.drop (k + 1)) 0 := ⟨_, rfl⟩
  have e1 : partV (L.getD (k + 1) []) 0 = q1 := by rw [hq1, head_drop]
  have P1 : Hid (∀ V, Below w.heap.size w V → Calls Tryd.prog 23 #[.slice A1 m1 C1, .int .i64 0] V fun e w' => e = .returned (.int .i64 q1) ∧ V = w') := Lib.hid fun V hV => by have := part_any (L.getD (k + 1) []) A1 _ C1 0 V (hR1.below hV) hmm1 hm1 (by decide); rw [e1] at this; exact this
  have Q1 := Lib.hid (P1.out _ (HA.out (.cells #[.int .u8 0, .int .u32 0] 25)))
  have D1 : Hid (∀ i, Calls Tryd.prog 23 #[.slice A1 m1 C1, .int .i64 0] ((w.alloc (.cells #[.int .u8 0, .int .u32 0] 25)).drewN i) fun e w' => e = .returned (.int .i64 q1) ∧ (w.alloc (.cells #[.int .u8 0, .int .u32 0] 25)).drewN i = w') := Lib.hid fun i => P1.out _ (below_drew (HA.out _) i)
  have H1 := Lib.hid hq1
  clear hc1 hR1 e1 hmm1
  have hlen : (L.drop (k + 1)).length = n - (k + 1) := by rw [List.length_drop, hn]
  have HL := Lib.hid hlen
  have f0 : ((n : Int) - k - 1 == 0) = false := by simp; omega
  have f2 : decide ((n : Int) - k - 1 < 4) = true := by simp; omega
  have HV : Hid (behindV (L.drop (k + 1)) = (zeroC, n - (k + 1), false)) := Lib.hid (by unfold behindV; rw [HL.out, if_neg (by omega), if_neg (by omega), if_pos h1, if_pos (by omega)])
  have HN : Hid ((n : Int) - k - 1 = ((n - (k + 1) : Nat) : Int)) := Lib.hid (by omega)
  rw [h1] at hq1
  subst hq1
  unfold LongPost
  rw [HV.out]
  clear hrow hT hn hc0 hR0 hlen hm1
  clear h1
  go_enter Tryd.func24, Tryd.ntmps24
  clear d1
  go_wp2_with fail
  refine (show Calls _ _ _ _ _ from Q1.out).mono ?_
  rintro e w' ⟨rfl, rfl⟩
  clear c1 Q1 D1 P1
  go_wp2_with (fail)
  refine bodyPost_ret (v := .tuple #[.agg #[.int .u8 0, .int .u32 0], .int .i64 ((n : Int) - k - 1), .bool false]) (by simp [results, Tryd.results24, go_sem]) rfl ?_
  exact ⟨by rw [HN.out]; rfl, HA.out _⟩
set_option maxRecDepth 100000 in
set_option maxHeartbeats 4000000 in
theorem behind_two_0 (L : List (List Int)) (A : Option Addr) (n c k : Nat) (w : World) (hT : TabL w A L) (hn : n = L.length) (hl : n ≤ 9223372036854775807) (hk : k < n) (hp : ¬ 1 < (L.getD k []).length) (h0 : k + 5 ≤ n) (h1 : headV (L.drop (k + 1)) 0 = 2) (hfa : fitsB (headV (L.drop (k + 1)) 1) = false) :
    Calls Tryd.prog 24 #[.slice A n c, .int .i64 k] w (LongPost w (behindV (L.drop (k + 1)))) := by
  have HA : Hid (∀ o, Below w.heap.size w (w.alloc o)) := Lib.hid fun o => (Below.refl _ _).alloc (Nat.le_refl _) _
  obtain ⟨a, rfl, hrow⟩ := hT.rows (r := k) (by omega)
  obtain ⟨A0, C0, hc0, hm0, hR0⟩ := hrow k (by omega)
  have c0 := hc0 _ (HA.out (.cells #[.int .u8 0, .int .u32 0] 25))
  generalize (L.getD k []).length = m0 at *
  have g1 : decide ((m0 : Int) > 1) = false := by simp; omega
  obtain ⟨A1, C1, hc1, hm1, hR1⟩ := hrow (k + 1) (by omega)
  rw [add_pos a (i := k + 1) (by omega)] at hc1
  obtain ⟨m1, hmm1⟩ : ∃ m, m = (L.getD (k + 1) []).length := ⟨_, rfl⟩
  rw [← hmm1] at hc1 hm1
  have c1 := hc1 _ (HA.out (.cells #[.int .u8 0, .int .u32 0] 25))
  have d1 : ∀ i, ((w.alloc (.cells #[.int .u8 0, .int .u32 0] 25)).drewN i).cell? ⟨a.block, a.off + (k + 1), none⟩ = some (.slice A1 m1 C1) := fun i => hc1 _ (below_drew (HA.out _) i)
  obtain ⟨q1, hq1⟩ : ∃ x, x = headV (L.drop (k + 1)) 0 := ⟨_, rfl⟩
  have e1 : partV (L.getD (k + 1) []) 0 = q1 := by rw [hq1, head_drop]
  have P1 : Hid (∀ V, Below w.heap.size w V → Calls Tryd.prog 23 #[.slice A1 m1 C1, .int .i64 0] V fun e w' => e = .returned (.int .i64 q1) ∧ V = w') := Lib.hid fun V hV => by have := part_any (L.getD (k + 1) []) A1 _ C1 0 V (hR1.below hV) hmm1 hm1 (by decide); rw [e1] at this; exact this
  have Q1 := Lib.hid (P1.out _ (HA.out (.cells #[.int .u8 0, .int .u32 0] 25)))
  have D1 : Hid (∀ i, Calls Tryd.prog 23 #[.slice A1 m1 C1, .int .i64 0] ((w.alloc (.cells #[.int .u8 0, .int .u32 0] 25)).drewN i) fun e w' => e = .returned (.int .i64 q1) ∧ (w.alloc (.cells #[.int .u8 0, .int .u32 0] 25)).drewN i = w') := Lib.hid fun i => P1.out _ (below_drew (HA.out _) i)
  have H1 := Lib.hid hq1
  clear hc1 hR1 e1 hmm1
  obtain ⟨A2, C2, hc2, hm2, hR2⟩ := hrow (k + 2) (by omega)
  rw [add_pos a (i := k + 2) (by omega)] at hc2
  obtain ⟨m2, hmm2⟩ : ∃ m, m = (L.getD (k + 2) []).length := ⟨_, rfl⟩
  rw [← hmm2] at hc2 hm2
  have c2 := hc2 _ (HA.out (.cells #[.int .u8 0, .int .u32 0] 25))
  have d2 : ∀ i, ((w.alloc (.cells #[.int .u8 0, .int .u32 0] 25)).drewN i).cell? ⟨a.block, a.off + (k + 2), none⟩ = some (.slice A2 m2 C2) := fun i => hc2 _ (below_drew (HA.out _) i)
  obtain ⟨q2, hq2⟩ : ∃ x, x = headV (L.drop (k + 1)) 1 := ⟨_, rfl⟩
  have e2 : partV (L.getD (k + 2) []) 0 = q2 := by rw [hq2, head_drop]
  have P2 : Hid (∀ V, Below w.heap.size w V → Calls Tryd.prog 23 #[.slice A2 m2 C2, .int .i64 0] V fun e w' => e = .returned (.int .i64 q2) ∧ V = w') := Lib.hid fun V hV => by have := part_any (L.getD (k + 2) []) A2 _ C2 0 V (hR2.below hV) hmm2 hm2 (by decide); rw [e2] at this; exact this
  have Q2 := Lib.hid (P2.out _ (HA.out (.cells #[.int .u8 0, .int .u32 0] 25)))
  have D2 : Hid (∀ i, Calls Tryd.prog 23 #[.slice A2 m2 C2, .int .i64 0] ((w.alloc (.cells #[.int .u8 0, .int .u32 0] 25)).drewN i) fun e w' => e = .returned (.int .i64 q2) ∧ (w.alloc (.cells #[.int .u8 0, .int .u32 0] 25)).drewN i = w') := Lib.hid fun i => P2.out _ (below_drew (HA.out _) i)
  have H2 := Lib.hid hq2
  clear hc2 hR2 e2 hmm2
  obtain ⟨A3, C3, hc3, hm3, hR3⟩ := hrow (k + 3) (by omega)
  rw [add_pos a (i := k + 3) (by omega)] at hc3
  obtain ⟨m3, hmm3⟩ : ∃ m, m = (L.getD (k + 3) []).length := ⟨_, rfl⟩
  rw [← hmm3] at hc3 hm3
  have c3 := hc3 _ (HA.out (.cells #[.int .u8 0, .int .u32 0] 25))
  have d3 : ∀ i, ((w.alloc (.cells #[.int .u8 0, .int .u32 0] 25)).drewN i).cell? ⟨a.block, a.off + (k + 3), none⟩ = some (.slice A3 m3 C3) := fun i => hc3 _ (below_drew (HA.out _) i)
  obtain ⟨q3, hq3⟩ : ∃ x, x = headV (L.drop (k + 1)) 2 := ⟨_, rfl⟩
  have e3 : partV (L.getD (k + 3) []) 0 = q3 := by rw [hq3, head_drop]
  have P3 : Hid (∀ V, Below w.heap.size w V → Calls Tryd.prog 23 #[.slice A3 m3 C3, .int .i64 0] V fun e w' => e = .returned (.int .i64 q3) ∧ V = w') := Lib.hid fun V hV => by have := part_any (L.getD (k + 3) []) A3 _ C3 0 V (hR3.below hV) hmm3 hm3 (by decide); rw [e3] at this; exact this
  have Q3 := Lib.hid (P3.out _ (HA.out (.cells #[.int .u8 0, .int .u32 0] 25)))
  have D3 : Hid (∀ i, Calls Tryd.prog 23 #[.slice A3 m3 C3, .int .i64 0] ((w.alloc (.cells #[.int .u8 0, .int .u32 0] 25)).drewN i) fun e w' => e = .returned (.int .i64 q3) ∧ (w.alloc (.cells #[.int .u8 0, .int .u32 0] 25)).drewN i = w') := Lib.hid fun i => P3.out _ (below_drew (HA.out _) i)
  have H3 := Lib.hid hq3
  clear hc3 hR3 e3 hmm3
  obtain ⟨A4, C4, hc4, hm4, hR4⟩ := hrow (k + 4) (by omega)
  rw [add_pos a (i := k + 4) (by omega)] at hc4
  obtain ⟨m4, hmm4⟩ : ∃ m, m = (L.getD (k + 4) []).length := ⟨_, rfl⟩
  rw [← hmm4] at hc4 hm4
  have c4 := hc4 _ (HA.out (.cells #[.int .u8 0, .int .u32 0] 25))
  have d4 : ∀ i, ((w.alloc (.cells #[.int .u8 0, .int .u32 0] 25)).drewN i).cell? ⟨a.block, a.off + (k + 4), none⟩ = some (.slice A4 m4 C4) := fun i => hc4 _ (below_drew (HA.out _) i)
  obtain ⟨q4, hq4⟩ : ∃ x, x = headV (L.drop (k + 1)) 3 := ⟨_, rfl⟩
  have e4 : partV (L.getD (k + 4) []) 0 = q4 := by rw [hq4, head_drop]
  have P4 : Hid (∀ V, Below w.heap.size w V → Calls Tryd.prog 23 #[.slice A4 m4 C4, .int .i64 0] V fun e w' => e = .returned (.int .i64 q4) ∧ V = w') := Lib.hid fun V hV => by have := part_any (L.getD (k + 4) []) A4 _ C4 0 V (hR4.below hV) hmm4 hm4 (by decide); rw [e4] at this; exact this
  have Q4 := Lib.hid (P4.out _ (HA.out (.cells #[.int .u8 0, .int .u32 0] 25)))
  have D4 : Hid (∀ i, Calls Tryd.prog 23 #[.slice A4 m4 C4, .int .i64 0] ((w.alloc (.cells #[.int .u8 0, .int .u32 0] 25)).drewN i) fun e w' => e = .returned (.int .i64 q4) ∧ (w.alloc (.cells #[.int .u8 0, .int .u32 0] 25)).drewN i = w') := Lib.hid fun i => P4.out _ (below_drew (HA.out _) i)
  have H4 := Lib.hid hq4
  clear hc4 hR4 e4 hmm4
  have hlen : (L.drop (k + 1)).length = n - (k + 1) := by rw [List.length_drop, hn]
  have HL := Lib.hid hlen
  have f0 : ((n : Int) - k - 1 == 0) = false := by simp; omega
  have f2 : decide ((n : Int) - k - 1 < 4) = false := by simp; omega
  rw [← hq2] at hfa
  have F2 := Lib.hid (fits_is hfa)
  have HV : Hid (behindV (L.drop (k + 1)) = (zeroC, 4, false)) := Lib.hid (by unfold behindV; rw [HL.out, if_neg (by omega), if_neg (by omega), if_pos h1, if_neg (by omega), ← H2.out, ← H3.out, ← H4.out, if_neg (fun h => by rw [hfa] at h; simp at h)])
  rw [h1] at hq1
  subst hq1
  clear hfa
  have w2 : IntKind.i64.wrap ((k : Int) + 2) = (k : Int) + 2 := IntWalk.i64_in _ (by omega)
  have u2 : (0 : Int) ≤ (k : Int) + 2 := by omega
  have v2 : ((k : Int) + 2) < n := by omega
  have t2 : ((k : Int) + 2).toNat = k + 2 := by omega
  have w3 : IntKind.i64.wrap ((k : Int) + 3) = (k : Int) + 3 := IntWalk.i64_in _ (by omega)
  have u3 : (0 : Int) ≤ (k : Int) + 3 := by omega
  have v3 : ((k : Int) + 3) < n := by omega
  have t3 : ((k : Int) + 3).toNat = k + 3 := by omega
  have w4 : IntKind.i64.wrap ((k : Int) + 4) = (k : Int) + 4 := IntWalk.i64_in _ (by omega)
  have u4 : (0 : Int) ≤ (k : Int) + 4 := by omega
  have v4 : ((k : Int) + 4) < n := by omega
  have t4 : ((k : Int) + 4).toNat = k + 4 := by omega
  have HWs := Lib.hid (And.intro w2 (And.intro w3 (And.intro w4 (And.intro u2 (And.intro u3 (And.intro u4 (And.intro v2 (And.intro v3 (And.intro v4 (And.intro t2 (And.intro t3 t4)))))))))))
  clear w2 w3 w4 u2 u3 u4 v2 v3 v4 t2 t3 t4
  unfold LongPost
  rw [HV.out]
  clear hrow hT hn hc0 hR0 hlen hm1 hq2 hm2 hq3 hm3 hq4 hm4
  clear h1
  go_enter Tryd.func24, Tryd.ntmps24
  clear d1
  go_wp2_with fail
  refine (show Calls _ _ _ _ _ from Q1.out).mono ?_
  rintro e w' ⟨rfl, rfl⟩
  clear c1 Q1 D1 P1
  go_wp2_with fail
  obtain ⟨w2, w3, w4, u2, u3, u4, v2, v3, v4, t2, t3, t4⟩ := HWs.out
  go_quiet ((first | (go_at_call 23; with_reducible exact still_left (D2.out _)) | (go_at_call 23; with_reducible exact still_left (D3.out _)) | (go_at_call 23; with_reducible exact still_left (D4.out _))))
  clear w2 w3 w4 u2 u3 u4 v2 v3 v4 t2 t3 t4
  go_wp2_with (first | (go_at_call 35; refine (F2.out _).mono ?_; rintro e w' ⟨rfl, rfl⟩))
  refine bodyPost_ret (v := .tuple #[.agg #[.int .u8 0, .int .u32 0], .int .i64 4, .bool false]) (by simp [results, Tryd.results24, go_sem]) rfl ?_
  refine ⟨rfl, ?_⟩
  first | exact HA.out _ | exact below_drew (HA.out _) _ | exact ((below_drew (HA.out _) _).setCell (by simp) _).setCell (by simp) _
set_option maxRecDepth 100000 in
set_option maxHeartbeats 4000000 in
theorem behind_two_1 (L : List (List Int)) (A : Option Addr) (n c k : Nat) (w : World) (hT : TabL w A L) (hn : n = L.length) (hl : n ≤ 9223372036854775807) (hk : k < n) (hp : ¬ 1 < (L.getD k []).length) (h0 : k + 5 ≤ n) (h1 : headV (L.drop (k + 1)) 0 = 2) (hfa : fitsB (headV (L.drop (k + 1)) 1) = true) (hfb : fitsB (headV (L.drop (k + 1)) 2) = false) :
    Calls Tryd.prog 24 #[.slice A n c, .int .i64 k] w (LongPost w (behindV (L.drop (k + 1)))) := by
  have HA : Hid (∀ o, Below w.heap.size w (w.alloc o)) := Lib.hid fun o => (Below.refl _ _).alloc (Nat.le_refl _) _
  obtain ⟨a, rfl, hrow⟩ := hT.rows (r := k) (by omega)
  obtain ⟨A0, C0, hc0, hm0, hR0⟩ := hrow k (by omega)
  have c0 := hc0 _ (HA.out (.cells #[.int .u8 0, .int .u32 0] 25))
  generalize (L.getD k []).length = m0 at *
  have g1 : decide ((m0 : Int) > 1) = false := by simp; omega
  obtain ⟨A1, C1, hc1, hm1, hR1⟩ := hrow (k + 1) (by omega)
  rw [add_pos a (i := k + 1) (by omega)] at hc1
  obtain ⟨m1, hmm1⟩ : ∃ m, m = (L.getD (k + 1) []).length := ⟨_, rfl⟩
  rw [← hmm1] at hc1 hm1
  have c1 := hc1 _ (HA.out (.cells #[.int .u8 0, .int .u32 0] 25))
  have d1 : ∀ i, ((w.alloc (.cells #[.int .u8 0, .int .u32 0] 25)).drewN i).cell? ⟨a.block, a.off + (k + 1), none⟩ = some (.slice A1 m1 C1) := fun i => hc1 _ (below_drew (HA.out _) i)
  obtain ⟨q1, hq1⟩ : ∃ x, x = headV (L.drop (k + 1)) 0 := ⟨_, rfl⟩
  have e1 : partV (L.getD (k + 1) []) 0 = q1 := by rw [hq1, head_drop]
  have P1 : Hid (∀ V, Below w.heap.size w V → Calls Tryd.prog 23 #[.slice A1 m1 C1, .int .i64 0] V fun e w' => e = .returned (.int .i64 q1) ∧ V = w') := Lib.hid fun V hV => by have := part_any (L.getD (k + 1) []) A1 _ C1 0 V (hR1.below hV) hmm1 hm1 (by decide); rw [e1] at this; exact this
  have Q1 := Lib.hid (P1.out _ (HA.out (.cells #[.int .u8 0, .int .u32 0] 25)))
  have D1 : Hid (∀ i, Calls Tryd.prog 23 #[.slice A1 m1 C1, .int .i64 0] ((w.alloc (.cells #[.int .u8 0, .int .u32 0] 25)).drewN i) fun e w' => e = .returned (.int .i64 q1) ∧ (w.alloc (.cells #[.int .u8 0, .int .u32 0] 25)).drewN i = w') := Lib.hid fun i => P1.out _ (below_drew (HA.out _) i)
  have H1 := Lib.hid hq1
  clear hc1 hR1 e1 hmm1
  obtain ⟨A2, C2, hc2, hm2, hR2⟩ := hrow (k + 2) (by omega)
  rw [add_pos a (i := k + 2) (by omega)] at hc2
  obtain ⟨m2, hmm2⟩ : ∃ m, m = (L.getD (k + 2) []).length := ⟨_, rfl⟩
  rw [← hmm2] at hc2 hm2
  have c2 := hc2 _ (HA.out (.cells #[.int .u8 0, .int .u32 0] 25))
  have d2 : ∀ i, ((w.alloc (.cells #[.int .u8 0, .int .u32 0] 25)).drewN i).cell? ⟨a.block, a.off + (k + 2), none⟩ = some (.slice A2 m2 C2) := fun i => hc2 _ (below_drew (HA.out _) i)
  obtain ⟨q2, hq2⟩ : ∃ x, x = headV (L.drop (k + 1)) 1 := ⟨_, rfl⟩
  have e2 : partV (L.getD (k + 2) []) 0 = q2 := by rw [hq2, head_drop]
  have P2 : Hid (∀ V, Below w.heap.size w V → Calls Tryd.prog 23 #[.slice A2 m2 C2, .int .i64 0] V fun e w' => e = .returned (.int .i64 q2) ∧ V = w') := Lib.hid fun V hV => by have := part_any (L.getD (k + 2) []) A2 _ C2 0 V (hR2.below hV) hmm2 hm2 (by decide); rw [e2] at this; exact this
  have Q2 := Lib.hid (P2.out _ (HA.out (.cells #[.int .u8 0, .int .u32 0] 25)))
  have D2 : Hid (∀ i, Calls Tryd.prog 23 #[.slice A2 m2 C2, .int .i64 0] ((w.alloc (.cells #[.int .u8 0, .int .u32 0] 25)).drewN i) fun e w' => e = .returned (.int .i64 q2) ∧ (w.alloc (.cells #[.int .u8 0, .int .u32 0] 25)).drewN i = w') := Lib.hid fun i => P2.out _ (below_drew (HA.out _) i)
  have H2 := Lib.hid hq2
  clear hc2 hR2 e2 hmm2
  obtain ⟨A3, C3, hc3, hm3, hR3⟩ := hrow (k + 3) (by omega)
  rw [add_pos a (i := k + 3) (by omega)] at hc3
  obtain ⟨m3, hmm3⟩ : ∃ m, m = (L.getD (k + 3) []).length := ⟨_, rfl⟩
  rw [← hmm3] at hc3 hm3
  have c3 := hc3 _ (HA.out (.cells #[.int .u8 0, .int .u32 0] 25))
  have d3 : ∀ i, ((w.alloc (.cells #[.int .u8 0, .int .u32 0] 25)).drewN i).cell? ⟨a.block, a.off + (k + 3), none⟩ = some (.slice A3 m3 C3) := fun i => hc3 _ (below_drew (HA.out _) i)
  obtain ⟨q3, hq3⟩ : ∃ x, x = headV (L.drop (k + 1)) 2 := ⟨_, rfl⟩
  have e3 : partV (L.getD (k + 3) []) 0 = q3 := by rw [hq3, head_drop]
  have P3 : Hid (∀ V, Below w.heap.size w V → Calls Tryd.prog 23 #[.slice A3 m3 C3, .int .i64 0] V fun e w' => e = .returned (.int .i64 q3) ∧ V = w') := Lib.hid fun V hV => by have := part_any (L.getD (k + 3) []) A3 _ C3 0 V (hR3.below hV) hmm3 hm3 (by decide); rw [e3] at this; exact this
  have Q3 := Lib.hid (P3.out _ (HA.out (.cells #[.int .u8 0, .int .u32 0] 25)))
  have D3 : Hid (∀ i, Calls Tryd.prog 23 #[.slice A3 m3 C3, .int .i64 0] ((w.alloc (.cells #[.int .u8 0, .int .u32 0] 25)).drewN i) fun e w' => e = .returned (.int .i64 q3) ∧ (w.alloc (.cells #[.int .u8 0, .int .u32 0] 25)).drewN i = w') := Lib.hid fun i => P3.out _ (below_drew (HA.out _) i)
  have H3 := Lib.hid hq3
  clear hc3 hR3 e3 hmm3
  obtain ⟨A4, C4, hc4, hm4, hR4⟩ := hrow (k + 4) (by omega)
  rw [add_pos a (i := k + 4) (by omega)] at hc4
  obtain ⟨m4, hmm4⟩ : ∃ m, m = (L.getD (k + 4) []).length := ⟨_, rfl⟩
  rw [← hmm4] at hc4 hm4
  have c4 := hc4 _ (HA.out (.cells #[.int .u8 0, .int .u32 0] 25))
  have d4 : ∀ i, ((w.alloc (.cells #[.int .u8 0, .int .u32 0] 25)).drewN i).cell? ⟨a.block, a.off + (k + 4), none⟩ = some (.slice A4 m4 C4) := fun i => hc4 _ (below_drew (HA.out _) i)
  obtain ⟨q4, hq4⟩ : ∃ x, x = headV (L.drop (k + 1)) 3 := ⟨_, rfl⟩
  have e4 : partV (L.getD (k + 4) []) 0 = q4 := by rw [hq4, head_drop]
  have P4 : Hid (∀ V, Below w.heap.size w V → Calls Tryd.prog 23 #[.slice A4 m4 C4, .int .i64 0] V fun e w' => e = .returned (.int .i64 q4) ∧ V = w') := Lib.hid fun V hV => by have := part_any (L.getD (k + 4) []) A4 _ C4 0 V (hR4.below hV) hmm4 hm4 (by decide); rw [e4] at this; exact this
  have Q4 := Lib.hid (P4.out _ (HA.out (.cells #[.int .u8 0, .int .u32 0] 25)))
  have D4 : Hid (∀ i, Calls Tryd.prog 23 #[.slice A4 m4 C4, .int .i64 0] ((w.alloc (.cells #[.int .u8 0, .int .u32 0] 25)).drewN i) fun e w' => e = .returned (.int .i64 q4) ∧ (w.alloc (.cells #[.int .u8 0, .int .u32 0] 25)).drewN i = w') := Lib.hid fun i => P4.out _ (below_drew (HA.out _) i)
  have H4 := Lib.hid hq4
  clear hc4 hR4 e4 hmm4
  have hlen : (L.drop (k + 1)).length = n - (k + 1) := by rw [List.length_drop, hn]
  have HL := Lib.hid hlen
  have f0 : ((n : Int) - k - 1 == 0) = false := by simp; omega
  have f2 : decide ((n : Int) - k - 1 < 4) = false := by simp; omega
  rw [← hq2] at hfa
  have F2 := Lib.hid (fits_is hfa)
  rw [← hq3] at hfb
  have F3 := Lib.hid (fits_is hfb)
  have HV : Hid (behindV (L.drop (k + 1)) = (zeroC, 4, false)) := Lib.hid (by unfold behindV; rw [HL.out, if_neg (by omega), if_neg (by omega), if_pos h1, if_neg (by omega), ← H2.out, ← H3.out, ← H4.out, if_neg (fun h => by rw [hfb] at h; simp at h)])
  rw [h1] at hq1
  subst hq1
  clear hfa hfb
  have w2 : IntKind.i64.wrap ((k : Int) + 2) = (k : Int) + 2 := IntWalk.i64_in _ (by omega)
  have u2 : (0 : Int) ≤ (k : Int) + 2 := by omega
  have v2 : ((k : Int) + 2) < n := by omega
  have t2 : ((k : Int) + 2).toNat = k + 2 := by omega
  have w3 : IntKind.i64.wrap ((k : Int) + 3) = (k : Int) + 3 := IntWalk.i64_in _ (by omega)
  have u3 : (0 : Int) ≤ (k : Int) + 3 := by omega
  have v3 : ((k : Int) + 3) < n := by omega
  have t3 : ((k : Int) + 3).toNat = k + 3 := by omega
  have w4 : IntKind.i64.wrap ((k : Int) + 4) = (k : Int) + 4 := IntWalk.i64_in _ (by omega)
  have u4 : (0 : Int) ≤ (k : Int) + 4 := by omega
  have v4 : ((k : Int) + 4) < n := by omega
  have t4 : ((k : Int) + 4).toNat = k + 4 := by omega
  have HWs := Lib.hid (And.intro w2 (And.intro w3 (And.intro w4 (And.intro u2 (And.intro u3 (And.intro u4 (And.intro v2 (And.intro v3 (And.intro v4 (And.intro t2 (And.intro t3 t4)))))))))))
  clear w2 w3 w4 u2 u3 u4 v2 v3 v4 t2 t3 t4
  unfold LongPost
  rw [HV.out]
  clear hrow hT hn hc0 hR0 hlen hm1 hq2 hm2 hq3 hm3 hq4 hm4
  clear h1
  go_enter Tryd.func24, Tryd.ntmps24
  clear d1
  go_wp2_with fail
  refine (show Calls _ _ _ _ _ from Q1.out).mono ?_
  rintro e w' ⟨rfl, rfl⟩
  clear c1 Q1 D1 P1
  go_wp2_with fail
  obtain ⟨w2, w3, w4, u2, u3, u4, v2, v3, v4, t2, t3, t4⟩ := HWs.out
  go_quiet ((first | (go_at_call 23; with_reducible exact still_left (D2.out _)) | (go_at_call 23; with_reducible exact still_left (D3.out _)) | (go_at_call 23; with_reducible exact still_left (D4.out _))))
  clear w2 w3 w4 u2 u3 u4 v2 v3 v4 t2 t3 t4
  go_wp2_with (first | (go_at_call 35; refine (F2.out _).mono ?_; rintro e w' ⟨rfl, rfl⟩) | (go_at_call 35; refine (F3.out _).mono ?_; rintro e w' ⟨rfl, rfl⟩))
  refine bodyPost_ret (v := .tuple #[.agg #[.int .u8 0, .int .u32 0], .int .i64 4, .bool false]) (by simp [results, Tryd.results24, go_sem]) rfl ?_
  refine ⟨rfl, ?_⟩
  first | exact HA.out _ | exact below_drew (HA.out _) _ | exact ((below_drew (HA.out _) _).setCell (by simp) _).setCell (by simp) _
set_option maxRecDepth 100000 in
set_option maxHeartbeats 4000000 in
theorem behind_two_2 (L : List (List Int)) (A : Option Addr) (n c k : Nat) (w : World) (hT : TabL w A L) (hn : n = L.length) (hl : n ≤ 9223372036854775807) (hk : k < n) (hp : ¬ 1 < (L.getD k []).length) (h0 : k + 5 ≤ n) (h1 : headV (L.drop (k + 1)) 0 = 2) (hfa : fitsB (headV (L.drop (k + 1)) 1) = true) (hfb : fitsB (headV (L.drop (k + 1)) 2) = true) (hfc : fitsB (headV (L.drop (k + 1)) 3) = false) :
    Calls Tryd.prog 24 #[.slice A n c, .int .i64 k] w (LongPost w (behindV (L.drop (k + 1)))) := by
  have HA : Hid (∀ o, Below w.heap.size w (w.alloc o)) := Lib.hid fun o => (Below.refl _ _).alloc (Nat.le_refl _) _
  obtain ⟨a, rfl, hrow⟩ := hT.rows (r := k) (by omega)
  obtain ⟨A0, C0, hc0, hm0, hR0⟩ := hrow k (by omega)
  have c0 := hc0 _ (HA.out (.cells #[.int .u8 0, .int .u32 0] 25))
  generalize (L.getD k []).length = m0 at *
  have g1 : decide ((m0 : Int) > 1) = false := by simp; omega
  obtain ⟨A1, C1, hc1, hm1, hR1⟩ := hrow (k + 1) (by omega)
  rw [add_pos a (i := k + 1) (by omega)] at hc1
  obtain ⟨m1, hmm1⟩ : ∃ m, m = (L.getD (k + 1) []).length := ⟨_, rfl⟩
  rw [← hmm1] at hc1 hm1
  have c1 := hc1 _ (HA.out (.cells #[.int .u8 0, .int .u32 0] 25))
  have d1 : ∀ i, ((w.alloc (.cells #[.int .u8 0, .int .u32 0] 25)).drewN i).cell? ⟨a.block, a.off + (k + 1), none⟩ = some (.slice A1 m1 C1) := fun i => hc1 _ (below_drew (HA.out _) i)
  obtain ⟨q1, hq1⟩ : ∃ x, x = headV (L.drop (k + 1)) 0 := ⟨_, rfl⟩
  have e1 : partV (L.getD (k + 1) []) 0 = q1 := by rw [hq1, head_drop]
  have P1 : Hid (∀ V, Below w.heap.size w V → Calls Tryd.prog 23 #[.slice A1 m1 C1, .int .i64 0] V fun e w' => e = .returned (.int .i64 q1) ∧ V = w') := Lib.hid fun V hV => by have := part_any (L.getD (k + 1) []) A1 _ C1 0 V (hR1.below hV) hmm1 hm1 (by decide); rw [e1] at this; exact this
  have Q1 := Lib.hid (P1.out _ (HA.out (.cells #[.int .u8 0, .int .u32 0] 25)))
  have D1 : Hid (∀ i, Calls Tryd.prog 23 #[.slice A1 m1 C1, .int .i64 0] ((w.alloc (.cells #[.int .u8 0, .int .u32 0] 25)).drewN i) fun e w' => e = .returned (.int .i64 q1) ∧ (w.alloc (.cells #[.int .u8 0, .int .u32 0] 25)).drewN i = w') := Lib.hid fun i => P1.out _ (below_drew (HA.out _) i)
  have H1 := Lib.hid hq1
  clear hc1 hR1 e1 hmm1
  obtain ⟨A2, C2, hc2, hm2, hR2⟩ := hrow (k + 2) (by omega)
  rw [add_pos a (i := k + 2) (by omega)] at hc2
  obtain ⟨m2, hmm2⟩ : ∃ m, m = (L.getD (k + 2) []).length := ⟨_, rfl⟩
  rw [← hmm2] at hc2 hm2
  have c2 := hc2 _ (HA.out (.cells #[.int .u8 0, .int .u32 0] 25))
  have d2 : ∀ i, ((w.alloc (.cells #[.int .u8 0, .int .u32 0] 25)).drewN i).cell? ⟨a.block, a.off + (k + 2), none⟩ = some (.slice A2 m2 C2) := fun i => hc2 _ (below_drew (HA.out _) i)
  obtain ⟨q2, hq2⟩ : ∃ x, x = headV (L.drop (k + 1)) 1 := ⟨_, rfl⟩
  have e2 : partV (L.getD (k + 2) []) 0 = q2 := by rw [hq2, head_drop]
  have P2 : Hid (∀ V, Below w.heap.size w V → Calls Tryd.prog 23 #[.slice A2 m2 C2, .int .i64 0] V fun e w' => e = .returned (.int .i64 q2) ∧ V = w') := Lib.hid fun V hV => by have := part_any (L.getD (k + 2) []) A2 _ C2 0 V (hR2.below hV) hmm2 hm2 (by decide); rw [e2] at this; exact this
  have Q2 := Lib.hid (P2.out _ (HA.out (.cells #[.int .u8 0, .int .u32 0] 25)))
  have D2 : Hid (∀ i, Calls Tryd.prog 23 #[.slice A2 m2 C2, .int .i64 0] ((w.alloc (.cells #[.int .u8 0, .int .u32 0] 25)).drewN i) fun e w' => e = .returned (.int .i64 q2) ∧ (w.alloc (.cells #[.int .u8 0, .int .u32 0] 25)).drewN i = w') := Lib.hid fun i => P2.out _ (below_drew (HA.out _) i)
  have H2 := Lib.hid hq2
  clear hc2 hR2 e2 hmm2
  obtain ⟨A3, C3, hc3, hm3, hR3⟩ := hrow (k + 3) (by omega)
  rw [add_pos a (i := k + 3) (by omega)] at hc3
  obtain ⟨m3, hmm3⟩ : ∃ m, m = (L.getD (k + 3) []).length := ⟨_, rfl⟩
  rw [← hmm3] at hc3 hm3
  have c3 := hc3 _ (HA.out (.cells #[.int .u8 0, .int .u32 0] 25))
  have d3 : ∀ i, ((w.alloc (.cells #[.int .u8 0, .int .u32 0] 25)).drewN i).cell? ⟨a.block, a.off + (k + 3), none⟩ = some (.slice A3 m3 C3) := fun i => hc3 _ (below_drew (HA.out _) i)
  obtain ⟨q3, hq3⟩ : ∃ x, x = headV (L.drop (k + 1)) 2 := ⟨_, rfl⟩
  have e3 : partV (L.getD (k + 3) []) 0 = q3 := by rw [hq3, head_drop]
  have P3 : Hid (∀ V, Below w.heap.size w V → Calls Tryd.prog 23 #[.slice A3 m3 C3, .int .i64 0] V fun e w' => e = .returned (.int .i64 q3) ∧ V = w') := Lib.hid fun V hV => by have := part_any (L.getD (k + 3) []) A3 _ C3 0 V (hR3.below hV) hmm3 hm3 (by decide); rw [e3] at this; exact this
  have Q3 := Lib.hid (P3.out _ (HA.out (.cells #[.int .u8 0, .int .u32 0] 25)))
  have D3 : Hid (∀ i, Calls Tryd.prog 23 #[.slice A3 m3 C3, .int .i64 0] ((w.alloc (.cells #[.int .u8 0, .int .u32 0] 25)).drewN i) fun e w' => e = .returned (.int .i64 q3) ∧ (w.alloc (.cells #[.int .u8 0, .int .u32 0] 25)).drewN i = w') := Lib.hid fun i => P3.out _ (below_drew (HA.out _) i)
  have H3 := Lib.hid hq3
  clear hc3 hR3 e3 hmm3
  obtain ⟨A4, C4, hc4, hm4, hR4⟩ := hrow (k + 4) (by omega)
  rw [add_pos a (i := k + 4) (by omega)] at hc4
  obtain ⟨m4, hmm4⟩ : ∃ m, m = (L.getD (k + 4) []).length := ⟨_, rfl⟩
  rw [← hmm4] at hc4 hm4
  have c4 := hc4 _ (HA.out (.cells #[.int .u8 0, .int .u32 0] 25))
  have d4 : ∀ i, ((w.alloc (.cells #[.int .u8 0, .int .u32 0] 25)).drewN i).cell? ⟨a.block, a.off + (k + 4), none⟩ = some (.slice A4 m4 C4) := fun i => hc4 _ (below_drew (HA.out _) i)
  obtain ⟨q4, hq4⟩ : ∃ x, x = headV (L.drop (k + 1)) 3 := ⟨_, rfl⟩
  have e4 : partV (L.getD (k + 4) []) 0 = q4 := by rw [hq4, head_drop]
  have P4 : Hid (∀ V, Below w.heap.size w V → Calls Tryd.prog 23 #[.slice A4 m4 C4, .int .i64 0] V fun e w' => e = .returned (.int .i64 q4) ∧ V = w') := Lib.hid fun V hV => by have := part_any (L.getD (k + 4) []) A4 _ C4 0 V (hR4.below hV) hmm4 hm4 (by decide); rw [e4] at this; exact this
  have Q4 := Lib.hid (P4.out _ (HA.out (.cells #[.int .u8 0, .int .u32 0] 25)))
  have D4 : Hid (∀ i, Calls Tryd.prog 23 #[.slice A4 m4 C4, .int .i64 0] ((w.alloc (.cells #[.int .u8 0, .int .u32 0] 25)).drewN i) fun e w' => e = .returned (.int .i64 q4) ∧ (w.alloc (.cells #[.int .u8 0, .int .u32 0] 25)).drewN i = w') := Lib.hid fun i => P4.out _ (below_drew (HA.out _) i)
  have H4 := Lib.hid hq4
  clear hc4 hR4 e4 hmm4
  have hlen : (L.drop (k + 1)).length = n - (k + 1) := by rw [List.length_drop, hn]
  have HL := Lib.hid hlen
  have f0 : ((n : Int) - k - 1 == 0) = false := by simp; omega
  have f2 : decide ((n : Int) - k - 1 < 4) = false := by simp; omega
  rw [← hq2] at hfa
  have F2 := Lib.hid (fits_is hfa)
  rw [← hq3] at hfb
  have F3 := Lib.hid (fits_is hfb)
  rw [← hq4] at hfc
  have F4 := Lib.hid (fits_is hfc)
  have HV : Hid (behindV (L.drop (k + 1)) = (zeroC, 4, false)) := Lib.hid (by unfold behindV; rw [HL.out, if_neg (by omega), if_neg (by omega), if_pos h1, if_neg (by omega), ← H2.out, ← H3.out, ← H4.out, if_neg (fun h => by rw [hfc] at h; simp at h)])
  rw [h1] at hq1
  subst hq1
  clear hfa hfb hfc
  have w2 : IntKind.i64.wrap ((k : Int) + 2) = (k : Int) + 2 := IntWalk.i64_in _ (by omega)
  have u2 : (0 : Int) ≤ (k : Int) + 2 := by omega
  have v2 : ((k : Int) + 2) < n := by omega
  have t2 : ((k : Int) + 2).toNat = k + 2 := by omega
  have w3 : IntKind.i64.wrap ((k : Int) + 3) = (k : Int) + 3 := IntWalk.i64_in _ (by omega)
  have u3 : (0 : Int) ≤ (k : Int) + 3 := by omega
  have v3 : ((k : Int) + 3) < n := by omega
  have t3 : ((k : Int) + 3).toNat = k + 3 := by omega
  have w4 : IntKind.i64.wrap ((k : Int) + 4) = (k : Int) + 4 := IntWalk.i64_in _ (by omega)
  have u4 : (0 : Int) ≤ (k : Int) + 4 := by omega
  have v4 : ((k : Int) + 4) < n := by omega
  have t4 : ((k : Int) + 4).toNat = k + 4 := by omega
  have HWs := Lib.hid (And.intro w2 (And.intro w3 (And.intro w4 (And.intro u2 (And.intro u3 (And.intro u4 (And.intro v2 (And.intro v3 (And.intro v4 (And.intro t2 (And.intro t3 t4)))))))))))
  clear w2 w3 w4 u2 u3 u4 v2 v3 v4 t2 t3 t4
  unfold LongPost
  rw [HV.out]
  clear hrow hT hn hc0 hR0 hlen hm1 hq2 hm2 hq3 hm3 hq4 hm4
  clear h1
  go_enter Tryd.func24, Tryd.ntmps24
  clear d1
  go_wp2_with fail
  refine (show Calls _ _ _ _ _ from Q1.out).mono ?_
  rintro e w' ⟨rfl, rfl⟩
  clear c1 Q1 D1 P1
  go_wp2_with fail
  obtain ⟨w2, w3, w4, u2, u3, u4, v2, v3, v4, t2, t3, t4⟩ := HWs.out
  go_quiet ((first | (go_at_call 23; with_reducible exact still_left (D2.out _)) | (go_at_call 23; with_reducible exact still_left (D3.out _)) | (go_at_call 23; with_reducible exact still_left (D4.out _))))
  clear w2 w3 w4 u2 u3 u4 v2 v3 v4 t2 t3 t4
  go_wp2_with (first | (go_at_call 35; refine (F2.out _).mono ?_; rintro e w' ⟨rfl, rfl⟩) | (go_at_call 35; refine (F3.out _).mono ?_; rintro e w' ⟨rfl, rfl⟩) | (go_at_call 35; refine (F4.out _).mono ?_; rintro e w' ⟨rfl, rfl⟩))
  refine bodyPost_ret (v := .tuple #[.agg #[.int .u8 0, .int .u32 0], .int .i64 4, .bool false]) (by simp [results, Tryd.results24, go_sem]) rfl ?_
  refine ⟨rfl, ?_⟩
  first | exact HA.out _ | exact below_drew (HA.out _) _ | exact ((below_drew (HA.out _) _).setCell (by simp) _).setCell (by simp) _
set_option maxRecDepth 100000 in
set_option maxHeartbeats 4000000 in
theorem behind_two_3 (L : List (List Int)) (A : Option Addr) (n c k : Nat) (w : World) (hT : TabL w A L) (hn : n = L.length) (hl : n ≤ 9223372036854775807) (hk : k < n) (hp : ¬ 1 < (L.getD k []).length) (h0 : k + 5 ≤ n) (h1 : headV (L.drop (k + 1)) 0 = 2) (hfa : fitsB (headV (L.drop (k + 1)) 1) = true) (hfb : fitsB (headV (L.drop (k + 1)) 2) = true) (hfc : fitsB (headV (L.drop (k + 1)) 3) = true) :
    Calls Tryd.prog 24 #[.slice A n c, .int .i64 k] w (LongPost w (behindV (L.drop (k + 1)))) := by
  have HA : Hid (∀ o, Below w.heap.size w (w.alloc o)) := Lib.hid fun o => (Below.refl _ _).alloc (Nat.le_refl _) _
  obtain ⟨a, rfl, hrow⟩ := hT.rows (r := k) (by omega)
  obtain ⟨A0, C0, hc0, hm0, hR0⟩ := hrow k (by omega)
  have c0 := hc0 _ (HA.out (.cells #[.int .u8 0, .int .u32 0] 25))
  generalize (L.getD k []).length = m0 at *
  have g1 : decide ((m0 : Int) > 1) = false := by simp; omega
  obtain ⟨A1, C1, hc1, hm1, hR1⟩ := hrow (k + 1) (by omega)
  rw [add_pos a (i := k + 1) (by omega)] at hc1
  obtain ⟨m1, hmm1⟩ : ∃ m, m = (L.getD (k + 1) []).length := ⟨_, rfl⟩
  rw [← hmm1] at hc1 hm1
  have c1 := hc1 _ (HA.out (.cells #[.int .u8 0, .int .u32 0] 25))
  have d1 : ∀ i, ((w.alloc (.cells #[.int .u8 0, .int .u32 0] 25)).drewN i).cell? ⟨a.block, a.off + (k + 1), none⟩ = some (.slice A1 m1 C1) := fun i => hc1 _ (below_drew (HA.out _) i)
  obtain ⟨q1, hq1⟩ : ∃ x, x = headV (L.drop (k + 1)) 0 := ⟨_, rfl⟩
  have e1 : partV (L.getD (k + 1) []) 0 = q1 := by rw [hq1, head_drop]
  have P1 : Hid (∀ V, Below w.heap.size w V → Calls Tryd.prog 23 #[.slice A1 m1 C1, .int .i64 0] V fun e w' => e = .returned (.int .i64 q1) ∧ V = w') := Lib.hid fun V hV => by have := part_any (L.getD (k + 1) []) A1 _ C1 0 V (hR1.below hV) hmm1 hm1 (by decide); rw [e1] at this; exact this
  have Q1 := Lib.hid (P1.out _ (HA.out (.cells #[.int .u8 0, .int .u32 0] 25)))
  have D1 : Hid (∀ i, Calls Tryd.prog 23 #[.slice A1 m1 C1, .int .i64 0] ((w.alloc (.cells #[.int .u8 0, .int .u32 0] 25)).drewN i) fun e w' => e = .returned (.int .i64 q1) ∧ (w.alloc (.cells #[.int .u8 0, .int .u32 0] 25)).drewN i = w') := Lib.hid fun i => P1.out _ (below_drew (HA.out _) i)
  have H1 := Lib.hid hq1
  clear hc1 hR1 e1 hmm1
  obtain ⟨A2, C2, hc2, hm2, hR2⟩ := hrow (k + 2) (by omega)
  rw [add_pos a (i := k + 2) (by omega)] at hc2
  obtain ⟨m2, hmm2⟩ : ∃ m, m = (L.getD (k + 2) []).length := ⟨_, rfl⟩
  rw [← hmm2] at hc2 hm2
  have c2 := hc2 _ (HA.out (.cells #[.int .u8 0, .int .u32 0] 25))
  have d2 : ∀ i, ((w.alloc (.cells #[.int .u8 0, .int .u32 0] 25)).drewN i).cell? ⟨a.block, a.off + (k + 2), none⟩ = some (.slice A2 m2 C2) := fun i => hc2 _ (below_drew (HA.out _) i)
  obtain ⟨q2, hq2⟩ : ∃ x, x = headV (L.drop (k + 1)) 1 := ⟨_, rfl⟩
  have e2 : partV (L.getD (k + 2) []) 0 = q2 := by rw [hq2, head_drop]
  have P2 : Hid (∀ V, Below w.heap.size w V → Calls Tryd.prog 23 #[.slice A2 m2 C2, .int .i64 0] V fun e w' => e = .returned (.int .i64 q2) ∧ V = w') := Lib.hid fun V hV => by have := part_any (L.getD (k + 2) []) A2 _ C2 0 V (hR2.below hV) hmm2 hm2 (by decide); rw [e2] at this; exact this
  have Q2 := Lib.hid (P2.out _ (HA.out (.cells #[.int .u8 0, .int .u32 0] 25)))
  have D2 : Hid (∀ i, Calls Tryd.prog 23 #[.slice A2 m2 C2, .int .i64 0] ((w.alloc (.cells #[.int .u8 0, .int .u32 0] 25)).drewN i) fun e w' => e = .returned (.int .i64 q2) ∧ (w.alloc (.cells #[.int .u8 0, .int .u32 0] 25)).drewN i = w') := Lib.hid fun i => P2.out _ (below_drew (HA.out _) i)
  have H2 := Lib.hid hq2
  clear hc2 hR2 e2 hmm2
  obtain ⟨A3, C3, hc3, hm3, hR3⟩ := hrow (k + 3) (by omega)
  rw [add_pos a (i := k + 3) (by omega)] at hc3
  obtain ⟨m3, hmm3⟩ : ∃ m, m = (L.getD (k + 3) []).length := ⟨_, rfl⟩
  rw [← hmm3] at hc3 hm3
  have c3 := hc3 _ (HA.out (.cells #[.int .u8 0, .int .u32 0] 25))
  have d3 : ∀ i, ((w.alloc (.cells #[.int .u8 0, .int .u32 0] 25)).drewN i).cell? ⟨a.block, a.off + (k + 3), none⟩ = some (.slice A3 m3 C3) := fun i => hc3 _ (below_drew (HA.out _) i)
  obtain ⟨q3, hq3⟩ : ∃ x, x = headV (L.drop (k + 1)) 2 := ⟨_, rfl⟩
  have e3 : partV (L.getD (k + 3) []) 0 = q3 := by rw [hq3, head_drop]
  have P3 : Hid (∀ V, Below w.heap.size w V → Calls Tryd.prog 23 #[.slice A3 m3 C3, .int .i64 0] V fun e w' => e = .returned (.int .i64 q3) ∧ V = w') := Lib.hid fun V hV => by have := part_any (L.getD (k + 3) []) A3 _ C3 0 V (hR3.below hV) hmm3 hm3 (by decide); rw [e3] at this; exact this
  have Q3 := Lib.hid (P3.out _ (HA.out (.cells #[.int .u8 0, .int .u32 0] 25)))
  have D3 : Hid (∀ i, Calls Tryd.prog 23 #[.slice A3 m3 C3, .int .i64 0] ((w.alloc (.cells #[.int .u8 0, .int .u32 0] 25)).drewN i) fun e w' => e = .returned (.int .i64 q3) ∧ (w.alloc (.cells #[.int .u8 0, .int .u32 0] 25)).drewN i = w') := Lib.hid fun i => P3.out _ (below_drew (HA.out _) i)
  have H3 := Lib.hid hq3
  clear hc3 hR3 e3 hmm3
  obtain ⟨A4, C4, hc4, hm4, hR4⟩ := hrow (k + 4) (by omega)
  rw [add_pos a (i := k + 4) (by omega)] at hc4
  obtain ⟨m4, hmm4⟩ : ∃ m, m = (L.getD (k + 4) []).length := ⟨_, rfl⟩
  rw [← hmm4] at hc4 hm4
  have c4 := hc4 _ (HA.out (.cells #[.int .u8 0, .int .u32 0] 25))
  have d4 : ∀ i, ((w.alloc (.cells #[.int .u8 0, .int .u32 0] 25)).drewN i).cell? ⟨a.block, a.off + (k + 4), none⟩ = some (.slice A4 m4 C4) := fun i => hc4 _ (below_drew (HA.out _) i)
  obtain ⟨q4, hq4⟩ : ∃ x, x = headV (L.drop (k + 1)) 3 := ⟨_, rfl⟩
  have e4 : partV (L.getD (k + 4) []) 0 = q4 := by rw [hq4, head_drop]
  have P4 : Hid (∀ V, Below w.heap.size w V → Calls Tryd.prog 23 #[.slice A4 m4 C4, .int .i64 0] V fun e w' => e = .returned (.int .i64 q4) ∧ V = w') := Lib.hid fun V hV => by have := part_any (L.getD (k + 4) []) A4 _ C4 0 V (hR4.below hV) hmm4 hm4 (by decide); rw [e4] at this; exact this
  have Q4 := Lib.hid (P4.out _ (HA.out (.cells #[.int .u8 0, .int .u32 0] 25)))
  have D4 : Hid (∀ i, Calls Tryd.prog 23 #[.slice A4 m4 C4, .int .i64 0] ((w.alloc (.cells #[.int .u8 0, .int .u32 0] 25)).drewN i) fun e w' => e = .returned (.int .i64 q4) ∧ (w.alloc (.cells #[.int .u8 0, .int .u32 0] 25)).drewN i = w') := Lib.hid fun i => P4.out _ (below_drew (HA.out _) i)
  have H4 := Lib.hid hq4
  clear hc4 hR4 e4 hmm4
  have hlen : (L.drop (k + 1)).length = n - (k + 1) := by rw [List.length_drop, hn]
  have HL := Lib.hid hlen
  have f0 : ((n : Int) - k - 1 == 0) = false := by simp; omega
  have f2 : decide ((n : Int) - k - 1 < 4) = false := by simp; omega
  rw [← hq2] at hfa
  have F2 := Lib.hid (fits_is hfa)
  rw [← hq3] at hfb
  have F3 := Lib.hid (fits_is hfb)
  rw [← hq4] at hfc
  have F4 := Lib.hid (fits_is hfc)
  have hb2 := fits_iff.1 hfa
  obtain ⟨r, rfl⟩ : ∃ r : Nat, q2 = r := ⟨q2.toNat, by omega⟩
  have hb3 := fits_iff.1 hfb
  obtain ⟨g, rfl⟩ : ∃ g : Nat, q3 = g := ⟨q3.toNat, by omega⟩
  have hb4 := fits_iff.1 hfc
  obtain ⟨b, rfl⟩ : ∃ b : Nat, q4 = b := ⟨q4.toNat, by omega⟩
  have HV : Hid (behindV (L.drop (k + 1)) = (⟨2, 65536 * r + 256 * g + b⟩, 4, true)) := Lib.hid (by unfold behindV; rw [HL.out, if_neg (by omega), if_neg (by omega), if_pos h1, if_neg (by omega), ← H2.out, ← H3.out, ← H4.out, if_pos ⟨hfa, hfb, hfc⟩]; simp [rgbV])
  have HN : Hid (((65536 * r + 256 * g + b : Nat) : Int) = 65536 * (r : Int) + 256 * (g : Int) + (b : Int)) := Lib.hid (by omega)
  rw [h1] at hq1
  subst hq1
  clear hfa hfb hfc
  have w2 : IntKind.i64.wrap ((k : Int) + 2) = (k : Int) + 2 := IntWalk.i64_in _ (by omega)
  have u2 : (0 : Int) ≤ (k : Int) + 2 := by omega
  have v2 : ((k : Int) + 2) < n := by omega
  have t2 : ((k : Int) + 2).toNat = k + 2 := by omega
  have w3 : IntKind.i64.wrap ((k : Int) + 3) = (k : Int) + 3 := IntWalk.i64_in _ (by omega)
  have u3 : (0 : Int) ≤ (k : Int) + 3 := by omega
  have v3 : ((k : Int) + 3) < n := by omega
  have t3 : ((k : Int) + 3).toNat = k + 3 := by omega
  have w4 : IntKind.i64.wrap ((k : Int) + 4) = (k : Int) + 4 := IntWalk.i64_in _ (by omega)
  have u4 : (0 : Int) ≤ (k : Int) + 4 := by omega
  have v4 : ((k : Int) + 4) < n := by omega
  have t4 : ((k : Int) + 4).toNat = k + 4 := by omega
  have HWs := Lib.hid (And.intro w2 (And.intro w3 (And.intro w4 (And.intro u2 (And.intro u3 (And.intro u4 (And.intro v2 (And.intro v3 (And.intro v4 (And.intro t2 (And.intro t3 t4)))))))))))
  clear w2 w3 w4 u2 u3 u4 v2 v3 v4 t2 t3 t4
  unfold LongPost
  rw [HV.out]
  clear hrow hT hn hc0 hR0 hlen hm1 hq2 hm2 hq3 hm3 hq4 hm4
  clear h1
  go_enter Tryd.func24, Tryd.ntmps24
  clear d1
  go_wp2_with fail
  refine (show Calls _ _ _ _ _ from Q1.out).mono ?_
  rintro e w' ⟨rfl, rfl⟩
  clear c1 Q1 D1 P1
  go_wp2_with fail
  obtain ⟨w2, w3, w4, u2, u3, u4, v2, v3, v4, t2, t3, t4⟩ := HWs.out
  go_quiet ((first | (go_at_call 23; with_reducible exact still_left (D2.out _)) | (go_at_call 23; with_reducible exact still_left (D3.out _)) | (go_at_call 23; with_reducible exact still_left (D4.out _))))
  clear w2 w3 w4 u2 u3 u4 v2 v3 v4 t2 t3 t4
  go_wp2_with (first | (go_at_call 35; refine (F2.out _).mono ?_; rintro e w' ⟨rfl, rfl⟩) | (go_at_call 35; refine (F3.out _).mono ?_; rintro e w' ⟨rfl, rfl⟩) | (go_at_call 35; refine (F4.out _).mono ?_; rintro e w' ⟨rfl, rfl⟩))
  refine bodyPost_ret (v := .tuple #[.agg #[.int .u8 2, .int .u32 (65536 * (r : Int) + 256 * (g : Int) + (b : Int))], .int .i64 4, .bool true]) (by simp [results, Tryd.results24, go_sem]) rfl ?_
  refine ⟨by unfold coA; rw [HN.out]; rfl, ?_⟩
  first | exact HA.out _ | exact below_drew (HA.out _) _ | exact ((below_drew (HA.out _) _).setCell (by simp) _).setCell (by simp) _
set_option maxRecDepth 100000 in
set_option maxHeartbeats 4000000 in
theorem behind_other (L : List (List Int)) (A : Option Addr) (n c k : Nat) (w : World) (hT : TabL w A L) (hn : n = L.length) (hl : n ≤ 9223372036854775807) (hk : k < n) (hp : ¬ 1 < (L.getD k []).length) (h0 : k + 2 ≤ n) (h5 : headV (L.drop (k + 1)) 0 ≠ 5) (h2 : headV (L.drop (k + 1)) 0 ≠ 2) :
    Calls Tryd.prog 24 #[.slice A n c, .int .i64 k] w (LongPost w (behindV (L.drop (k + 1)))) := by
  have HA : Hid (∀ o, Below w.heap.size w (w.alloc o)) := Lib.hid fun o => (Below.refl _ _).alloc (Nat.le_refl _) _
  obtain ⟨a, rfl, hrow⟩ := hT.rows (r := k) (by omega)
  obtain ⟨A0, C0, hc0, hm0, hR0⟩ := hrow k (by omega)
  have c0 := hc0 _ (HA.out (.cells #[.int .u8 0, .int .u32 0] 25))
  generalize (L.getD k []).length = m0 at *
  have g1 : decide ((m0 : Int) > 1) = false := by simp; omega
  obtain ⟨A1, C1, hc1, hm1, hR1⟩ := hrow (k + 1) (by omega)
  rw [add_pos a (i := k + 1) (by omega)] at hc1
  obtain ⟨m1, hmm1⟩ : ∃ m, m = (L.getD (k + 1) []).length := ⟨_, rfl⟩
  rw [← hmm1] at hc1 hm1
  have c1 := hc1 _ (HA.out (.cells #[.int .u8 0, .int .u32 0] 25))
  have d1 : ∀ i, ((w.alloc (.cells #[.int .u8 0, .int .u32 0] 25)).drewN i).cell? ⟨a.block, a.off + (k + 1), none⟩ = some (.slice A1 m1 C1) := fun i => hc1 _ (below_drew (HA.out _) i)
  obtain ⟨q1, hq1⟩ : ∃ x, x = headV (L.drop (k + 1)) 0 := ⟨_, rfl⟩
  have e1 : partV (L.getD (k + 1) []) 0 = q1 := by rw [hq1, head_drop]
  have P1 : Hid (∀ V, Below w.heap.size w V → Calls Tryd.prog 23 #[.slice A1 m1 C1, .int .i64 0] V fun e w' => e = .returned (.int .i64 q1) ∧ V = w') := Lib.hid fun V hV => by have := part_any (L.getD (k + 1) []) A1 _ C1 0 V (hR1.below hV) hmm1 hm1 (by decide); rw [e1] at this; exact this
  have Q1 := Lib.hid (P1.out _ (HA.out (.cells #[.int .u8 0, .int .u32 0] 25)))
  have D1 : Hid (∀ i, Calls Tryd.prog 23 #[.slice A1 m1 C1, .int .i64 0] ((w.alloc (.cells #[.int .u8 0, .int .u32 0] 25)).drewN i) fun e w' => e = .returned (.int .i64 q1) ∧ (w.alloc (.cells #[.int .u8 0, .int .u32 0] 25)).drewN i = w') := Lib.hid fun i => P1.out _ (below_drew (HA.out _) i)
  have H1 := Lib.hid hq1
  clear hc1 hR1 e1 hmm1
  have hlen : (L.drop (k + 1)).length = n - (k + 1) := by rw [List.length_drop, hn]
  have HL := Lib.hid hlen
  have f0 : ((n : Int) - k - 1 == 0) = false := by simp; omega
  have HV : Hid (behindV (L.drop (k + 1)) = (zeroC, 1, false)) := Lib.hid (by unfold behindV otherT; rw [HL.out, if_neg (by omega), if_neg h5, if_neg h2])
  rw [← hq1] at h5 h2
  have k5 : (q1 == 5) = false := by simpa using h5
  have k2 : (q1 == 2) = false := by simpa using h2
  clear h5 h2
  unfold LongPost
  rw [HV.out]
  clear hrow hT hn hc0 hR0 hlen hq1 hm1
  go_enter Tryd.func24, Tryd.ntmps24
  clear d1
  go_wp2_with fail
  refine (show Calls _ _ _ _ _ from Q1.out).mono ?_
  rintro e w' ⟨rfl, rfl⟩
  clear c1 Q1 D1 P1
  go_wp2_with (fail)
  refine bodyPost_ret (v := .tuple #[.agg #[.int .u8 0, .int .u32 0], .int .i64 1, .bool false]) (by simp [results, Tryd.results24, go_sem]) rfl ?_
  exact ⟨rfl, HA.out _⟩
end Go.Proofs.YtjmojhohecbipaaDoor.A10
