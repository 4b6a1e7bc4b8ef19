/- Layer 10: the document's long. -/
import Derived.Test.YtjmojhohecbipaaDoorAtC
set_option linter.unusedVariables false
namespace Go.Proofs.YtjmojhohecbipaaDoor.A10
open Go.RowKit Sgr

theorem TabL.row {w : World} {A : Option Addr} {L : List (List Int)} (h : TabL w A L) {k : Nat} (hk : k < L.length) : ∃ a A' C, A = some a ∧ (∀ V, Below w.heap.size w V → V.cell? (a.add k) = some (.slice A' (L.getD k []).length C)) ∧ (L.getD k []).length ≤ 9223372036854775807 ∧ RowL w A' (L.getD k []) := by
  obtain ⟨a, A', C, e, h1, h2, h3⟩ := h k hk
  exact ⟨a, A', C, e, fun V hV => (hV.cell (cell_lt h1)).trans h1, Nat.le_trans h2.1 h2.2, h3⟩
theorem RowL.at_ {w : World} {A : Option Addr} {p : List Int} (h : RowL w A p) (hp : 0 < p.length) : ∃ a, A = some a ∧ ∀ i, i < p.length → (∀ V, Below w.heap.size w V → V.cell? (a.add i) = some (.int .i64 (partV p i))) ∧ -9223372036854775808 ≤ partV p i ∧ partV p i ≤ 9223372036854775807 := by
  obtain ⟨a, e, _⟩ := h 0 hp
  refine ⟨a, e, fun i hi => ?_⟩
  obtain ⟨a', e', h1, h2⟩ := h i hi
  obtain rfl : a' = a := Option.some.inj (e'.symm.trans e)
  exact ⟨fun V hV => (hV.cell (cell_lt h1)).trans h1, h2⟩
theorem add_pos (a : Addr) {i : Nat} (h : 0 < i) : a.add i = ⟨a.block, a.off + i, none⟩ := by
  unfold Addr.add
  split
  · rename_i e; first | omega | (subst e; omega) | cases h
  · rfl
/-- The same, in the walk's own words. -/
theorem RowL.lit {w : World} {A : Option Addr} {p : List Int} (h : RowL w A p) (hp : 0 < p.length) : ∃ a, A = some a ∧ ∀ i, 0 < i → i < p.length → (∀ V, Below w.heap.size w V → V.cell? ⟨a.block, a.off + i, none⟩ = some (.int .i64 (partV p i))) ∧ -9223372036854775808 ≤ partV p i ∧ partV p i ≤ 9223372036854775807 := by
  obtain ⟨a, e, hx⟩ := h.at_ hp
  refine ⟨a, e, fun i h0 hi => ?_⟩
  obtain ⟨h1, h2⟩ := hx i hi
  rw [add_pos a h0] at h1
  exact ⟨h1, h2⟩
theorem fits_is {x : Int} {b : Bool} (h : fitsB x = b) : ∀ V, Calls Tryd.prog 35 #[.int .i64 x] V fun e w' => e = .returned (.bool b) ∧ V = w' := fun V => h ▸ fits_any x V

/-- What long tells. -/
def LongPost (w : World) (x : Co × Nat × Bool) (e : Ending) (w' : World) : Prop := e = .returned (.tuple #[coA x.1, .int .i64 x.2.1, .bool x.2.2]) ∧ Below w.heap.size w w'

set_option maxRecDepth 100000 in
set_option maxHeartbeats 4000000 in
theorem long_five (L : List (List Int)) (A : Option Addr) (n c k : Nat) (w : World) (hT : TabL w A L) (hn : n = L.length) (hl : n ≤ 9223372036854775807) (hk : k < n) (hp : 1 < (L.getD k []).length) (e1 : partV (L.getD k []) 1 = 5) (h2 : 2 < (L.getD k []).length) :
    Calls Tryd.prog 24 #[.slice A n c, .int .i64 k] w (LongPost w (partsV (L.getD k []))) := by
  obtain ⟨a, A', C, rfl, hc, hm, hR⟩ := hT.row (k := k) (by omega)
  obtain ⟨a', rfl, hx⟩ := hR.lit (by omega)
  clear hT hR hn
  generalize L.getD k [] = p at *
  obtain ⟨m, hmp⟩ : ∃ m, m = p.length := ⟨_, rfl⟩
  have HM := Lib.hid hmp
  rw [← hmp] at hc hm hp hx
  rw [← hmp] at h2
  have HX := Lib.hid hx
  clear hx hmp
  have HA : Hid (∀ o, Below w.heap.size w (w.alloc o)) := Lib.hid fun o => (Below.refl _ _).alloc (Nat.le_refl _) _
  have c0 := hc _ (HA.out (.cells #[.int .u8 0, .int .u32 0] 25))
  obtain ⟨x1, h1⟩ : ∃ x, x = partV p 1 := ⟨_, rfl⟩
  have H1 := Lib.hid h1
  have c1 := ((HX.out 1 (by decide) hp).1 _ (HA.out (.cells #[.int .u8 0, .int .u32 0] 25)))
  rw [← h1] at c1
  rw [← h1] at e1
  subst e1
  clear h1 hc
  have g1 : decide ((m : Int) > 1) = true := by simp; omega
  have g2 : decide ((m : Int) > 2) = true := by simp; omega
  obtain ⟨x2, hx2⟩ : ∃ x, x = partV p 2 := ⟨_, rfl⟩
  have H2 := Lib.hid hx2
  have c2 := ((HX.out 2 (by decide) (by omega)).1 _ (HA.out (.cells #[.int .u8 0, .int .u32 0] 25)))
  rw [← hx2] at c2
  clear hx2
  cases hf2 : fitsB x2
  · have F2 := Lib.hid (fits_is hf2)
    have HV : Hid (partsV p = (zeroC, 0, false)) := Lib.hid (by unfold partsV; rw [← H1.out, ← H2.out, hf2]; simp)
    clear hf2
    unfold LongPost
    rw [HV.out]
    go_enter Tryd.func24, Tryd.ntmps24
    go_wp2_with (first | (go_at_call 35; refine (F2.out _).mono ?_; rintro e w' ⟨rfl, rfl⟩))
    all_goals
      refine bodyPost_ret (v := .tuple #[.agg #[.int .u8 0, .int .u32 0], .int .i64 0, .bool false]) (by simp [results, Tryd.results24, go_sem]) rfl ?_
      exact ⟨rfl, HA.out _⟩
  · have F2 := Lib.hid (fits_is hf2)
    have hb := fits_iff.1 hf2
    obtain ⟨b, rfl⟩ : ∃ b : Nat, x2 = b := ⟨x2.toNat, by omega⟩
    have HV : Hid (partsV p = (⟨1, b⟩, 0, true)) := Lib.hid (by unfold partsV; rw [← H1.out, ← H2.out, ← HM.out, if_pos ⟨rfl, h2, hf2⟩]; simp [tabV])
    clear hf2
    unfold LongPost
    rw [HV.out]
    go_enter Tryd.func24, Tryd.ntmps24
    go_wp2_with (first | (go_at_call 35; refine (F2.out _).mono ?_; rintro e w' ⟨rfl, rfl⟩))
    refine bodyPost_ret (v := .tuple #[.agg #[.int .u8 1, .int .u32 (b : Int)], .int .i64 0, .bool true]) (by simp [results, Tryd.results24, go_sem]) rfl ?_
    exact ⟨rfl, HA.out _⟩
set_option maxRecDepth 100000 in
set_option maxHeartbeats 4000000 in
theorem long_short5 (L : List (List Int)) (A : Option Addr) (n c k : Nat) (w : World) (hT : TabL w A L) (hn : n = L.length) (hl : n ≤ 9223372036854775807) (hk : k < n) (hp : 1 < (L.getD k []).length) (e1 : partV (L.getD k []) 1 = 5) (h2 : ¬ 2 < (L.getD k []).length) :
    Calls Tryd.prog 24 #[.slice A n c, .int .i64 k] w (LongPost w (partsV (L.getD k []))) := by
  obtain ⟨a, A', C, rfl, hc, hm, hR⟩ := hT.row (k := k) (by omega)
  obtain ⟨a', rfl, hx⟩ := hR.lit (by omega)
  clear hT hR hn
  generalize L.getD k [] = p at *
  obtain ⟨m, hmp⟩ : ∃ m, m = p.length := ⟨_, rfl⟩
  have HM := Lib.hid hmp
  rw [← hmp] at hc hm hp hx
  rw [← hmp] at h2
  have HX := Lib.hid hx
  clear hx hmp
  have HA : Hid (∀ o, Below w.heap.size w (w.alloc o)) := Lib.hid fun o => (Below.refl _ _).alloc (Nat.le_refl _) _
  have c0 := hc _ (HA.out (.cells #[.int .u8 0, .int .u32 0] 25))
  obtain ⟨x1, h1⟩ : ∃ x, x = partV p 1 := ⟨_, rfl⟩
  have H1 := Lib.hid h1
  have c1 := ((HX.out 1 (by decide) hp).1 _ (HA.out (.cells #[.int .u8 0, .int .u32 0] 25)))
  rw [← h1] at c1
  rw [← h1] at e1
  subst e1
  clear h1 hc
  have g1 : decide ((m : Int) > 1) = true := by simp; omega
  have g2 : decide ((m : Int) > 2) = false := by simp; omega
  have g5 : decide ((m : Int) > 5) = false := by simp; omega
  have HV : Hid (partsV p = (zeroC, 0, false)) := Lib.hid (by unfold partsV; rw [← H1.out, ← HM.out, if_neg (by omega), if_neg (by omega)])
  unfold LongPost
  rw [HV.out]
  go_enter Tryd.func24, Tryd.ntmps24
  go_wp2_with (fail)
  all_goals
    refine bodyPost_ret (v := .tuple #[.agg #[.int .u8 0, .int .u32 0], .int .i64 0, .bool false]) (by simp [results, Tryd.results24, go_sem]) rfl ?_
    exact ⟨rfl, HA.out _⟩
set_option maxRecDepth 100000 in
set_option maxHeartbeats 4000000 in
theorem long_few2 (L : List (List Int)) (A : Option Addr) (n c k : Nat) (w : World) (hT : TabL w A L) (hn : n = L.length) (hl : n ≤ 9223372036854775807) (hk : k < n) (hp : 1 < (L.getD k []).length) (e1 : partV (L.getD k []) 1 = 2) (h4 : ¬ 4 < (L.getD k []).length) :
    Calls Tryd.prog 24 #[.slice A n c, .int .i64 k] w (LongPost w (partsV (L.getD k []))) := by
  obtain ⟨a, A', C, rfl, hc, hm, hR⟩ := hT.row (k := k) (by omega)
  obtain ⟨a', rfl, hx⟩ := hR.lit (by omega)
  clear hT hR hn
  generalize L.getD k [] = p at *
  obtain ⟨m, hmp⟩ : ∃ m, m = p.length := ⟨_, rfl⟩
  have HM := Lib.hid hmp
  rw [← hmp] at hc hm hp hx
  rw [← hmp] at h4
  have HX := Lib.hid hx
  clear hx hmp
  have HA : Hid (∀ o, Below w.heap.size w (w.alloc o)) := Lib.hid fun o => (Below.refl _ _).alloc (Nat.le_refl _) _
  have c0 := hc _ (HA.out (.cells #[.int .u8 0, .int .u32 0] 25))
  obtain ⟨x1, h1⟩ : ∃ x, x = partV p 1 := ⟨_, rfl⟩
  have H1 := Lib.hid h1
  have c1 := ((HX.out 1 (by decide) hp).1 _ (HA.out (.cells #[.int .u8 0, .int .u32 0] 25)))
  rw [← h1] at c1
  rw [← h1] at e1
  subst e1
  clear h1 hc
  have g1 : decide ((m : Int) > 1) = true := by simp; omega
  have g4 : decide ((m : Int) > 4) = false := by simp; omega
  have g5 : decide ((m : Int) > 5) = false := by simp; omega
  have HV : Hid (partsV p = (zeroC, 0, false)) := Lib.hid (by unfold partsV; rw [← H1.out, ← HM.out, if_neg (by omega), if_neg (by omega)])
  unfold LongPost
  rw [HV.out]
  go_enter Tryd.func24, Tryd.ntmps24
  go_wp2_with (fail)
  all_goals
    refine bodyPost_ret (v := .tuple #[.agg #[.int .u8 0, .int .u32 0], .int .i64 0, .bool false]) (by simp [results, Tryd.results24, go_sem]) rfl ?_
    exact ⟨rfl, HA.out _⟩
set_option maxRecDepth 100000 in
set_option maxHeartbeats 4000000 in
theorem long_other (L : List (List Int)) (A : Option Addr) (n c k : Nat) (w : World) (hT : TabL w A L) (hn : n = L.length) (hl : n ≤ 9223372036854775807) (hk : k < n) (hp : 1 < (L.getD k []).length) (e5 : partV (L.getD k []) 1 ≠ 5) (e2 : partV (L.getD k []) 1 ≠ 2) :
    Calls Tryd.prog 24 #[.slice A n c, .int .i64 k] w (LongPost w (partsV (L.getD k []))) := by
  obtain ⟨a, A', C, rfl, hc, hm, hR⟩ := hT.row (k := k) (by omega)
  obtain ⟨a', rfl, hx⟩ := hR.lit (by omega)
  clear hT hR hn
  generalize L.getD k [] = p at *
  obtain ⟨m, hmp⟩ : ∃ m, m = p.length := ⟨_, rfl⟩
  have HM := Lib.hid hmp
  rw [← hmp] at hc hm hp hx
  have HX := Lib.hid hx
  clear hx hmp
  have HA : Hid (∀ o, Below w.heap.size w (w.alloc o)) := Lib.hid fun o => (Below.refl _ _).alloc (Nat.le_refl _) _
  have c0 := hc _ (HA.out (.cells #[.int .u8 0, .int .u32 0] 25))
  obtain ⟨x1, h1⟩ : ∃ x, x = partV p 1 := ⟨_, rfl⟩
  have H1 := Lib.hid h1
  have c1 := ((HX.out 1 (by decide) hp).1 _ (HA.out (.cells #[.int .u8 0, .int .u32 0] 25)))
  rw [← h1] at c1
  rw [← h1] at e5 e2
  clear h1 hc
  have g1 : decide ((m : Int) > 1) = true := by simp; omega
  have k5 : (x1 == 5) = false := by simpa using e5
  have k2 : (x1 == 2) = false := by simpa using e2
  have HV : Hid (partsV p = (zeroC, 0, false)) := Lib.hid (by unfold partsV; rw [← H1.out, if_neg (fun h => e5 h.1), if_neg (fun h => e2 h.1)])
  unfold LongPost
  rw [HV.out]
  go_enter Tryd.func24, Tryd.ntmps24
  go_wp2_with (fail)
  all_goals
    refine bodyPost_ret (v := .tuple #[.agg #[.int .u8 0, .int .u32 0], .int .i64 0, .bool false]) (by simp [results, Tryd.results24, go_sem]) rfl ?_
    exact ⟨rfl, HA.out _⟩
end Go.Proofs.YtjmojhohecbipaaDoor.A10
