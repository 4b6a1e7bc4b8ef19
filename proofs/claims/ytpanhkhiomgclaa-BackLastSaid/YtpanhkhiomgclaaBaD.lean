/- Layer 14, TRIAL: the program's New, Len, Gone, At, Clear, Last; slices.Clone of numbers. -/
import Derived.Test.YtpanhkhiomgclaaBaCd
set_option linter.unusedVariables false
namespace Go.Proofs.Ytpanhkhiomgclaa.Ba
open Go.RowKit

section
variable {w : World} {s : Value} {M G : Nat} {L : List Int} (h : BkAt w s M G L)
include h
/-- The struct, field by field. -/
theorem BkAt.open_ : ∃ p A c, s = .pointer (some ⟨p, 0, none⟩) ∧ w.heap[p]? = some (.cells #[.bool true, .int .i64 (M : Int), .slice A L.length c, .int .i64 (G : Int)] 41 (0, 0)) ∧ WinI w 0 (.slice A L.length c) L ∧ (∀ r, (Value.slice A L.length c).ownBlock = some r → r ≠ p) ∧ L.length ≤ M ∧ M ≤ 500 := by
  obtain ⟨p, v, e, hp, ho, hr, hc⟩ := h
  obtain ⟨A, c, rfl⟩ := winI_slice ho
  exact ⟨p, A, c, e, hp, ho, hr, hc⟩
theorem BkAt.cells (k : Nat) (hk : BkOwn w s k) : ∃ cs t fr, w.heap[k]? = some (.cells cs t fr) := by
  obtain ⟨p, A, c, rfl, hp, ho, -, -⟩ := h.open_
  obtain ⟨q, e, hq⟩ := hk
  cases e
  rcases hq with rfl | ⟨v, hv, hr⟩
  · exact ⟨_, _, _, hp⟩
  · rw [cell_of hp 2] at hv
    have e : v = .slice A L.length c := by simpa using hv.symm
    subst e
    obtain ⟨_, _, cur, hc⟩ := winI_ge ho k hr
    exact ⟨_, _, _, hc⟩
theorem BkAt.lt (k : Nat) (hk : BkOwn w s k) : k < w.heap.size := by
  obtain ⟨cs, t, fr, hc⟩ := h.cells k hk
  exact blk_lt hc
theorem BkAt.keep {w' : World} (hk : ∀ k, BkOwn w s k → w'.heap[k]? = w.heap[k]?) (hs : w.heap.size ≤ w'.heap.size) : BkAt w' s M G L ∧ ∀ k, BkOwn w' s k → BkOwn w s k := by
  obtain ⟨p, A, c, rfl, hp, ho, hr, hc⟩ := h.open_
  have hpk : w'.heap[p]? = w.heap[p]? := hk p ⟨p, rfl, Or.inl rfl⟩
  refine ⟨⟨p, _, rfl, hpk.trans hp, winI_keep ho fun r e => hk r ⟨p, rfl, Or.inr ⟨_, cell_of hp 2, e⟩⟩, hr, hc⟩, fun k hko => bk_own hpk hko⟩
theorem BkAt.below {w' : World} (hb : Below w.heap.size w w') : BkAt w' s M G L := (h.keep (fun k hk => hb.block k (h.lt k hk)) hb.size).1
set_option maxRecDepth 100000 in
theorem len_any : Calls Try.prog 15 #[s] w fun e w' => e = .returned (.int .i64 (L.length : Int)) ∧ Below w.heap.size w w' := by
  obtain ⟨p, A, c, rfl, hp, -, -, -⟩ := h.open_
  have c3 := cell_of hp 2
  generalize L.length = n at *
  clear hp
  go_enter Try.func15, Try.ntmps15
  go_wp2
  go_ret
  exact ⟨rfl, Below.refl _ _⟩
set_option maxRecDepth 100000 in
theorem gone_any : Calls Try.prog 16 #[s] w fun e w' => e = .returned (.int .i64 (G : Int)) ∧ Below w.heap.size w w' := by
  obtain ⟨p, A, c, rfl, hp, -, -, -⟩ := h.open_
  have c2 := cell_of hp 3
  generalize L.length = n at *
  clear hp
  go_enter Try.func16, Try.ntmps16
  go_wp2
  go_ret
  exact ⟨rfl, Below.refl _ _⟩
set_option maxRecDepth 100000 in
set_option maxHeartbeats 1000000 in
theorem at_any (i : Int) (hi : IntIn i) : Calls Try.prog 14 #[s, .int .i64 i] w fun e w' => e = .returned (.tuple #[.int .i64 (atX L i), .bool (atB L i)]) ∧ Below w.heap.size w w' := by
  have K := Lib.hid (len_any h)
  have hb := fun w' (hb : Below w.heap.size w w') => h.below hb
  obtain ⟨p, A, c, rfl, hp, ho, -, hcap⟩ := h.open_
  by_cases hin : 0 ≤ i ∧ i < (L.length : Int)
  · obtain ⟨N, rfl⟩ : ∃ N : Nat, i = (N : Int) := ⟨i.toNat, by omega⟩
    have hat : atB L (N : Int) = true := by unfold atB; simp; omega
    have hax : atX L (N : Int) = L.getD N 0 := by unfold atX; rw [if_pos hin, Int.toNat_natCast]
    obtain ⟨b, o, rfl, hbl, q1⟩ := (winI_lies ho).at_ (k := N) (by omega)
    have i1 := idx_int b o L.length c N (by omega)
    have g1 : decide ((N : Int) < 0) = false := by simp
    have g2 : decide ((N : Int) ≥ (L.length : Int)) = false := by simp; omega
    have g2' : decide (L.length ≤ N) = false := by simp; omega
    rw [hat, hax]
    have c3 := fun V (hV : Below w.heap.size w V) => (hV.cell (p := ⟨p, 2, none⟩) (blk_lt hp)).trans (cell_of hp 2)
    have q1' := fun V (hV : Below w.heap.size w V) => (hV.cell (p := ⟨b, o + N, none⟩) hbl).trans q1
    generalize L.getD N 0 = X at *
    generalize L.length = n at *
    clear hat hax hin hp ho q1 hbl hb
    go_enter Try.func14, Try.ntmps14
    go_wp2_with fail
    refine (show Calls _ _ _ _ _ from K.out).mono ?_
    rintro e w1 ⟨rfl, hb1⟩
    have c3 := c3 w1 hb1
    have q1 := q1' w1 hb1
    have HB := Lib.hid hb1
    clear q1' hb1 K
    go_wp2
    go_ret2
    exact ⟨rfl, HB.out⟩
  · have hat : atB L i = false := by unfold atB; simp; omega
    have hax : atX L i = 0 := by unfold atX; rw [if_neg hin]
    have hg : decide (i < 0) = true ∨ decide (i < 0) = false ∧ decide (i ≥ (L.length : Int)) = true := by
      by_cases h0 : i < 0
      · exact Or.inl (by simpa using h0)
      · exact Or.inr ⟨by simpa using h0, by simp; omega⟩
    rw [hat, hax]
    generalize L.length = n at *
    clear hat hax hin hp ho hb
    rcases hg with g1 | ⟨g1, g2⟩
    · go_enter Try.func14, Try.ntmps14
      go_wp2
      go_ret2
      exact ⟨rfl, Below.refl _ _⟩
    · go_enter Try.func14, Try.ntmps14
      go_wp2_with fail
      refine (show Calls _ _ _ _ _ from K.out).mono ?_
      rintro e w1 ⟨rfl, hb1⟩
      go_wp2
      go_ret2
      exact ⟨rfl, hb1⟩
set_option maxRecDepth 100000 in
theorem clear_any : Calls Try.prog 21 #[s] w fun e w' => e = .returned (.tuple #[]) ∧ BkAt w' s M G [] ∧ TurnB s w w' := by
  obtain ⟨p, A, c, rfl, hp, ho, hr, hcap⟩ := h.open_
  have c3 := cell_of hp 2
  have f3 := free_of hp 2
  have hh := heap_setCell_same w p 2 _ _ (.slice none 0 0) hp
  have hst : (w.setCell ⟨p, 2, none⟩ (.slice none 0 0)).heap[p]? = some (.cells #[.bool true, .int .i64 (M : Int), .slice none 0 0, .int .i64 (G : Int)] 41 (0, 0)) := by simpa using hh
  have HE : Hid (BkAt (w.setCell ⟨p, 2, none⟩ (.slice none 0 0)) (.pointer (some ⟨p, 0, none⟩)) M G [] ∧ TurnB (.pointer (some ⟨p, 0, none⟩)) w (w.setCell ⟨p, 2, none⟩ (.slice none 0 0))) := Lib.hid (by
    refine ⟨⟨p, _, rfl, hst, winI_none _ _, fun r e => by simp [Value.ownBlock] at e, Nat.zero_le _, hcap.2⟩, ⟨rfl, rfl, rfl, by simp, fun k hk hn => Below.heap_setCell _ _ _ _ (fun e => hn ⟨p, rfl, Or.inl e⟩), fun k hk => ?_⟩⟩
    obtain ⟨q, e, hq⟩ := hk
    cases e
    rcases hq with rfl | ⟨v, hv, hr'⟩
    · exact Or.inl ⟨k, rfl, Or.inl rfl⟩
    · rw [cell_of hst 2] at hv
      have e : v = .slice none 0 0 := by simpa using hv.symm
      subst e
      simp [Value.ownBlock] at hr')
  clear hp ho hr hcap hh hst
  go_enter Try.func21, Try.ntmps21
  go_wp2
  go_end0
  exact ⟨rfl, HE.out⟩
end
theorem nil_int (W : World) : (binOp .eql 22 (.slice none 0 0) (.slice none 0 0)).run Try.prog W = .ok (.bool true) W := by kernel_rfl
theorem not_nil (p : Addr) (n c : Nat) (W : World) : (binOp .eql 22 (.slice (some p) n c) (.slice none 0 0)).run Try.prog W = .ok (.bool false) W := by kernel_rfl
set_option maxRecDepth 100000 in
set_option maxHeartbeats 1000000 in
theorem clone_any {v : Value} {l : List Int} {w : World} (h : LiesI w v l) (hl : l.length ≤ 100000) : Calls Try.prog 32 #[v] w fun e w' => ∃ u, e = .returned u ∧ OwnI w' w.heap.size u l ∧ Below w.heap.size w w' := by
  obtain ⟨A, c, rfl, h0, -⟩ := id h
  cases A with
  | none =>
    obtain rfl := h0 rfl
    have hl0 : l.length = 0 := by have := h.len; omega
    have hnil : l = [] := List.eq_nil_of_length_eq_zero hl0
    subst hnil
    have k1 := nil_int
    go_enter Try.func32, Try.ntmps32
    go_wp2
    go_ret
    exact ⟨_, rfl, ownI_none _ _, Below.refl _ _⟩
  | some ad =>
    have k1 := not_nil ad l.length c
    have hA0 : Below w.heap.size w (w.alloc (.cells #[] 3)) := (Below.refl _ _).alloc (Nat.le_refl _) _
    have HL0 := Lib.hid (h.below hA0)
    have H0 := Lib.hid (own_zero w)
    have HA0 := Lib.hid hA0
    have HLl := Lib.hid hl
    obtain ⟨n, hn⟩ : ∃ n, n = l.length := ⟨_, rfl⟩
    rw [← hn] at k1 HL0 ⊢
    have HN := Lib.hid hn
    clear h hA0 hl h0 hn
    go_enter Try.func32, Try.ntmps32
    go_wp2_with (at_builtin; refine append_gen _ rfl (.tmp 5) (.tmp 6) rfl w.heap.size _ _ [] l rfl H0.out rfl HL0.out (by have := HLl.out; simp; omega) HA0.out.size ?_)
    intro A1 c1 w1 ho1 hg1
    have ho1 : OwnI w1 w.heap.size (.slice A1 l.length c1) l := ho1
    rw [← HN.out] at ho1
    have HO := Lib.hid ho1
    have HB : Hid (Below w.heap.size w w1) := Lib.hid (grown_below HA0.out hg1 H0.out (Nat.le_refl _) HA0.out.size)
    clear ho1 hg1
    go_wp2
    go_ret
    exact ⟨_, by rw [HN.out], by rw [HN.out] at HO; exact HO.out, HB.out⟩
end Go.Proofs.Ytpanhkhiomgclaa.Ba
