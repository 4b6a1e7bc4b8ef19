/- Layer 10: AttrStays' walk. -/
import Derived.Test.YtjmojhohecbipaaDoorAtGr
import Derived.OpenShut
set_option linter.unusedVariables false
namespace Go.Proofs.YtjmojhohecbipaaDoor.A10
open Go.RowKit Sgr

theorem TabL.take {w : World} {A : Option Addr} {L : List (List Int)} (h : TabL w A L) (k : Nat) : TabL w A (L.take k) := fun r hr => by
  rw [List.length_take] at hr
  have e : (L.take k).getD r [] = L.getD r [] := by rw [List.getD_eq_getElem?_getD, List.getD_eq_getElem?_getD, List.getElem?_take_of_lt (by omega)]
  rw [e]
  exact h r (by omega)

theorem go_ok : ∀ (l : List (List Int)) {a : At} (s : Nat), AtOk a → AtOk (goV a s l)
  | [], a, s, h => by cases s <;> exact h
  | p :: l, a, s + 1, h => go_ok l s h
  | p :: l, a, 0, h => go_ok l _ (step_ok h p l)
theorem apply_ok {a : At} (h : AtOk a) (l : List (List Int)) : AtOk (applyV a l) := by
  unfold applyV
  split
  · exact zero_ok
  · exact go_ok l 0 h

set_option maxHeartbeats 2000000 in
theorem stays_law (a : At) (l : List (List Int)) (A : Option Addr) (n c : Nat) (z : Int) (w : World) (ha : AtOk a) (hT : TabL w A l) (hn : n = l.length) (hl : n ≤ c) (hc : c ≤ 9223372036854775807) (hz : (Lit.int .u8 z).wf = true) (hv : AtVars w) :
    Calls Tryd.prog 7 #[atA a, .slice A n c, .int .u8 z] w fun e w' => e = .returned (.bool true) ∧ Below w.heap.size w w' := by
  have hzb := bounds_u8 hz
  obtain ⟨b, hb⟩ : ∃ b, b = applyV a l := ⟨_, rfl⟩
  obtain ⟨W, hW⟩ : ∃ W, W = w.alloc (.cells (atCells a) 27) := ⟨_, rfl⟩
  have hB : Below w.heap.size w W := by rw [hW]; exact (Below.refl _ _).alloc (Nat.le_refl _) _
  have hb0 : AttrAt W w.heap.size a := by rw [hW]; exact Deep.blk_alloc_new _ _
  have QA : Hid (∀ V, Below W.heap.size W V → AttrAt V w.heap.size a) := Lib.hid fun V hV => hb0.below hV
  have HA := Lib.hid (awake_any W (hv.1.below hB) (hv.2.below hB))
  have HW := Lib.hid hW
  have HB := Lib.hid hB
  have HG : Hid (∀ V, Below W.heap.size W V → Calls Tryd.prog 12 #[.slice A n c] V fun e w' => (∃ g, e = .returned (.bool g) ∧ (g = false → n ≤ 60)) ∧ w' = V) := Lib.hid fun V hV => great_any l A n c V (hT.below (hB.trans (hV.mono hB.size))) hn hl hc
  have HP : Hid (∀ V, Below W.heap.size W V → ∀ (a' : At), AtOk a' → Calls Tryd.prog 8 #[atA a', .slice A n c] V fun e w' => e = .returned (atA (applyV a' l)) ∧ Below V.heap.size V w') := Lib.hid fun V hV a' ha' => apply_any a' ha' l A n c V (hT.below (hB.trans (hV.mono hB.size))) hn hl hc (hv.2.below (hB.trans (hV.mono hB.size)))
  have HT : Hid (∀ k, k ≤ n → ∀ V, Below W.heap.size W V → ∀ (a' : At), AtOk a' → Calls Tryd.prog 8 #[atA a', .slice A k c] V fun e w' => e = .returned (atA (applyV a' (l.take k))) ∧ Below V.heap.size V w') := Lib.hid fun k hk V hV a' ha' => apply_any a' ha' (l.take k) A k c V ((hT.below (hB.trans (hV.mono hB.size))).take k) (by rw [List.length_take]; omega) (by omega) hc (hv.2.below (hB.trans (hV.mono hB.size)))
  have HOb : Hid (AtOk b) := Lib.hid (by rw [hb]; exact apply_ok ha l)
  have HTab := Lib.hid hT
  have Hb := Lib.hid hb
  have Hn := Lib.hid hn
  have HOa := Lib.hid ha
  have PR : Hid (∀ V (a' : At), AtOk a' → Calls Tryd.prog 11 #[atA a'] V fun e w' => e = .returned (.bool (rightB a')) ∧ Below V.heap.size V w') := Lib.hid fun V a' h => pright_any a' h V
  have HV := Lib.hid hv
  have ea : atA a = .agg #[.int .u16 (a.fl : Int), .int .u8 (a.fg.kind : Int), .int .u32 (a.fg.n : Int), .int .u8 (a.bg.kind : Int), .int .u32 (a.bg.n : Int)] := rfl
  have EA := Lib.hid ea
  rw [ea]
  clear hT hn hb ha hB hW hb0 hv ea
  go_enter Tryd.func7, Tryd.ntmps7
  go_wp2_with fail
  rw [show (#[.int .u16 (a.fl : Int), .int .u8 (a.fg.kind : Int), .int .u32 (a.fg.n : Int), .int .u8 (a.bg.kind : Int), .int .u32 (a.bg.n : Int)] : Array Value) = atCells a from rfl]
  rw [← HW.out]
  refine HA.out.mono ?_
  rintro e w1 ⟨rfl, b1⟩
  have qa0 := (QA.out _ b1).c0
  have qa1 := (QA.out _ b1).c1
  have qa2 := (QA.out _ b1).c2
  have qa3 := (QA.out _ b1).c3
  have qa4 := (QA.out _ b1).c4
  have B1 := Lib.hid b1
  clear b1
  go_wp2_with fail
  refine (HG.out _ B1.out).mono ?_
  rintro e w' ⟨⟨g, rfl, hg⟩, rfl⟩
  cases g
  case true =>
    go_wp2
    go_ret
    exact ⟨rfl, HB.out.trans (B1.out.mono HB.out.size)⟩
  case false =>
    go_wp2_with fail
    rw [← EA.out]
    refine (HP.out _ B1.out a HOa.out).mono ?_
    rintro e w2 ⟨rfl, b2⟩
    rw [← Hb.out]
    have B2 := B1.out.trans (b2.mono B1.out.size)
    obtain ⟨W2, hW2⟩ : ∃ W2, W2 = w2.alloc (.cells (atCells b) 27) := ⟨_, rfl⟩
    have hB2 : Below W.heap.size W W2 := by rw [hW2]; exact B2.alloc B2.size _
    have hbl : AttrAt W2 w2.heap.size b := by rw [hW2]; exact Deep.blk_alloc_new _ _
    have QA2 : Hid (∀ V, Below W2.heap.size W2 V → AttrAt V w.heap.size a) := Lib.hid fun V hV => QA.out V (hB2.trans (hV.mono hB2.size))
    have QB2 : Hid (∀ V, Below W2.heap.size W2 V → AttrAt V w2.heap.size b) := Lib.hid fun V hV => hbl.below hV
    have HB2 := Lib.hid hB2
    have HW2 := Lib.hid hW2
    have s0 := (QA2.out _ (Below.refl _ _)).c0
    have s1 := (QA2.out _ (Below.refl _ _)).c1
    have s2 := (QA2.out _ (Below.refl _ _)).c2
    have s3 := (QA2.out _ (Below.refl _ _)).c3
    have s4 := (QA2.out _ (Below.refl _ _)).c4
    have PA : Hid (∀ V, Calls Tryd.prog 11 #[.agg #[.int .u16 (a.fl : Int), .int .u8 (a.fg.kind : Int), .int .u32 (a.fg.n : Int), .int .u8 (a.bg.kind : Int), .int .u32 (a.bg.n : Int)]] V fun e w' => e = .returned (.bool (rightB a)) ∧ Below V.heap.size V w') := Lib.hid fun V => PR.out V a HOa.out
    have PB : Hid (∀ V, Calls Tryd.prog 11 #[.agg #[.int .u16 (b.fl : Int), .int .u8 (b.fg.kind : Int), .int .u32 (b.fg.n : Int), .int .u8 (b.bg.kind : Int), .int .u32 (b.bg.n : Int)]] V fun e w' => e = .returned (.bool (rightB b)) ∧ Below V.heap.size V w') := Lib.hid fun V => PR.out V b HOb.out
    have HW2x : w2.alloc (.cells #[.int .u16 (b.fl : Int), .int .u8 (b.fg.kind : Int), .int .u32 (b.fg.n : Int), .int .u8 (b.bg.kind : Int), .int .u32 (b.bg.n : Int)] 27) = W2 := hW2.symm
    have HX2 := Lib.hid HW2x
    rw [← HW2x] at s0 s1 s2 s3 s4
    clear HW2x
    have HI : Hid (rightB a = true → rightB b = true) := Lib.hid fun h => by rw [Hb.out]; exact apply_right h l
    have eb : atA b = .agg #[.int .u16 (b.fl : Int), .int .u8 (b.fg.kind : Int), .int .u32 (b.fg.n : Int), .int .u8 (b.bg.kind : Int), .int .u32 (b.bg.n : Int)] := rfl
    have EB := Lib.hid eb
    rw [eb]
    clear eb hbl hB2 B2 b2 hW2 qa0 qa1 qa2 qa3 qa4
    generalize rightB a = x at *
    generalize rightB b = y at *
    go_wp2_with fail
    rw [HX2.out]
    refine (PA.out _).mono ?_
    rintro e w3 ⟨rfl, b3⟩
    have ta0 := (QA2.out _ b3).c0
    have ta1 := (QA2.out _ b3).c1
    have ta2 := (QA2.out _ b3).c2
    have ta3 := (QA2.out _ b3).c3
    have ta4 := (QA2.out _ b3).c4
    have tb0 := (QB2.out _ b3).c0
    have tb1 := (QB2.out _ b3).c1
    have tb2 := (QB2.out _ b3).c2
    have tb3 := (QB2.out _ b3).c3
    have tb4 := (QB2.out _ b3).c4
    have B3 := Lib.hid b3
    clear b3 s0 s1 s2 s3 s4
    have hn60 : n ≤ 60 := by simpa using hg
    obtain ⟨K, hKe⟩ : ∃ K : Nat, (K : Int) = z % ((n : Int) + 1) := ⟨(z % ((n : Int) + 1)).toNat, by have := Int.emod_nonneg z (show (n : Int) + 1 ≠ 0 by omega); omega⟩
    have hKn : K ≤ n := by have := Int.emod_lt_of_pos z (show (0 : Int) < (n : Int) + 1 by omega); omega
    have hK' : z % ((n : Int) + 1) = (K : Int) := hKe.symm
    have hKc : K = 0 ∨ (0 < K ∧ K = n) ∨ 0 < K ∧ K < n := by omega
    clear hKe hg
    cases x
    case true =>
      have hy : y = true := HI.out rfl
      subst hy
      go_wp2_with fail
      refine (PB.out _).mono ?_
      rintro e w4 ⟨rfl, b4⟩
      have B4 := Lib.hid (B3.out.trans (b4.mono B3.out.size))
      clear b4
      rcases hKc with hK0 | ⟨hK1, hK0⟩ | ⟨hK0, hK1⟩
      · subst hK0
        go_wp2
        go_ret
        exact ⟨rfl, HB.out.trans ((HB2.out.trans (B4.out.mono HB2.out.size)).mono HB.out.size)⟩
      · have g1 : ((K : Int) == 0) = false := by simp; omega
        have g2 : ((K : Int) == (n : Int)) = true := by simp; omega
        go_wp2
        go_ret
        exact ⟨rfl, HB.out.trans ((HB2.out.trans (B4.out.mono HB2.out.size)).mono HB.out.size)⟩
      · have g1 : ((K : Int) == 0) = false := by simp; omega
        have g2 : ((K : Int) == (n : Int)) = false := by simp; omega
        go_wp2
        go_loopw [9] (fun i wr => ∃ j : Nat, j ≤ K ∧ i = .int .i64 j ∧ Hid (∀ r, r < j → partV (l.getD r []) 0 ≠ 38 ∧ partV (l.getD r []) 0 ≠ 48) ∧ Hid (Below W2.heap.size W2 wr)) (fun i _ => K - (RowKit.intOf i).toNat)
        case atStart => exact ⟨0, Nat.zero_le _, rfl, Lib.hid fun r hr => absurd hr (Nat.not_lt_zero r), B4⟩
        case round =>
          obtain ⟨j, hj, rfl, HN, HU⟩ := hrel
          rename_i wr
          by_cases hjK : j < K
          · obtain ⟨ad, B, C, rfl, hrow, _, _, hR⟩ := HTab.out.row2 (k := j) (by rw [← Hn.out]; omega)
            have hbw : Below w.heap.size w wr := HB.out.trans ((HB2.out.trans (HU.out.mono HB2.out.size)).mono HB.out.size)
            have hcell := hrow _ hbw
            have hcd := hrow _ (below_drew hbw 1)
            have hrn := fun i => hrow _ (below_drew hbw i)
            have gj : decide ((j : Int) < (K : Int)) = true := by simp; omega
            have hjn : j < n := by omega
            have hp0 : (l.getD j []).length = 0 → partV (l.getD j []) 0 = 0 := fun h0 => by
              show List.getD _ 0 0 = 0
              rw [List.getD_eq_getElem?_getD, List.getElem?_eq_none (by omega)]; rfl
            have HNx : Hid (partV (l.getD j []) 0 ≠ 38 → partV (l.getD j []) 0 ≠ 48 → ∀ r, r < j + 1 → partV (l.getD r []) 0 ≠ 38 ∧ partV (l.getD r []) 0 ≠ 48) := Lib.hid fun h1 h2 r hr => by
              rcases Nat.lt_succ_iff_lt_or_eq.1 hr with hr | rfl
              · exact HN.out r hr
              · exact ⟨h1, h2⟩
            obtain ⟨m, hm⟩ : ∃ m, m = (l.getD j []).length := ⟨_, rfl⟩
            rw [← hm] at hcell hcd hp0
            have hrn : ∀ i, (wr.drewN i).cell? (ad.add j) = some (.slice B m C) := fun i => by rw [hm]; exact hrn i
            by_cases h0 : m = 0
            · subst h0
              have hx0 := hp0 rfl
              rw [hx0] at HNx
              clear hR hm hrow hbw
              go_wp2_with fail
              go_roundw
              case rel => exact ⟨j + 1, by omega, by go_num, Lib.hid (HNx.out (by decide) (by decide)), HU⟩
              case measure => simp [RowKit.intOf]; omega
            · obtain ⟨bb, rfl, hxc, _⟩ := hR 0 (by omega)
              rw [add_zero'] at hxc
              have hxw := (hbw.cell (cell_lt hxc)).trans hxc
              have hxd : wr.drew.cell? bb = _ := hxw
              have hxn : ∀ i, (wr.drewN i).cell? bb = _ := fun i => hxw
              have gm : decide ((m : Int) > 0) = true := by simp; omega
              have hm0 : 0 < m := by omega
              obtain ⟨x, hxe⟩ : ∃ x, x = partV (l.getD j []) 0 := ⟨_, rfl⟩
              rw [← hxe] at hxw hxd hxn HNx
              clear hR hm hrow hbw hxe hxc
              by_cases h38 : x = 38
              · have g38 : (x == 38) = true := by simpa using h38
                subst h38
                go_wp2_with fail
                go_ret
                exact ⟨rfl, HB.out.trans ((HB2.out.trans (HU.out.mono HB2.out.size)).mono HB.out.size)⟩
              by_cases h48 : x = 48
              · subst h48
                go_wp2_with fail
                go_ret
                exact ⟨rfl, HB.out.trans ((HB2.out.trans (HU.out.mono HB2.out.size)).mono HB.out.size)⟩
              · have g38 : (x == 38) = false := by simpa using h38
                have g48 : (x == 48) = false := by simpa using h48
                have HNy := Lib.hid (HNx.out h38 h48)
                clear h38 h48 HNx
                go_wp2_with fail
                go_roundw
                case rel => exact ⟨j + 1, by omega, by go_num, HNy, HU⟩
                case measure => simp [RowKit.intOf]; omega
          · have hjk : j = K := by omega
            subst hjk
            obtain ⟨ad, B, C, rfl, _, _, _, _⟩ := HTab.out.row2 (k := 0) (by rw [← Hn.out]; omega)
            have hWU : Below W.heap.size W wr := HB2.out.trans (HU.out.mono HB2.out.size)
            have HWU := Lib.hid hWU
            obtain ⟨r, hr⟩ : ∃ r, r = applyV a (l.take j) := ⟨_, rfl⟩
            have hrOk : AtOk r := by rw [hr]; exact apply_ok HOa.out _
            have hrb : applyV r (l.drop j) = b := by
              rw [hr, Hb.out, apply_parts a (l.take j) (l.drop j) (by intro e; have h := congrArg List.length e; rw [List.length_take, ← Hn.out, List.length_nil] at h; omega) (by intro e; have h := congrArg List.length e; rw [List.length_drop, ← Hn.out, List.length_nil] at h; omega), List.take_append_drop]
              intro p hp
              obtain ⟨i, hi, rfl⟩ := List.getElem_of_mem hp
              rw [List.length_take] at hi
              have := HN.out i (by omega)
              rw [List.getD_eq_getElem?_getD, List.getElem?_eq_getElem (by omega)] at this
              rw [List.getElem_take]
              unfold aloneB
              simp only [Bool.or_eq_true, Bool.and_eq_true]
              exact Or.inl ⟨by simpa using this.1, by simpa using this.2⟩
            have T1 : Hid (∀ V, Below wr.heap.size wr V → Calls Tryd.prog 8 #[.agg #[.int .u16 (a.fl : Int), .int .u8 (a.fg.kind : Int), .int .u32 (a.fg.n : Int), .int .u8 (a.bg.kind : Int), .int .u32 (a.bg.n : Int)], .slice (some ad) j c] V fun e w' => e = .returned (atA r) ∧ Below wr.heap.size wr w') := Lib.hid fun V hV => by
              rw [hr]
              exact (HT.out j (by omega) V (HWU.out.trans (hV.mono HWU.out.size)) a HOa.out).mono fun _ _ hh => ⟨hh.1, hV.trans (hh.2.mono hV.size)⟩
            have T2 : Hid (∀ V, Below wr.heap.size wr V → Calls Tryd.prog 8 #[atA r, .slice (some (ad.add j)) (n - j) (c - j)] V fun e w' => e = .returned (.agg #[.int .u16 (b.fl : Int), .int .u8 (b.fg.kind : Int), .int .u32 (b.fg.n : Int), .int .u8 (b.bg.kind : Int), .int .u32 (b.bg.n : Int)]) ∧ Below wr.heap.size wr w') := Lib.hid fun V hV => by
              have hbV := HB.out.trans ((HWU.out.trans (hV.mono HWU.out.size)).mono HB.out.size)
              have hT2 := (HTab.out.below hbV).drop j
              have := (apply_any r hrOk (l.drop j) _ (n - j) (c - j) V hT2 (by rw [List.length_drop, ← Hn.out]) (by omega) (by omega) (HV.out.2.below hbV)).mono fun _ _ hh => (⟨hh.1, hV.trans (hh.2.mono hV.size)⟩ : _ ∧ Below wr.heap.size wr _)
              rw [hrb] at this
              exact this
            have EQ : ∀ V, (binOp .eql 27 (.agg #[.int .u16 (b.fl : Int), .int .u8 (b.fg.kind : Int), .int .u32 (b.fg.n : Int), .int .u8 (b.bg.kind : Int), .int .u32 (b.bg.n : Int)]) (.agg #[.int .u16 (b.fl : Int), .int .u8 (b.fg.kind : Int), .int .u32 (b.fg.n : Int), .int .u8 (b.bg.kind : Int), .int .u32 (b.bg.n : Int)])).run Tryd.prog V = .ok (.bool true) V := fun V => eq_same b V
            have SA : Hid (∀ V, Below wr.heap.size wr V → AttrAt V w.heap.size a) := Lib.hid fun V hV => QA2.out V (HU.out.trans (hV.mono HU.out.size))
            have SB : Hid (∀ V, Below wr.heap.size wr V → AttrAt V w2.heap.size b) := Lib.hid fun V hV => QB2.out V (HU.out.trans (hV.mono HU.out.size))
            have k0 : Below wr.heap.size wr wr.drew := below_drew (Below.refl _ _) 1
            have ca0 := fun V hV => (SA.out V hV).c0
            have cb0 := fun V hV => (SB.out V hV).c0
            have ca1 := fun V hV => (SA.out V hV).c1
            have cb1 := fun V hV => (SB.out V hV).c1
            have ca2 := fun V hV => (SA.out V hV).c2
            have cb2 := fun V hV => (SB.out V hV).c2
            have ca3 := fun V hV => (SA.out V hV).c3
            have cb3 := fun V hV => (SB.out V hV).c3
            have ca4 := fun V hV => (SA.out V hV).c4
            have cb4 := fun V hV => (SB.out V hV).c4
            have gj : decide ((j : Int) < (j : Int)) = false := by simp
            have hcj : ¬ c = j := by omega
            have hi0 : (0 : Int) ≤ (j : Int) := by omega
            have hi1 : (j : Int) ≤ (n : Int) := by omega
            have hi2 : (j : Int) ≤ (c : Int) := by omega
            have hi3 : (n : Int) ≤ (c : Int) := by omega
            clear hr hrOk hrb hWU
            go_wp2_with fail
            go_region_held3 (fun V => Below wr.heap.size wr V)
              (assumption)
              (first | (go_at_call 8; (with_reducible refine (T1.out _ (by assumption)).mono ?_); rintro e y1 ⟨rfl, j1⟩) | (go_at_call 8; (with_reducible refine (T2.out _ (by assumption)).mono ?_); rintro e y2 ⟨rfl, j2⟩))
            all_goals
              go_wp2
              go_ret
              exact ⟨rfl, HB.out.trans ((HWU.out.trans (j2.mono HWU.out.size)).mono HB.out.size)⟩
    case false =>
      rcases hKc with hK0 | ⟨hK1, hK0⟩ | ⟨hK0, hK1⟩
      · subst hK0
        go_wp2
        go_ret
        exact ⟨rfl, HB.out.trans ((HB2.out.trans (B3.out.mono HB2.out.size)).mono HB.out.size)⟩
      · have g1 : ((K : Int) == 0) = false := by simp; omega
        have g2 : ((K : Int) == (n : Int)) = true := by simp; omega
        go_wp2
        go_ret
        exact ⟨rfl, HB.out.trans ((HB2.out.trans (B3.out.mono HB2.out.size)).mono HB.out.size)⟩
      · have g1 : ((K : Int) == 0) = false := by simp; omega
        have g2 : ((K : Int) == (n : Int)) = false := by simp; omega
        go_wp2
        go_loopw [9] (fun i wr => ∃ j : Nat, j ≤ K ∧ i = .int .i64 j ∧ Hid (∀ r, r < j → partV (l.getD r []) 0 ≠ 38 ∧ partV (l.getD r []) 0 ≠ 48) ∧ Hid (Below W2.heap.size W2 wr)) (fun i _ => K - (RowKit.intOf i).toNat)
        case atStart => exact ⟨0, Nat.zero_le _, rfl, Lib.hid fun r hr => absurd hr (Nat.not_lt_zero r), B3⟩
        case round =>
          obtain ⟨j, hj, rfl, HN, HU⟩ := hrel
          rename_i wr
          by_cases hjK : j < K
          · obtain ⟨ad, B, C, rfl, hrow, _, _, hR⟩ := HTab.out.row2 (k := j) (by rw [← Hn.out]; omega)
            have hbw : Below w.heap.size w wr := HB.out.trans ((HB2.out.trans (HU.out.mono HB2.out.size)).mono HB.out.size)
            have hcell := hrow _ hbw
            have hcd := hrow _ (below_drew hbw 1)
            have hrn := fun i => hrow _ (below_drew hbw i)
            have gj : decide ((j : Int) < (K : Int)) = true := by simp; omega
            have hjn : j < n := by omega
            have hp0 : (l.getD j []).length = 0 → partV (l.getD j []) 0 = 0 := fun h0 => by
              show List.getD _ 0 0 = 0
              rw [List.getD_eq_getElem?_getD, List.getElem?_eq_none (by omega)]; rfl
            have HNx : Hid (partV (l.getD j []) 0 ≠ 38 → partV (l.getD j []) 0 ≠ 48 → ∀ r, r < j + 1 → partV (l.getD r []) 0 ≠ 38 ∧ partV (l.getD r []) 0 ≠ 48) := Lib.hid fun h1 h2 r hr => by
              rcases Nat.lt_succ_iff_lt_or_eq.1 hr with hr | rfl
              · exact HN.out r hr
              · exact ⟨h1, h2⟩
            obtain ⟨m, hm⟩ : ∃ m, m = (l.getD j []).length := ⟨_, rfl⟩
            rw [← hm] at hcell hcd hp0
            have hrn : ∀ i, (wr.drewN i).cell? (ad.add j) = some (.slice B m C) := fun i => by rw [hm]; exact hrn i
            by_cases h0 : m = 0
            · subst h0
              have hx0 := hp0 rfl
              rw [hx0] at HNx
              clear hR hm hrow hbw
              go_wp2_with fail
              go_roundw
              case rel => exact ⟨j + 1, by omega, by go_num, Lib.hid (HNx.out (by decide) (by decide)), HU⟩
              case measure => simp [RowKit.intOf]; omega
            · obtain ⟨bb, rfl, hxc, _⟩ := hR 0 (by omega)
              rw [add_zero'] at hxc
              have hxw := (hbw.cell (cell_lt hxc)).trans hxc
              have hxd : wr.drew.cell? bb = _ := hxw
              have hxn : ∀ i, (wr.drewN i).cell? bb = _ := fun i => hxw
              have gm : decide ((m : Int) > 0) = true := by simp; omega
              have hm0 : 0 < m := by omega
              obtain ⟨x, hxe⟩ : ∃ x, x = partV (l.getD j []) 0 := ⟨_, rfl⟩
              rw [← hxe] at hxw hxd hxn HNx
              clear hR hm hrow hbw hxe hxc
              by_cases h38 : x = 38
              · have g38 : (x == 38) = true := by simpa using h38
                subst h38
                go_wp2_with fail
                go_ret
                exact ⟨rfl, HB.out.trans ((HB2.out.trans (HU.out.mono HB2.out.size)).mono HB.out.size)⟩
              by_cases h48 : x = 48
              · subst h48
                go_wp2_with fail
                go_ret
                exact ⟨rfl, HB.out.trans ((HB2.out.trans (HU.out.mono HB2.out.size)).mono HB.out.size)⟩
              · have g38 : (x == 38) = false := by simpa using h38
                have g48 : (x == 48) = false := by simpa using h48
                have HNy := Lib.hid (HNx.out h38 h48)
                clear h38 h48 HNx
                go_wp2_with fail
                go_roundw
                case rel => exact ⟨j + 1, by omega, by go_num, HNy, HU⟩
                case measure => simp [RowKit.intOf]; omega
          · have hjk : j = K := by omega
            subst hjk
            obtain ⟨ad, B, C, rfl, _, _, _, _⟩ := HTab.out.row2 (k := 0) (by rw [← Hn.out]; omega)
            have hWU : Below W.heap.size W wr := HB2.out.trans (HU.out.mono HB2.out.size)
            have HWU := Lib.hid hWU
            obtain ⟨r, hr⟩ : ∃ r, r = applyV a (l.take j) := ⟨_, rfl⟩
            have hrOk : AtOk r := by rw [hr]; exact apply_ok HOa.out _
            have hrb : applyV r (l.drop j) = b := by
              rw [hr, Hb.out, apply_parts a (l.take j) (l.drop j) (by intro e; have h := congrArg List.length e; rw [List.length_take, ← Hn.out, List.length_nil] at h; omega) (by intro e; have h := congrArg List.length e; rw [List.length_drop, ← Hn.out, List.length_nil] at h; omega), List.take_append_drop]
              intro p hp
              obtain ⟨i, hi, rfl⟩ := List.getElem_of_mem hp
              rw [List.length_take] at hi
              have := HN.out i (by omega)
              rw [List.getD_eq_getElem?_getD, List.getElem?_eq_getElem (by omega)] at this
              rw [List.getElem_take]
              unfold aloneB
              simp only [Bool.or_eq_true, Bool.and_eq_true]
              exact Or.inl ⟨by simpa using this.1, by simpa using this.2⟩
            have T1 : Hid (∀ V, Below wr.heap.size wr V → Calls Tryd.prog 8 #[.agg #[.int .u16 (a.fl : Int), .int .u8 (a.fg.kind : Int), .int .u32 (a.fg.n : Int), .int .u8 (a.bg.kind : Int), .int .u32 (a.bg.n : Int)], .slice (some ad) j c] V fun e w' => e = .returned (atA r) ∧ Below wr.heap.size wr w') := Lib.hid fun V hV => by
              rw [hr]
              exact (HT.out j (by omega) V (HWU.out.trans (hV.mono HWU.out.size)) a HOa.out).mono fun _ _ hh => ⟨hh.1, hV.trans (hh.2.mono hV.size)⟩
            have T2 : Hid (∀ V, Below wr.heap.size wr V → Calls Tryd.prog 8 #[atA r, .slice (some (ad.add j)) (n - j) (c - j)] V fun e w' => e = .returned (.agg #[.int .u16 (b.fl : Int), .int .u8 (b.fg.kind : Int), .int .u32 (b.fg.n : Int), .int .u8 (b.bg.kind : Int), .int .u32 (b.bg.n : Int)]) ∧ Below wr.heap.size wr w') := Lib.hid fun V hV => by
              have hbV := HB.out.trans ((HWU.out.trans (hV.mono HWU.out.size)).mono HB.out.size)
              have hT2 := (HTab.out.below hbV).drop j
              have := (apply_any r hrOk (l.drop j) _ (n - j) (c - j) V hT2 (by rw [List.length_drop, ← Hn.out]) (by omega) (by omega) (HV.out.2.below hbV)).mono fun _ _ hh => (⟨hh.1, hV.trans (hh.2.mono hV.size)⟩ : _ ∧ Below wr.heap.size wr _)
              rw [hrb] at this
              exact this
            have EQ : ∀ V, (binOp .eql 27 (.agg #[.int .u16 (b.fl : Int), .int .u8 (b.fg.kind : Int), .int .u32 (b.fg.n : Int), .int .u8 (b.bg.kind : Int), .int .u32 (b.bg.n : Int)]) (.agg #[.int .u16 (b.fl : Int), .int .u8 (b.fg.kind : Int), .int .u32 (b.fg.n : Int), .int .u8 (b.bg.kind : Int), .int .u32 (b.bg.n : Int)])).run Tryd.prog V = .ok (.bool true) V := fun V => eq_same b V
            have SA : Hid (∀ V, Below wr.heap.size wr V → AttrAt V w.heap.size a) := Lib.hid fun V hV => QA2.out V (HU.out.trans (hV.mono HU.out.size))
            have SB : Hid (∀ V, Below wr.heap.size wr V → AttrAt V w2.heap.size b) := Lib.hid fun V hV => QB2.out V (HU.out.trans (hV.mono HU.out.size))
            have k0 : Below wr.heap.size wr wr.drew := below_drew (Below.refl _ _) 1
            have ca0 := fun V hV => (SA.out V hV).c0
            have cb0 := fun V hV => (SB.out V hV).c0
            have ca1 := fun V hV => (SA.out V hV).c1
            have cb1 := fun V hV => (SB.out V hV).c1
            have ca2 := fun V hV => (SA.out V hV).c2
            have cb2 := fun V hV => (SB.out V hV).c2
            have ca3 := fun V hV => (SA.out V hV).c3
            have cb3 := fun V hV => (SB.out V hV).c3
            have ca4 := fun V hV => (SA.out V hV).c4
            have cb4 := fun V hV => (SB.out V hV).c4
            have gj : decide ((j : Int) < (j : Int)) = false := by simp
            have hcj : ¬ c = j := by omega
            have hi0 : (0 : Int) ≤ (j : Int) := by omega
            have hi1 : (j : Int) ≤ (n : Int) := by omega
            have hi2 : (j : Int) ≤ (c : Int) := by omega
            have hi3 : (n : Int) ≤ (c : Int) := by omega
            clear hr hrOk hrb hWU
            go_wp2_with fail
            go_region_held3 (fun V => Below wr.heap.size wr V)
              (assumption)
              (first | (go_at_call 8; (with_reducible refine (T1.out _ (by assumption)).mono ?_); rintro e y1 ⟨rfl, j1⟩) | (go_at_call 8; (with_reducible refine (T2.out _ (by assumption)).mono ?_); rintro e y2 ⟨rfl, j2⟩))
            all_goals
              go_wp2
              go_ret
              exact ⟨rfl, HB.out.trans ((HWU.out.trans (j2.mono HWU.out.size)).mono HB.out.size)⟩
end Go.Proofs.YtjmojhohecbipaaDoor.A10
