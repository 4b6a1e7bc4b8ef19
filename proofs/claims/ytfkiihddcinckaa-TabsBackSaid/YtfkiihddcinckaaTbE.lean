/- Layer 12: the document's stops: Set. -/
import Derived.Test.YtfkiihddcinckaaTbD
import Derived.Laws.Rows
set_option linter.unusedVariables false
namespace Go.Proofs.Ytfkiihddcinckaa.Tb
open Go.RowKit

/-! ### a list that grows in a struct of the call's own -/
structure RefG (B : Nat) (w0 : World) (o W : Nat) (v : Value) (l : List Nat) (wr : World) : Prop where
  below : Below B w0 wr
  box : wr.heap[o]? = some (refO W v)
  own : OwnI wr B v l
  ho : B ≤ o
  hs : B ≤ w0.heap.size
namespace RefG
variable {B o W : Nat} {w0 wr w1 w2 : World} {v v' : Value} {l l' : List Nat}
theorem ne (h : RefG B w0 o W v l wr) : v.ownBlock ≠ some o := fun e => by
  obtain ⟨_, _, cur, hc⟩ := ownI_ge h.own o e
  rw [h.box] at hc
  simp at hc
theorem lt (h : RefG B w0 o W v l wr) : o < wr.heap.size := blk_lt h.box
theorem old (h : RefG B w0 o W v l wr) (hb : Below wr.heap.size wr w1) : RefG B w0 o W v l w1 :=
  ⟨h.below.trans (hb.mono (Nat.le_trans h.ho (Nat.le_of_lt h.lt))), (hb.block o h.lt).trans h.box, ownI_below h.own hb, h.ho, h.hs⟩
theorem alloc (h : RefG B w0 o W v l wr) (ob : Obj) : RefG B w0 o W v l (wr.alloc ob) := h.old ((Below.refl _ _).alloc (Nat.le_refl _) _)
theorem cell0 (h : RefG B w0 o W v l wr) : wr.cell? ⟨o, 0, none⟩ = some (.int .i64 (W : Int)) := cell_of h.box 0
theorem cell1 (h : RefG B w0 o W v l wr) : wr.cell? ⟨o, 1, none⟩ = some v := cell_of h.box 1
theorem free (h : RefG B w0 o W v l wr) (i : Nat) : wr.frozen? ⟨o, i, none⟩ = false := free_of h.box i
/-- Behind an append, before the store. -/
theorem grown (h : RefG B w0 o W v l w1) (hg : w1.grownBy w2 v.ownBlock) : Below B w0 w2 ∧ w2.heap[o]? = some (refO W v) :=
  ⟨grown_below h.below hg h.own (Nat.le_refl _) (Nat.le_trans h.ho (Nat.le_of_lt h.lt)), (hg.block o h.lt (fun e => h.ne e.symm)).trans h.box⟩
theorem stored (hb : Below B w0 w2) (hx : w2.heap[o]? = some (refO W v)) (ho : OwnI w2 B v' l') (h1 : B ≤ o) (hs : B ≤ w0.heap.size) : RefG B w0 o W v' l' (w2.setCell ⟨o, 1, none⟩ v') := by
  have hk : ∀ g, v'.ownBlock = some g → g ≠ o := fun g hg e => by
    obtain ⟨_, _, cur, hc⟩ := ownI_ge ho g hg
    rw [e, hx] at hc
    simp at hc
  refine ⟨hb.setCell h1 _, ?_, ownI_keep ho fun g hg => Below.heap_setCell _ _ _ _ (hk g hg), h1, hs⟩
  have := heap_setCell_same w2 o 1 _ _ v' hx
  rw [this]
  rfl
theorem result (h : RefG B w0 o W v l wr) {r : Nat} (hr : r < B) (W' : Nat) (v' : Value) : LiesI ((wr.setCell ⟨r, 0, none⟩ (.int .i64 (W' : Int))).setCell ⟨r, 1, none⟩ v') v l := by
  refine ownI_lies (base := B) (ownI_keep h.own fun g hg => ?_)
  have := (ownI_ge h.own g hg).1
  have hne : g ≠ r := by omega
  rw [Below.heap_setCell _ _ _ _ hne, Below.heap_setCell _ _ _ _ hne]
end RefG
theorem filter_step (p : Nat → Bool) (k : Nat) : (List.range (k + 1)).filter p = (List.range k).filter p ++ if p k then [k] else [] := by
  rw [List.range_succ, List.filter_append]
  congr 1
  cases hp : p k <;> simp [hp]
def RefPost (v0 : Value) (w : World) (W : Nat) (l : List Nat) (ok : Bool) (e : Ending) (w' : World) : Prop := ∃ v, e = .returned (.tuple #[refV W v, .bool ok]) ∧ LiesI w' v l ∧ Below w.heap.size w w' ∧ (v = v0 ∨ ∀ b, v.ownBlock = some b → w.heap.size ≤ b ∧ b < w'.heap.size)
def setP (l : List Nat) (x : Int) (k : Nat) : Bool := decide ((k : Int) = x) || isL l (k : Int)
def setLok (W : Nat) (l : List Nat) (x : Int) : Bool := decide (0 ≤ x) && decide (x < W) && !isL l x
abbrev zeroR : Obj := .cells #[.int .i64 0, .slice none 0 0] 28 (0, 0)
/-- The argument's box, and the result's. -/
theorem box_two (w : World) (W : Nat) (v : Value) : ∃ W0, W0 = (w.alloc (refO W v)).alloc zeroR ∧ Below w.heap.size w W0 ∧ W0.heap.size = w.heap.size + 1 + 1 ∧ W0.heap[w.heap.size]? = some (refO W v) ∧ W0.heap[w.heap.size + 1]? = some zeroR := by
  have h1 := heap_new w (refO W v)
  have h2 := heap_new (w.alloc (refO W v)) zeroR
  have hs : (w.alloc (refO W v)).heap.size = w.heap.size + 1 := by simp
  rw [hs] at h2
  refine ⟨_, rfl, ((Below.refl _ _).alloc (Nat.le_refl _) _).alloc (by simp) _, by simp, ?_, h2⟩
  exact (((Below.refl (w.heap.size + 1) (w.alloc (refO W v))).alloc (by simp) zeroR).block w.heap.size (by omega)).trans h1
def setR (w : World) (r W : Nat) (v : Value) : World := (w.setCell ⟨r, 0, none⟩ (.int .i64 (W : Int))).setCell ⟨r, 1, none⟩ v
theorem setR_size (w : World) (r W : Nat) (v : Value) : (setR w r W v).heap.size = w.heap.size := by unfold setR; simp [World.size_setCell]
theorem setR_at {w : World} {r : Nat} {x y : Value} (h : w.heap[r]? = some (.cells #[x, y] 28 (0, 0))) (W : Nat) (v : Value) : (setR w r W v).heap[r]? = some (refO W v) := by
  unfold setR
  rw [heap_setCell_same _ _ _ _ _ _ (heap_setCell_same _ _ _ _ _ _ h)]
  rfl
theorem setR_below {B : Nat} {w0 w : World} (h : Below B w0 w) {r : Nat} (hr : B ≤ r) (W : Nat) (v : Value) : Below B w0 (setR w r W v) := (h.setCell hr _).setCell hr _
theorem results_one {fn : Func} {p : Tmp} (h : fn.results = #[.cell p 28]) (tmps : Array Value) (w : World) (g W : Nat) (v : Value) (hp : tmps.getD p undef = .pointer (some ⟨g, 0, none⟩)) (hg : w.heap[g]? = some (refO W v)) : (results fn tmps).run Try.prog w = .ok (refV W v) w :=
  results_cell_row h _ _ g _ _ _ _ hp hg Try.underlying28 rfl (by kernel_rfl)
theorem results_two {fn : Func} {p u : Tmp} (h : fn.results = #[.cell p 28, .tmp u]) (tmps : Array Value) (w : World) (g W : Nat) (v b : Value) (hp : tmps.getD p undef = .pointer (some ⟨g, 0, none⟩)) (hu : tmps.getD u undef = b) (hg : w.heap[g]? = some (refO W v)) : (results fn tmps).run Try.prog w = .ok (.tuple #[refV W v, b]) w := by
  have hp' : tmps[p]?.getD undef = .pointer (some ⟨g, 0, none⟩) := by simpa using hp
  have hu' : tmps[u]?.getD undef = b := by simpa using hu
  simp [results, h, hp', hu', asAddr, run_loadVar_row w g _ _ _ _ _ hg Try.underlying28 rfl (by kernel_rfl)]

set_option maxRecDepth 100000 in
set_option maxHeartbeats 2000000 in
theorem rset_no (W : Nat) (v : Value) (l : List Nat) (x : Int) (w : World) (h : LiesI w v l) (hl : l.length ≤ 100000) (hok : setLok W l x = false) : Calls Try.prog 13 #[refV W v, .int .i64 x] w (RefPost v w W l false) := by
  obtain ⟨A, c, e, -⟩ := id h
  obtain ⟨nn, hnn⟩ : ∃ nn, nn = l.length := ⟨_, rfl⟩
  rw [← hnn] at e
  clear hnn
  subst e
  obtain ⟨W0, hW0, hB, hs, hp, hr⟩ := box_two w W (.slice A nn c)
  have HL := Lib.hid h
  have HI := Lib.hid (ris_any W _ l x W0 (h.below hB) hl)
  have HB := Lib.hid hB
  have HW := Lib.hid hW0
  have key : decide (x < 0) = true ∨ (decide (x < 0) = false ∧ decide (x ≥ (W : Int)) = true) ∨ (decide (x < 0) = false ∧ decide (x ≥ (W : Int)) = false ∧ isL l x = true) := by
    by_cases h1 : x < 0
    · exact Or.inl (by simpa using h1)
    · by_cases h2 : x ≥ (W : Int)
      · exact Or.inr (Or.inl ⟨by simpa using h1, by simpa using h2⟩)
      · refine Or.inr (Or.inr ⟨by simpa using h1, by simpa using h2, ?_⟩)
        unfold setLok at hok
        cases hq : isL l x with
        | true => rfl
        | false => rw [hq, decide_eq_true (by omega), decide_eq_true (by omega)] at hok; cases hok
  obtain ⟨P, hP⟩ : ∃ P, P = w.heap.size := ⟨_, rfl⟩
  rw [← hP] at hp hr hs
  have HP := Lib.hid hP
  have HQ : Hid (∀ V, Below W0.heap.size W0 V → V.heap[P]? = some (refO W (.slice A nn c)) ∧ V.heap[P + 1]? = some zeroR) := Lib.hid fun V hV => ⟨(hV.block P (by omega)).trans hp, (hV.block (P + 1) (by omega)).trans hr⟩
  clear h hok hB hW0 hP hp hr hl
  rcases key with g1 | ⟨g1, g2⟩ | ⟨g1, g2, g3⟩
  case' inr.inr => rw [g3] at HI
  all_goals
    have HRs := Lib.hid hs
    have b0 := cell_of (HQ.out W0 (Below.refl _ _)).1 0
    have b1 := cell_of (HQ.out W0 (Below.refl _ _)).1 1
    have r0 := cell_of (HQ.out W0 (Below.refl _ _)).2 0
    have r1 := cell_of (HQ.out W0 (Below.refl _ _)).2 1
    have fr := fun i => free_of (HQ.out W0 (Below.refl _ _)).2 i
    go_enter Try.func13, Try.ntmps13
    go_upto_region 1 with fail
    change Code.wp _ _ _ _ ((w.alloc (refO W (.slice A nn c))).alloc zeroR)
    rw [← HW.out, ← HP.out]
    clear HW
    have HF : Hid (Below w.heap.size w (setR W0 (P + 1) W (.slice A nn c))) := Lib.hid (setR_below HB.out (by have := HP.out; omega) W _)
  · go_wp2_with fail
    refine (show Calls _ _ _ _ _ from HI.out).mono ?_
    rintro e w1 ⟨rfl, j1⟩
    have J1 := Lib.hid j1
    clear b0 b1 r0 r1 fr j1
    have HF2 : Hid (Below w.heap.size w (setR w1 (P + 1) W (.slice A nn c))) := Lib.hid (setR_below (HB.out.trans (J1.out.mono HB.out.size)) (by have := HP.out; omega) W _)
    have b0 := cell_of (HQ.out w1 J1.out).1 0
    have b1 := cell_of (HQ.out w1 J1.out).1 1
    have r0 := cell_of (HQ.out w1 J1.out).2 0
    have r1 := cell_of (HQ.out w1 J1.out).2 1
    have fr := fun i => free_of (HQ.out w1 J1.out).2 i
    go_wp2
    change bodyPost _ _ _ _ _ (setR w1 (P + 1) W (.slice A nn c))
    exact bodyPost_ret (results_two Try.results13 _ _ (P + 1) W _ _ rfl rfl (setR_at (HQ.out w1 J1.out).2 W _)) rfl ⟨_, rfl, HL.out.below HF2.out, HF2.out, Or.inl rfl⟩
  all_goals
    go_wp2
    change bodyPost _ _ _ _ _ (setR W0 (P + 1) W (.slice A nn c))
    exact bodyPost_ret (results_two Try.results13 _ _ (P + 1) W _ _ rfl rfl (setR_at (HQ.out W0 (Below.refl _ _)).2 W _)) rfl ⟨_, rfl, HL.out.below HF.out, HF.out, Or.inl rfl⟩

theorem ref_new (w : World) (W : Nat) {B : Nat} {w0 : World} (hb : Below B w0 w) (hs : B ≤ w0.heap.size) : ∃ V o, w.alloc (refO W (.slice none 0 0)) = V ∧ w.heap.size = o ∧ RefG B w0 o W (.slice none 0 0) [] V := by
  have h := heap_new w (refO W (.slice none 0 0))
  have hB : B ≤ w.heap.size := Nat.le_trans hs hb.size
  exact ⟨_, _, rfl, rfl, ⟨hb.alloc hB _, h, ownI_none _ _, hB, hs⟩⟩

set_option maxRecDepth 100000 in
set_option maxHeartbeats 4000000 in
theorem rset_yes (W : Nat) (v : Value) (l : List Nat) (x : Int) (w : World) (h : LiesI w v l) (hl : l.length ≤ 100000) (hWb : W ≤ 100000) (hok : setLok W l x = true) : Calls Try.prog 13 #[refV W v, .int .i64 x] w (RefPost v w W ((List.range W).filter (setP l x)) true) := by
  obtain ⟨A, c, e, -⟩ := id h
  obtain ⟨nn, hnn⟩ : ∃ nn, nn = l.length := ⟨_, rfl⟩
  rw [← hnn] at e
  clear hnn
  subst e
  obtain ⟨W0, hW0, hB, hs, hp, hr⟩ := box_two w W (.slice A nn c)
  have HL := Lib.hid (h.below hB)
  have HIs : Hid (∀ V y, Below W0.heap.size W0 V → Calls Try.prog 39 #[refV W (.slice A nn c), .int .i64 y] V fun e w' => e = .returned (.bool (isL l y)) ∧ Below V.heap.size V w') := Lib.hid fun V y hV => ris_any W _ l y V (HL.out.below hV) hl
  have hk : 0 ≤ x ∧ x < (W : Int) ∧ isL l x = false := by unfold setLok at hok; simpa [and_assoc] using hok
  have g1 : decide (x < 0) = false := by simp; omega
  have g2 : decide (x ≥ (W : Int)) = false := by simp; omega
  have HI : Hid (Calls Try.prog 39 #[refV W (.slice A nn c), .int .i64 x] W0 fun e w' => e = .returned (.bool false) ∧ Below W0.heap.size W0 w') := Lib.hid (by
    have := HIs.out W0 x (Below.refl _ _)
    rwa [hk.2.2] at this)
  have HB := Lib.hid hB
  have HW := Lib.hid hW0
  obtain ⟨P, hP⟩ : ∃ P, P = w.heap.size := ⟨_, rfl⟩
  rw [← hP] at hp hr hs
  have HP := Lib.hid hP
  have HRs := Lib.hid hs
  have HQ : Hid (∀ V, Below W0.heap.size W0 V → V.heap[P]? = some (refO W (.slice A nn c)) ∧ V.heap[P + 1]? = some zeroR) := Lib.hid fun V hV => ⟨(hV.block P (by omega)).trans hp, (hV.block (P + 1) (by omega)).trans hr⟩
  have HWb := Lib.hid hWb
  obtain ⟨p, hpp⟩ : ∃ p, p = setP l x := ⟨_, rfl⟩
  rw [← hpp]
  have HPp := Lib.hid hpp
  clear h hok hB hW0 hP hp hr hl hk hs hWb hpp
  have b0 := cell_of (HQ.out W0 (Below.refl _ _)).1 0
  have b1 := cell_of (HQ.out W0 (Below.refl _ _)).1 1
  go_enter Try.func13, Try.ntmps13
  go_upto_region 1 with fail
  change Code.wp _ _ _ _ ((w.alloc (refO W (.slice A nn c))).alloc zeroR)
  rw [← HW.out, ← HP.out]
  clear HW
  go_wp2_with fail
  refine (show Calls _ _ _ _ _ from HI.out).mono ?_
  rintro e w1 ⟨rfl, j1⟩
  obtain ⟨V, o, hV, ho, hG⟩ := ref_new w1 W j1 (Nat.le_refl _)
  have J1 := Lib.hid j1
  have G1 := Lib.hid hG
  have HV := Lib.hid hV
  have Ho := Lib.hid ho
  clear b0 b1 HI hV ho hG
  have b0 := cell_of (HQ.out w1 J1.out).1 0
  have b1 := cell_of (HQ.out w1 J1.out).1 1
  go_upto_region 4 with fail
  change Code.wp _ _ _ _ (w1.alloc (refO W (.slice none 0 0)))
  rw [HV.out, Ho.out]
  clear b0 b1 HV Ho
  have HJ : Hid (∀ V, Below W0.heap.size W0 V → Below w.heap.size w V) := Lib.hid fun V hV => HB.out.trans (hV.mono HB.out.size)
  go_wp2
  go_loopw [7] (fun i wr => ∃ (k : Nat) (vv : Value), k ≤ W ∧ i = .int .i64 k ∧ Hid (RefG W0.heap.size W0 o W vv ((List.range k).filter p) wr)) (fun i _ => W - (RowKit.intOf i).toNat)
  case atStart => exact ⟨0, _, Nat.zero_le _, rfl, G1⟩
  case round =>
    obtain ⟨k, vv, hk, rfl, HG⟩ := hrel
    rename_i wr
    have q0 := HG.out.cell0
    have q1 := HG.out.cell1
    have qf := HG.out.free
    have b0 := cell_of (HQ.out wr HG.out.below).1 0
    have b1 := cell_of (HQ.out wr HG.out.below).1 1
    have z1 : IntKind.i64.wrap ((k : Int) + 1) = (k : Int) + 1 := IntWalk.i64_in _ (by have := HWb.out; omega)
    by_cases hlt : k < W
    · have glt : decide ((k : Int) < (W : Int)) = true := by simp; omega
      have HGo := HG
      by_cases hx : (k : Int) = x
      · have gx : ((k : Int) == x) = true := by simpa using hx
        have HE : Hid ((List.range (k + 1)).filter p = (List.range k).filter p ++ [k]) := Lib.hid (by rw [filter_step, HPp.out]; congr 1; unfold setP; rw [decide_eq_true hx]; rfl)
        clear hx
        have HGA := Lib.hid (HG.out.alloc (.cells #[.int .i64 (k : Int)] 3))
        have HO := Lib.hid (one_int wr k)
        have HLn : Hid (((List.range k).filter p).length + 1 ≤ 1000000) := Lib.hid (by have h1 := List.length_filter_le p (List.range k); rw [List.length_range] at h1; have := HWb.out; omega)
        go_wp2_with (at_builtin; refine append_ints _ rfl (.tmp 40) (.tmp 42) rfl W0.heap.size _ _ ((List.range k).filter p) [k] rfl HGA.out.own rfl HO.out (by simp) (by simpa using HLn.out) HGA.out.below.size ?_)
        intro g cc w2 ho2 hg2
        obtain ⟨hb2, hx2⟩ := HGA.out.grown hg2
        have G2 := Lib.hid (RefG.stored hb2 hx2 ho2 HGA.out.ho HGA.out.hs)
        have q1 := cell_of hx2 1
        have qf := free_of hx2
        clear ho2 hg2 hb2 hx2 HGA HO HLn
        go_wp2
        go_roundw
        case rel => exact ⟨k + 1, _, by omega, by go_num, Lib.hid (by rw [HE.out]; exact G2.out)⟩
        case measure => simp [RowKit.intOf] <;> omega
      · have gx : ((k : Int) == x) = false := by simpa using hx
        have HIk := Lib.hid (HIs.out wr (k : Int) HG.out.below)
        have HPk : Hid (p k = isL l (k : Int)) := Lib.hid (by rw [HPp.out]; unfold setP; rw [decide_eq_false hx]; rfl)
        clear hx
        go_wp2_with fail
        refine (show Calls _ _ _ _ _ from HIk.out).mono ?_
        rintro e w2 ⟨rfl, j2⟩
        have G1' := Lib.hid (HG.out.old j2)
        clear j2 HIk q0 q1 qf b0 b1
        have q0 := G1'.out.cell0
        have q1 := G1'.out.cell1
        have qf := G1'.out.free
        have b0 := cell_of (HQ.out w2 G1'.out.below).1 0
        have b1 := cell_of (HQ.out w2 G1'.out.below).1 1
        cases hq : isL l (k : Int) with
        | true =>
          have HE : Hid ((List.range (k + 1)).filter p = (List.range k).filter p ++ [k]) := Lib.hid (by rw [filter_step, HPk.out, hq]; rfl)
          clear hq
          have HGA := Lib.hid (G1'.out.alloc (.cells #[.int .i64 (k : Int)] 3))
          have HO := Lib.hid (one_int w2 k)
          have HLn : Hid (((List.range k).filter p).length + 1 ≤ 1000000) := Lib.hid (by have h1 := List.length_filter_le p (List.range k); rw [List.length_range] at h1; have := HWb.out; omega)
          go_wp2_with (at_builtin; refine append_ints _ rfl (.tmp 40) (.tmp 42) rfl W0.heap.size _ _ ((List.range k).filter p) [k] rfl HGA.out.own rfl HO.out (by simp) (by simpa using HLn.out) HGA.out.below.size ?_)
          intro g cc w3 ho2 hg2
          obtain ⟨hb2, hx2⟩ := HGA.out.grown hg2
          have G2 := Lib.hid (RefG.stored hb2 hx2 ho2 HGA.out.ho HGA.out.hs)
          have q1 := cell_of hx2 1
          have qf := free_of hx2
          clear ho2 hg2 hb2 hx2 HGA HO HLn
          go_wp2
          go_roundw
          case rel => exact ⟨k + 1, _, by omega, by go_num, Lib.hid (by rw [HE.out]; exact G2.out)⟩
          case measure => simp [RowKit.intOf] <;> omega
        | false =>
          have HE : Hid ((List.range (k + 1)).filter p = (List.range k).filter p) := Lib.hid (by rw [filter_step, HPk.out, hq]; simp)
          clear hq
          go_wp2
          go_roundw
          case rel => exact ⟨k + 1, vv, by omega, by go_num, Lib.hid (by rw [HE.out]; exact G1'.out)⟩
          case measure => simp [RowKit.intOf] <;> omega
    · have hkw : k = W := by omega
      have glt : decide ((k : Int) < (W : Int)) = false := by simp; omega
      have e : (List.range k).filter p = (List.range W).filter p := by rw [hkw]
      have HF : Hid (RefG W0.heap.size W0 o W vv ((List.range W).filter p) wr) := Lib.hid (by rw [← e]; exact HG.out)
      clear e
      rcases ownI_form HF.out.own with ⟨e, _⟩ | ⟨g, cc, e⟩
      all_goals
        subst e
        have r0 := cell_of (HQ.out wr HG.out.below).2 0
        have r1 := cell_of (HQ.out wr HG.out.below).2 1
        have fr := fun i => free_of (HQ.out wr HG.out.below).2 i
        clear HG
        go_wp2
        change bodyPost _ _ _ _ _ (setR wr (P + 1) W _)
        exact bodyPost_ret (results_two Try.results13 _ _ (P + 1) W _ _ rfl rfl (setR_at (HQ.out wr HF.out.below).2 W _)) rfl ⟨_, rfl, HF.out.result (by have := HRs.out; omega) W _, setR_below (HJ.out wr HF.out.below) (by have := HP.out; omega) W _, Or.inr fun b hb => ⟨by have := (ownI_ge HF.out.own b hb).1; have := HRs.out; have := HP.out; omega, by rw [setR_size]; exact (ownI_ge HF.out.own b hb).2.1⟩⟩
end Go.Proofs.Ytfkiihddcinckaa.Tb
