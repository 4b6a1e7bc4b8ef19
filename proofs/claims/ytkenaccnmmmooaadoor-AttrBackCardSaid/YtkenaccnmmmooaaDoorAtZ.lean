/- Layer 10: the program's Apply. -/
import Derived.Test.YtkenaccnmmmooaaDoorAtY
import Derived.Deep.AppendLies
import Derived.Deep.RegionLaw
set_option linter.unusedVariables false
namespace Go.Proofs.YtkenaccnmmmooaaDoor.A10
open Go.RowKit Sgr

def atCells (a : At) : Array Value := #[.int .u16 a.fl, .int .u8 a.fg.kind, .int .u32 a.fg.n, .int .u8 a.bg.kind, .int .u32 a.bg.n]
/-- An attribute in a block of its own. -/
def AttrAt (w : World) (b : Nat) (a : At) : Prop := w.heap[b]? = some (.cells (atCells a) 27 (0, 0))
theorem TabL.drop {w : World} {a : Addr} {L : List (List Int)} (h : TabL w (some a) L) (k : Nat) : TabL w (some (a.add k)) (L.drop k) := fun r hr => by
  rw [List.length_drop] at hr
  have e : (L.drop k).getD r [] = L.getD (k + r) [] := by rw [List.getD_eq_getElem?_getD, List.getD_eq_getElem?_getD, List.getElem?_drop]
  obtain ⟨a', A', C, e', h1, h2, h3⟩ := h (k + r) (by omega)
  obtain rfl := Option.some.inj e'
  rw [e]
  exact ⟨_, A', C, rfl, by rw [addL_add]; exact h1, h2, h3⟩
theorem tab_nil {w : World} {A : Option Addr} {L : List (List Int)} (h : L.length = 0) : TabL w A L := fun r hr => by omega

theorem AttrAt.c0 {w : World} {b : Nat} {a : At} (h : AttrAt w b a) : w.cell? ⟨b, 0, none⟩ = some (.int .u16 a.fl) := cell_blk h 0
theorem AttrAt.c1 {w : World} {b : Nat} {a : At} (h : AttrAt w b a) : w.cell? ⟨b, 1, none⟩ = some (.int .u8 a.fg.kind) := cell_blk h 1
theorem AttrAt.c2 {w : World} {b : Nat} {a : At} (h : AttrAt w b a) : w.cell? ⟨b, 2, none⟩ = some (.int .u32 a.fg.n) := cell_blk h 2
theorem AttrAt.c3 {w : World} {b : Nat} {a : At} (h : AttrAt w b a) : w.cell? ⟨b, 3, none⟩ = some (.int .u8 a.bg.kind) := cell_blk h 3
theorem AttrAt.c4 {w : World} {b : Nat} {a : At} (h : AttrAt w b a) : w.cell? ⟨b, 4, none⟩ = some (.int .u32 a.bg.n) := cell_blk h 4
theorem AttrAt.below {w w' : World} {b : Nat} {a : At} (h : AttrAt w b a) (hb : Below w.heap.size w w') : AttrAt w' b a := (hb.block _ (Array.getElem?_eq_some_iff.1 h).1).trans h
theorem AttrAt.setFl {w : World} {b : Nat} {a : At} (h : AttrAt w b a) (f : Nat) : AttrAt (w.setCell ⟨b, 0, none⟩ (.int .u16 (f : Int))) b ⟨f, a.fg, a.bg⟩ := set_blk h 0 _
theorem AttrAt.setFg {w : World} {b : Nat} {a : At} (h : AttrAt w b a) (c : Co) : AttrAt ((w.setCell ⟨b, 1, none⟩ (.int .u8 (c.kind : Int))).setCell ⟨b, 2, none⟩ (.int .u32 (c.n : Int))) b ⟨a.fl, c, a.bg⟩ := set_blk (set_blk h 1 _) 2 _
theorem AttrAt.setBg {w : World} {b : Nat} {a : At} (h : AttrAt w b a) (c : Co) : AttrAt ((w.setCell ⟨b, 3, none⟩ (.int .u8 (c.kind : Int))).setCell ⟨b, 4, none⟩ (.int .u32 (c.n : Int))) b ⟨a.fl, a.fg, c⟩ := set_blk (set_blk h 3 _) 4 _
theorem AttrAt.all {w : World} {b : Nat} {z : At} (h : AttrAt w b z) (a : At) : AttrAt (((((w.setCell ⟨b, 0, none⟩ (.int .u16 (a.fl : Int))).setCell ⟨b, 1, none⟩ (.int .u8 (a.fg.kind : Int))).setCell ⟨b, 2, none⟩ (.int .u32 (a.fg.n : Int))).setCell ⟨b, 3, none⟩ (.int .u8 (a.bg.kind : Int))).setCell ⟨b, 4, none⟩ (.int .u32 (a.bg.n : Int))) b a := set_blk (set_blk (set_blk (set_blk (set_blk h 0 _) 1 _) 2 _) 3 _) 4 _
theorem below5 {w0 w : World} (h : Below w0.heap.size w0 w) (b : Nat) (hb : w0.heap.size ≤ b) (v0 v1 v2 v3 v4 : Value) : Below w0.heap.size w0 (((((w.setCell ⟨b, 0, none⟩ v0).setCell ⟨b, 1, none⟩ v1).setCell ⟨b, 2, none⟩ v2).setCell ⟨b, 3, none⟩ v3).setCell ⟨b, 4, none⟩ v4) := ((((h.setCell hb _).setCell hb _).setCell hb _).setCell hb _).setCell hb _
theorem keep5 {w : World} {b c : Nat} (hbc : b ≠ c) {o : Obj} (h : w.heap[b]? = some o) (v0 v1 v2 v3 v4 : Value) : (((((w.setCell ⟨c, 0, none⟩ v0).setCell ⟨c, 1, none⟩ v1).setCell ⟨c, 2, none⟩ v2).setCell ⟨c, 3, none⟩ v3).setCell ⟨c, 4, none⟩ v4).heap[b]? = some o :=
  (Deep.blk_setCell_other _ _ _ _ hbc).trans ((Deep.blk_setCell_other _ _ _ _ hbc).trans ((Deep.blk_setCell_other _ _ _ _ hbc).trans ((Deep.blk_setCell_other _ _ _ _ hbc).trans ((Deep.blk_setCell_other _ _ _ _ hbc).trans h))))
theorem keep1 {w : World} {b c i : Nat} (hbc : b ≠ c) {o : Obj} (h : w.heap[b]? = some o) (v : Value) : (w.setCell ⟨c, i, none⟩ v).heap[b]? = some o := (Deep.blk_setCell_other _ _ _ _ hbc).trans h
theorem add_big (a : Addr) {i : Nat} (h : 0 < i) : a.add i = ⟨a.block, a.off + i, none⟩ := by
  unfold Addr.add
  split
  · rename_i e; omega
  · rfl
/-- A slice of lists of parameters that reads so. -/
def ListAt (w : World) (v : Value) (L : List (List Int)) : Prop := ∃ A c, v = .slice A L.length c ∧ L.length ≤ c ∧ c ≤ 9223372036854775807 ∧ TabL w A L
theorem list_drop {w : World} {a : Addr} {L : List (List Int)} {c t : Nat} (hl : L.length ≤ c) (hc : c ≤ 9223372036854775807) (hT : TabL w (some a) L) (ht : 0 < t) (htl : t ≤ L.length) {A : Option Addr} (hA : A = some ⟨a.block, a.off + t, none⟩ ∨ c = t) {n c' : Nat} (hn : n = L.length - t) (hc' : c' = c - t) : ListAt w (.slice A n c') (L.drop t) := by
  subst hn hc'
  replace hA : A = some ⟨a.block, a.off + t, none⟩ ∨ L.length - t = 0 := hA.imp id fun e => by omega
  refine ⟨A, c - t, by rw [List.length_drop], by rw [List.length_drop]; omega, by omega, ?_⟩
  rcases hA with rfl | h0
  · have := hT.drop t
    rw [add_big a ht] at this
    exact this
  · exact tab_nil (by rw [List.length_drop]; omega)

/-- What is left of the list, and what is said so far. -/
def ApplyRel (w : World) (a0 : At) (l0 : List (List Int)) (v : Value) (L : List (List Int)) (a : At) (wr : World) : Prop :=
  goV a0 0 l0 = goV a 0 L ∧ AtOk a ∧ ListAt w v L ∧ AttrAt wr w.heap.size a ∧ AttrAt wr (w.heap.size + 1) zeroA ∧ Below w.heap.size w wr
theorem apply_next {w wr : World} {a0 a a' : At} {l0 : List (List Int)} {p : List Int} {L : List (List Int)} {t : Nat} (hg : goV a0 0 l0 = goV a 0 (p :: L)) (ha : AtOk a) (hs : stepV a p L = (a', t)) : goV a0 0 l0 = goV a' 0 ((p :: L).drop (1 + t)) ∧ AtOk a' := by
  have h1 := go_cons a p L
  have h2 := step_ok ha p L
  rw [hs] at h1 h2
  refine ⟨hg.trans (h1.trans ?_), h2⟩
  rw [show 1 + t = t + 1 by omega, List.drop_succ_cons]

theorem step_zero {p : List Int} (a : At) (L : List (List Int)) (h : partV p 0 = 0) : stepV a p L = (zeroA, 0) := by
  unfold stepV
  have e : firstV p = 0 := by unfold firstV; rw [if_neg (by omega), h]
  rw [if_neg (by omega), if_neg (by omega), if_pos h, e]
  rfl
theorem short_low {n : Int} (h : n < 30) : (shortV n).2 = false := by
  unfold shortV
  rw [if_neg (by omega), if_neg (by omega)]
  simp; omega
theorem first_low {p : List Int} (h : partV p 0 < 30) : firstV p < 30 := by unfold firstV; split <;> omega
theorem step_flags {p : List Int} (a : At) (L : List (List Int)) (h0 : partV p 0 ≠ 0) (h : partV p 0 < 30) : stepV a p L = (⟨flagV a.fl (firstV p), a.fg, a.bg⟩, 0) := by
  have hf := first_low h
  unfold stepV
  rw [if_neg (by omega), if_neg (by omega), if_neg h0]
  unfold upV
  rw [short_low hf, short_low (by omega)]
  rfl
theorem flag_high {f : Nat} {n : Int} (h : 30 ≤ n) : flagV f n = f := by
  have b : bitV n = 0 := by
    unfold bitV
    repeat' split
    all_goals omega
  unfold flagV
  rw [if_neg (by omega), b, Nat.or_zero]
theorem step_sim {p : List Int} (a : At) (L : List (List Int)) (h : 30 ≤ partV p 0) (h38 : partV p 0 ≠ 38) (h48 : partV p 0 ≠ 48) : stepV a p L = (⟨a.fl, simV a.fg (partV p 0), simV a.bg (partV p 0 - 10)⟩, 0) := by
  unfold stepV
  have e : firstV p = partV p 0 := by unfold firstV; rw [if_neg (by omega)]
  rw [if_neg h38, if_neg h48, if_neg (by omega), e]
  unfold upV
  rw [flag_high h]
  rfl
theorem step_fg {p : List Int} (a : At) (L : List (List Int)) (h : partV p 0 = 38) : stepV a p L = (⟨a.fl, ExtV a.fg p L, a.bg⟩, (longV p L).2.1) := by
  unfold stepV ExtV
  rw [if_pos h]
  split <;> rfl
theorem step_bg {p : List Int} (a : At) (L : List (List Int)) (h : partV p 0 = 48) : stepV a p L = (⟨a.fl, a.fg, ExtV a.bg p L⟩, (longV p L).2.1) := by
  unfold stepV ExtV
  rw [if_neg (by omega), if_pos h]
  split <;> rfl

set_option maxHeartbeats 8000000 in
theorem apply_some (a : At) (ha : AtOk a) (l : List (List Int)) (A : Option Addr) (n c : Nat) (w : World) (hT : TabL w A l) (hn : n = l.length) (hl : n ≤ c) (hc : c ≤ 9223372036854775807) (hN : Nums w) (h0 : 0 < n) :
    Calls Tryd.prog 8 #[atA a, .slice A n c] w fun e w' => e = .returned (atA (goV a 0 l)) ∧ Below w.heap.size w w' := by
  have g0 : ((n : Int) == 0) = false := by simp; omega
  obtain ⟨R, hR⟩ : ∃ R, R = goV a 0 l := ⟨_, rfl⟩
  rw [← hR]
  have HL : Hid (ListAt w (.slice A n c) l) := Lib.hid ⟨A, c, by rw [hn], by omega, hc, hT⟩
  have HR := Lib.hid hR
  have HAO := Lib.hid ha
  have HN := Lib.hid hN
  have HS : Hid (AttrAt ((w.alloc (.cells (atCells a) 27)).alloc (.cells (atCells zeroA) 27)) w.heap.size a ∧ AttrAt ((w.alloc (.cells (atCells a) 27)).alloc (.cells (atCells zeroA) 27)) (w.heap.size + 1) zeroA) := Lib.hid (by
    refine ⟨(Deep.blk_alloc_lt _ _ _ (by simp)).trans (Deep.blk_alloc_new _ _), ?_⟩
    have := Deep.blk_alloc_new (w.alloc (.cells (atCells a) 27)) (.cells (atCells zeroA) 27)
    rw [Deep.nblk_alloc] at this
    exact this)
  have HA : Hid (∀ o o', Below w.heap.size w ((w.alloc o).alloc o')) := Lib.hid fun o o' => ((Below.refl _ _).alloc (Nat.le_refl _) _).alloc (by simp) _
  clear hR hT hn ha hN
  unfold atA
  go_enter Tryd.func8, Tryd.ntmps8
  go_wp2
  go_loopw [1] (fun v wr => ∃ (L : List (List Int)) (b : At), Hid (R = goV b 0 L) ∧ Hid (AtOk b) ∧ Hid (ListAt w v L) ∧ Hid (AttrAt wr w.heap.size b) ∧ Hid (AttrAt wr (w.heap.size + 1) zeroA) ∧ Hid (Below w.heap.size w wr)) (fun v _ => match v with | .slice _ n _ => n | _ => 0)
  case atStart => exact ⟨l, a, HR, HAO, HL, Lib.hid HS.out.1, Lib.hid HS.out.2, Lib.hid (HA.out _ _)⟩
  case round =>
    obtain ⟨L, b, HG, HB, HLA, HAT, HZ, HBW⟩ := hrel
    rename_i wr
    obtain ⟨A1, c1, rfl, hl1, hc1, hT1⟩ := HLA.out
    clear HLA HL HS HA HR
    cases L with
    | nil =>
      have a0 := HAT.out.c0
      have a1 := HAT.out.c1
      have a2 := HAT.out.c2
      have a3 := HAT.out.c3
      have a4 := HAT.out.c4
      have z0 := HZ.out.c0
      have z1 := HZ.out.c1
      have z2 := HZ.out.c2
      have z3 := HZ.out.c3
      have z4 := HZ.out.c4
      have fz := fun i => free_blk HZ.out i
      have HE : Hid (R = b) := Lib.hid HG.out
      simp only [List.length_nil]
      go_wp2
      have Z := HZ.out.all b
      have Z0 := Z.c0
      have Z1 := Z.c1
      have Z2 := Z.c2
      have Z3 := Z.c3
      have Z4 := Z.c4
      refine bodyPost_ret (v := atA b) (by simp [results, Tryd.results8, go_sem, Z0, Z1, Z2, Z3, Z4, atA]) rfl ?_
      exact ⟨by rw [HE.out]; rfl, below5 HBW.out _ (by omega) _ _ _ _ _⟩
    | cons p L =>
      obtain ⟨ad, B, D, rfl, hrow, hD1, hD2, hRow⟩ := hT1.row2 (k := 0) (by simp)
      simp only [List.getD_cons_zero] at hrow hD1 hRow
      rw [add_zero'] at hrow
      have hrw := hrow _ HBW.out
      have HF : Hid (∀ V, Below w.heap.size w V → Calls Tryd.prog 16 #[.slice B p.length D] V fun e w' => e = .returned (.int .i64 (partV p 0)) ∧ V = w') := Lib.hid fun V hV => first_any p B _ D V (hRow.below hV) rfl (by omega)
      have hm : (p :: L).length = L.length + 1 := rfl
      rw [hm] at hl1 ⊢
      have a0 := HAT.out.c0
      have a1 := HAT.out.c1
      have a2 := HAT.out.c2
      have a3 := HAT.out.c3
      have a4 := HAT.out.c4
      have fr := fun i => free_blk HAT.out i
      have hnx : ∀ (b' : At) (t : Nat), stepV b p L = (b', t) → goV b 0 (p :: L) = goV b' 0 ((p :: L).drop (1 + t)) ∧ AtOk b' := fun b' t h => by
        have := apply_next (w := w) (wr := wr) (a0 := b) (l0 := p :: L) rfl HB.out h
        exact this
      have HNX := Lib.hid hnx
      clear hnx
      by_cases hx0 : partV p 0 = 0
      · have H1 := Lib.hid (HNX.out _ _ (step_zero b L hx0))
        rw [hx0] at HF
        clear hx0
        go_wp2_with (go_at_call 16; refine (HF.out _ HBW.out).mono ?_; rintro e w' ⟨rfl, rfl⟩)
        refine ⟨⟨L, zeroA, Lib.hid (HG.out.trans H1.out.1), Lib.hid H1.out.2, Lib.hid (list_drop (t := 1) hl1 hc1 hT1 (by omega) (by simp) (by split; exact Or.inr (by assumption); exact Or.inl rfl) (by simp) rfl), Lib.hid ?_, Lib.hid ?_, Lib.hid ?_⟩, by simp⟩
        · exact HAT.out.all zeroA
        · exact keep5 (by omega) HZ.out _ _ _ _ _
        · exact below5 HBW.out _ (by omega) _ _ _ _ _
      by_cases hx30 : partV p 0 < 30
      · have H1 := Lib.hid (HNX.out _ _ (step_flags b L hx0 hx30))
        have HFl : Hid (∀ V, Below w.heap.size w V → Calls Tryd.prog 17 #[.int .u16 b.fl, .slice B p.length D] V fun e w' => e = .returned (.int .u16 (flagV b.fl (firstV p))) ∧ w' = V) := Lib.hid fun V hV => flags_any b.fl HB.out.1 p B _ D V (hRow.below hV) rfl (by omega) hx0 (HN.out.below hV)
        have k0 : (partV p 0 == 0) = false := by simpa using hx0
        have k1 : decide (partV p 0 < 30) = true := by simpa using hx30
        generalize partV p 0 = x at *
        generalize flagV b.fl (firstV p) = f at *
        generalize p.length = m at *
        have hBd : Below w.heap.size w wr.drew := below_drew HBW.out 1
        have hrd := hrow _ hBd
        have d0 : wr.drew.cell? ⟨w.heap.size, 0, none⟩ = some (.int .u16 b.fl) := HAT.out.c0
        have fd : wr.drew.frozen? ⟨w.heap.size, 0, none⟩ = false := free_blk HAT.out 0
        clear hx0 hx30 hRow hrow a1 a2 a3 a4
        go_wp2_with (go_at_call 16; refine (HF.out _ HBW.out).mono ?_; rintro e w' ⟨rfl, rfl⟩)
        go_region_law (go_simp; go_at_call 17; refine (HFl.out _ hBd).mono ?_; rintro e w1 ⟨rfl, rfl⟩)
        all_goals
          go_wp2
          refine ⟨⟨_, _, Lib.hid (HG.out.trans H1.out.1), Lib.hid H1.out.2, Lib.hid (list_drop (t := 1) hl1 hc1 hT1 (by omega) (by simp) (by split; exact Or.inr (by assumption); exact Or.inl rfl) (by simp) rfl), Lib.hid ?_, Lib.hid ?_, Lib.hid ?_⟩, by simp⟩
          · exact HAT.out.setFl f
          · exact keep1 (by omega) HZ.out _
          · exact below_drew (HBW.out.setCell (by simp) _) 1
      by_cases hx38 : partV p 0 = 38
      · have H1 := Lib.hid (HNX.out _ _ (step_fg b L hx38))
        have hT := long_taken p L
        have HE : Hid (∀ V, Below w.heap.size w V → Calls Tryd.prog 18 #[.agg #[.int .u8 b.fg.kind, .int .u32 b.fg.n], .slice (some ad) (L.length + 1) c1] V (ExtPost V b.fg p L)) := Lib.hid fun V hV => extended_any b.fg p L (some ad) _ c1 V (hT1.below hV) rfl hl1 hc1
        unfold ExtPost coA at HE
        rw [hx38] at HF
        generalize ExtV b.fg p L = E at *
        obtain ⟨t, ht⟩ : ∃ t, t = 1 + (longV p L).2.1 := ⟨_, rfl⟩
        rw [← ht] at HE H1
        have ht1 : 0 < t := by omega
        have htl : t ≤ L.length + 1 := by omega
        clear hx38 hx30 hx0 ht hT
        go_wp2_with (first | (go_at_call 16; refine (HF.out _ HBW.out).mono ?_; rintro e w' ⟨rfl, rfl⟩) | (go_at_call 18; refine (HE.out _ HBW.out).mono ?_; rintro e w2 ⟨rfl, b2⟩; have HAT2 := HAT.out.below b2; have HZ2 := HZ.out.below b2; have HB2 := HBW.out.trans (b2.mono HBW.out.size); have y1 := HAT2.c1; have y2 := HAT2.c2; have fy1 := free_blk HAT2 1; have fy2 := free_blk HAT2 2))
        refine ⟨⟨_, _, Lib.hid (HG.out.trans H1.out.1), Lib.hid H1.out.2, Lib.hid (list_drop (t := t) hl1 hc1 hT1 ht1 htl (by split; exact Or.inr (by assumption); exact Or.inl (by rw [add_big _ ht1])) (by simp) rfl), Lib.hid ?_, Lib.hid ?_, Lib.hid ?_⟩, by simp; omega⟩
        · exact HAT2.setFg E
        · exact keep1 (by omega) (keep1 (by omega) HZ2 _) _
        · exact (HB2.setCell (by simp) _).setCell (by simp) _
      by_cases hx48 : partV p 0 = 48
      · have H1 := Lib.hid (HNX.out _ _ (step_bg b L hx48))
        have hT := long_taken p L
        have HE : Hid (∀ V, Below w.heap.size w V → Calls Tryd.prog 18 #[.agg #[.int .u8 b.bg.kind, .int .u32 b.bg.n], .slice (some ad) (L.length + 1) c1] V (ExtPost V b.bg p L)) := Lib.hid fun V hV => extended_any b.bg p L (some ad) _ c1 V (hT1.below hV) rfl hl1 hc1
        unfold ExtPost coA at HE
        rw [hx48] at HF
        generalize ExtV b.bg p L = E at *
        obtain ⟨t, ht⟩ : ∃ t, t = 1 + (longV p L).2.1 := ⟨_, rfl⟩
        rw [← ht] at HE H1
        have ht1 : 0 < t := by omega
        have htl : t ≤ L.length + 1 := by omega
        clear hx38 hx48 hx30 hx0 ht hT
        go_wp2_with (first | (go_at_call 16; refine (HF.out _ HBW.out).mono ?_; rintro e w' ⟨rfl, rfl⟩) | (go_at_call 18; refine (HE.out _ HBW.out).mono ?_; rintro e w2 ⟨rfl, b2⟩; have HAT2 := HAT.out.below b2; have HZ2 := HZ.out.below b2; have HB2 := HBW.out.trans (b2.mono HBW.out.size); have y1 := HAT2.c3; have y2 := HAT2.c4; have fy1 := free_blk HAT2 3; have fy2 := free_blk HAT2 4))
        refine ⟨⟨_, _, Lib.hid (HG.out.trans H1.out.1), Lib.hid H1.out.2, Lib.hid (list_drop (t := t) hl1 hc1 hT1 ht1 htl (by split; exact Or.inr (by assumption); exact Or.inl (by rw [add_big _ ht1])) (by simp) rfl), Lib.hid ?_, Lib.hid ?_, Lib.hid ?_⟩, by simp; omega⟩
        · exact HAT2.setBg E
        · exact keep1 (by omega) (keep1 (by omega) HZ2 _) _
        · exact (HB2.setCell (by simp) _).setCell (by simp) _
      · have H1 := Lib.hid (HNX.out _ _ (step_sim b L (by omega) hx38 hx48))
        have k0 : (partV p 0 == 0) = false := by simpa using hx0
        have k1 : decide (partV p 0 < 30) = false := by simpa using hx30
        have k2 : (partV p 0 == 38) = false := by simpa using hx38
        have k3 : (partV p 0 == 48) = false := by simpa using hx48
        have hbx : -9223372036854775808 ≤ partV p 0 ∧ partV p 0 ≤ 9223372036854775807 := by
          by_cases h0 : 0 < p.length
          · obtain ⟨_, _, _, hb⟩ := hRow 0 h0
            exact hb
          · have : partV p 0 = 0 := by
              show List.getD _ 0 0 = 0
              rw [List.getD_eq_getElem?_getD, List.getElem?_eq_none (by omega)]; rfl
            exact absurd this hx0
        have HS1 : Hid (∀ V, Calls Tryd.prog 19 #[.agg #[.int .u8 b.fg.kind, .int .u32 b.fg.n], .int .i64 (partV p 0)] V fun e w' => e = .returned (coA (simV b.fg (partV p 0))) ∧ Below V.heap.size V w') := Lib.hid fun V => simple_any b.fg _ hbx.1 hbx.2 V
        have HS2 : Hid (∀ V, Calls Tryd.prog 19 #[.agg #[.int .u8 b.bg.kind, .int .u32 b.bg.n], .int .i64 (partV p 0 - 10)] V fun e w' => e = .returned (coA (simV b.bg (partV p 0 - 10))) ∧ Below V.heap.size V w') := Lib.hid fun V => simple_any b.bg _ (by omega) (by omega) V
        unfold coA at HS1 HS2
        have hx30' : 30 ≤ partV p 0 := by omega
        generalize simV b.fg (partV p 0) = E1 at *
        generalize simV b.bg (partV p 0 - 10) = E2 at *
        generalize partV p 0 = x at *
        clear hx38 hx30 hx0 hx48
        go_wp2_with (first | (go_at_call 16; refine (HF.out _ HBW.out).mono ?_; rintro e w' ⟨rfl, rfl⟩) | fail)
        refine (HS1.out _).mono ?_
        rintro e w2 ⟨rfl, b2⟩
        have HAT2 := HAT.out.below b2
        have HZ2 := HZ.out.below b2
        have HB2 := HBW.out.trans (b2.mono HBW.out.size)
        have y1 := HAT2.c1
        have y2 := HAT2.c2
        have fy1 := free_blk HAT2 1
        have fy2 := free_blk HAT2 2
        have HAT3 := HAT2.setFg E1
        have HZ3 : AttrAt _ (w.heap.size + 1) zeroA := keep1 (i := 2) (v := .int .u32 (E1.n : Int)) (c := w.heap.size) (by omega) (keep1 (i := 1) (v := .int .u8 (E1.kind : Int)) (c := w.heap.size) (by omega) HZ2)
        have HB3 := (HB2.setCell (p := ⟨w.heap.size, 1, none⟩) (by simp) (.int .u8 (E1.kind : Int))).setCell (p := ⟨w.heap.size, 2, none⟩) (by simp) (.int .u32 (E1.n : Int))
        have y3 := HAT3.c3
        have y4 := HAT3.c4
        have T3 := Lib.hid HAT3
        have Z3 := Lib.hid HZ3
        have B3 := Lib.hid HB3
        clear HAT3 HZ3 HB3 HAT2 HZ2 HB2 b2
        go_wp2_with fail
        refine (HS2.out _).mono ?_
        rintro e w3 ⟨rfl, b3⟩
        have HAT4 := T3.out.below b3
        have HZ4 := Z3.out.below b3
        have HB4 := B3.out.trans (b3.mono B3.out.size)
        have y5 := HAT4.c3
        have y6 := HAT4.c4
        have fy5 := free_blk HAT4 3
        have fy6 := free_blk HAT4 4
        have T4 := Lib.hid HAT4
        have Z4 := Lib.hid HZ4
        have B4 := Lib.hid HB4
        clear HAT4 HZ4 HB4 b3 T3 Z3 B3
        go_wp2
        refine ⟨⟨_, _, Lib.hid (HG.out.trans H1.out.1), Lib.hid H1.out.2, Lib.hid (list_drop (t := 1) hl1 hc1 hT1 (by omega) (by simp) (by split; exact Or.inr (by assumption); exact Or.inl rfl) (by simp) rfl), Lib.hid ?_, Lib.hid ?_, Lib.hid ?_⟩, by simp⟩
        · exact T4.out.setBg E2
        · exact keep1 (by omega) (keep1 (by omega) Z4.out _) _
        · exact (B4.out.setCell (by simp) _).setCell (by simp) _
theorem apply_none (a : At) (A : Option Addr) (c : Nat) (w : World) : Calls Tryd.prog 8 #[atA a, .slice A 0 c] w fun e w' => e = .returned (atA zeroA) ∧ Below w.heap.size w w' := by
  have HA : Hid (∀ o o', Below w.heap.size w ((w.alloc o).alloc o')) := Lib.hid fun o o' => ((Below.refl _ _).alloc (Nat.le_refl _) _).alloc (by simp) _
  unfold atA
  go_enter Tryd.func8, Tryd.ntmps8
  go_wp2
  refine bodyPost_ret (v := atA zeroA) (by simp [results, Tryd.results8, go_sem, atA, zeroA, zeroC]) rfl ?_
  exact ⟨rfl, HA.out _ _⟩
theorem apply_any (a : At) (ha : AtOk a) (l : List (List Int)) (A : Option Addr) (n c : Nat) (w : World) (hT : TabL w A l) (hn : n = l.length) (hl : n ≤ c) (hc : c ≤ 9223372036854775807) (hN : Nums w) :
    Calls Tryd.prog 8 #[atA a, .slice A n c] w fun e w' => e = .returned (atA (applyV a l)) ∧ Below w.heap.size w w' := by
  by_cases h : l = []
  · subst h
    have hz : n = 0 := hn
    subst hz
    unfold applyV
    rw [if_pos rfl]
    exact apply_none a A c w
  · unfold applyV
    rw [if_neg h]
    exact apply_some a ha l A n c w hT hn hl hc hN (by rw [hn]; exact List.length_pos_iff.2 h)
end Go.Proofs.YtkenaccnmmmooaaDoor.A10
