/- Layer 11: the document's Part. -/
import Derived.Test.YthpnmhllgjibgaaRwC
set_option linter.unusedVariables false
namespace Go.Proofs.Ythpnmhllgjibgaa.Rw
open Go.RowKit

theorem idx_cell (b o n c k : Nat) (hk : k < n) (W : World) : (Instr.indexAt 28 (.slice (some ⟨b, o, none⟩) n c) (.int .i64 (k : Int))).run Try.prog W = .ok (.pointer (some ⟨b, o + k * 7, none⟩)) W := by
  have hs : ∀ W : World, (sizeOf (Try.prog.elem 28)).run Try.prog W = .ok 7 W := fun W => by kernel_rfl
  rw [run_indexAt_slice (P := Try.prog) W 28 ⟨b, o, none⟩ n c .i64 k (by kernel_rfl), if_pos (by omega), hs]
  simp only [Result.andThen, Int.toNat_natCast, add_oo]
theorem idx_own (g n c k : Nat) (hk : k < n) (W : World) : (Instr.indexAt 28 (.slice (some ⟨g, 0, none⟩) n c) (.int .i64 (k : Int))).run Try.prog W = .ok (.pointer (some ⟨g, k * 7, none⟩)) W := by
  have := idx_cell g 0 n c k hk W
  rwa [Nat.zero_add] at this

/-- A row whose first cells are those of a value that came in. -/
theorem own_some {w : World} {base : Nat} {v : Value} {l : List Ce} (h : OwnC w base v l) (hl : 0 < l.length) : ∃ g c, v = .slice (some ⟨g, 0, none⟩) l.length c ∧ base ≤ g ∧ g < w.heap.size := by
  rcases own_shape h with ⟨_, rfl⟩ | ⟨g, c, cur, e, h1, h2, _⟩
  · simp at hl
  · exact ⟨g, c, e, h1, h2⟩
/-- The places of an own row can be written. -/
theorem own_slots {w : World} {base g n c : Nat} {l : List Ce} (h : OwnC w base (.slice (some ⟨g, 0, none⟩) n c) l) {k : Nat} (hk : k < l.length) : (∀ j, j < 7 → ∃ u, w.cell? ⟨g, k * 7 + j, none⟩ = some u) ∧ ∀ i, w.frozen? ⟨g, i, none⟩ = false := by
  rcases own_shape h with ⟨e, _⟩ | ⟨g', c', cur, e, _, _, hh, hc, _, hsz, _⟩
  · cases e
  · cases e
    refine ⟨fun j hj => ?_, fun i => free_of hh i⟩
    rw [cell_of hh]
    exact ⟨_, Array.getElem?_eq_getElem (by rw [hsz]; omega)⟩
theorem part_as (l : List Ce) (y : Nat) (h : cutB l (y + 1)) : partC l (y + 1) = (l.set y (blankC (cellV l y).a)).set (y + 1) (blankC (cellV l (y + 1)).a) := by unfold partC; rw [if_pos h]; rfl

set_option maxRecDepth 100000 in
set_option maxHeartbeats 2000000 in
theorem part_yes (l : List Ce) (A : Option Addr) (n c y : Nat) (w : World) (hR : RowR w w.heap.size A l) (hn : n = l.length) (hl : n ≤ 100000) (hc : n ≤ c) (hM : c ≤ 9223372036854775807) (hcut : cutB l (y + 1)) :
    Calls Try.prog 35 #[.slice A n c, .int .i64 ((y + 1 : Nat) : Int)] w (RowPost w (partC l (y + 1))) := by
  have hyn : y + 1 < n := by rw [hn]; exact hcut.2.1
  obtain ⟨b, o, rfl, hb, _, _, k2, k3, k4, k5, k6⟩ := hR.at_ (k := y) (by omega)
  obtain ⟨b', o', e, _, m0, m1, m2, m3, m4, m5, m6⟩ := hR.at_ (k := y + 1) (by omega)
  cases e
  have hw : (cellV l (y + 1)).w = 2 := hcut.2.2
  rw [hw] at m1
  have hA0 : Below w.heap.size w (w.alloc (.cells #[] 44)) := (Below.refl _ _).alloc (Nat.le_refl _) _
  have HLi : Hid (Lies (w.alloc (.cells #[] 44)) (.slice (some ⟨b, o, none⟩) n c) l) := Lib.hid (Lies.below (w := w) ⟨_, c, by rw [hn], fun e => (by cases e), by omega, hR⟩ hA0)
  have HA0 := Lib.hid hA0
  have H0 := Lib.hid (own_zero w)
  have HN := Lib.hid hn
  have HQ : Hid (∀ V, Below w.heap.size w V → (V.cell? ⟨b, o + y * 7 + 2, none⟩ = some (.int .u16 ((cellV l y).a.fl : Int)) ∧ V.cell? ⟨b, o + y * 7 + 3, none⟩ = some (.int .u8 ((cellV l y).a.fk : Int)) ∧ V.cell? ⟨b, o + y * 7 + 4, none⟩ = some (.int .u32 ((cellV l y).a.fn : Int)) ∧ V.cell? ⟨b, o + y * 7 + 5, none⟩ = some (.int .u8 ((cellV l y).a.bk : Int)) ∧ V.cell? ⟨b, o + y * 7 + 6, none⟩ = some (.int .u32 ((cellV l y).a.bn : Int))) ∧
      V.cell? ⟨b, o + (y + 1) * 7 + 1, none⟩ = some (.int .u8 2) ∧ V.cell? ⟨b, o + (y + 1) * 7 + 2, none⟩ = some (.int .u16 ((cellV l (y + 1)).a.fl : Int)) ∧ V.cell? ⟨b, o + (y + 1) * 7 + 3, none⟩ = some (.int .u8 ((cellV l (y + 1)).a.fk : Int)) ∧ V.cell? ⟨b, o + (y + 1) * 7 + 4, none⟩ = some (.int .u32 ((cellV l (y + 1)).a.fn : Int)) ∧ V.cell? ⟨b, o + (y + 1) * 7 + 5, none⟩ = some (.int .u8 ((cellV l (y + 1)).a.bk : Int)) ∧ V.cell? ⟨b, o + (y + 1) * 7 + 6, none⟩ = some (.int .u32 ((cellV l (y + 1)).a.bn : Int))) := Lib.hid fun V hV =>
    ⟨⟨(hV.cell hb).trans k2, (hV.cell hb).trans k3, (hV.cell hb).trans k4, (hV.cell hb).trans k5, (hV.cell hb).trans k6⟩, (hV.cell hb).trans m1, (hV.cell hb).trans m2, (hV.cell hb).trans m3, (hV.cell hb).trans m4, (hV.cell hb).trans m5, (hV.cell hb).trans m6⟩
  have HP := Lib.hid (part_as l y hcut)
  rw [HP.out]
  generalize (cellV l y).a = p at *
  generalize (cellV l (y + 1)).a = q at *
  have i1 := idx_cell b o n c y (by omega)
  have i2 := idx_cell b o n c (y + 1) (by omega)
  have g1 : decide (((y + 1 : Nat) : Int) ≥ 1) = true := by simp; omega
  have g2 : decide (((y + 1 : Nat) : Int) < (n : Int)) = true := by simp; omega
  obtain ⟨X, hX⟩ : ∃ X : Int, X = ((y + 1 : Nat) : Int) := ⟨_, rfl⟩
  have hX1 : X - 1 = (y : Int) := by omega
  rw [← hX] at g1 g2 i2 ⊢
  have hXb : 1 ≤ X ∧ X ≤ 100000 := by omega
  have hc1 : Hid (cutB l (y + 1)) := Lib.hid hcut
  have HX : Hid (((y + 1 : Nat) : Int) = X) := Lib.hid hX.symm
  clear hR hn hc hM hcut k2 k3 k4 k5 k6 m0 m1 m2 m3 m4 m5 m6 hw hA0 hX
  go_enter Try.func35, Try.ntmps35
  go_wp2_with (at_builtin; refine append_cells _ rfl (.tmp 6) (.tmp 7) rfl w.heap.size _ _ [] l rfl H0.out rfl HLi.out (by have := HN.out; simp; omega) HA0.out.size ?_)
  intro v1 w1 ho1 hg1
  have B1 := Lib.hid (grown_below HA0.out hg1 H0.out HA0.out.size)
  have ho1 : OwnC w1 w.heap.size v1 l := ho1
  obtain ⟨g, c1, rfl, hgb, hgl⟩ := own_some ho1 (by have := HN.out; omega)
  rw [← HN.out] at ho1 ⊢
  obtain ⟨⟨r2, r3, r4, r5, r6⟩, s1, s2, s3, s4, s5, s6⟩ := HQ.out w1 B1.out
  obtain ⟨sl1, fz⟩ := own_slots ho1 (k := y) (by have := HN.out; omega)
  obtain ⟨a0, e0⟩ := sl1 0 (by decide)
  obtain ⟨a1, e1⟩ := sl1 1 (by decide)
  obtain ⟨a2, e2⟩ := sl1 2 (by decide)
  obtain ⟨a3, e3⟩ := sl1 3 (by decide)
  obtain ⟨a4, e4⟩ := sl1 4 (by decide)
  obtain ⟨a5, e5⟩ := sl1 5 (by decide)
  obtain ⟨a6, e6⟩ := sl1 6 (by decide)
  rw [Nat.add_zero] at e0
  have j1 := idx_own g n c1 y (by omega)
  have O1 := Lib.hid ho1
  have hs1 := own_set ho1 (k := y) (by have := HN.out; omega) (blankC p)
  have S1 := Lib.hid hs1
  have hB2 := setCe_below B1.out hgb y (blankC p)
  have B2 := Lib.hid hB2
  clear ho1 hg1 sl1 hs1 hB2
  go_upto_region 4 with fail
  change Code.wp _ _ _ _ (setCe w1 g y (blankC p))
  generalize setCe w1 g y (blankC p) = w2 at S1 B2 ⊢
  obtain ⟨_, t1, t2, t3, t4, t5, t6⟩ := HQ.out w2 B2.out
  have hm : y + 1 < (l.set y (blankC p)).length := by rw [List.length_set]; have := HN.out; omega
  obtain ⟨sl2, fz2⟩ := own_slots S1.out (k := y + 1) hm
  obtain ⟨b0, f0⟩ := sl2 0 (by decide)
  obtain ⟨b1, f1⟩ := sl2 1 (by decide)
  obtain ⟨b2, f2⟩ := sl2 2 (by decide)
  obtain ⟨b3, f3⟩ := sl2 3 (by decide)
  obtain ⟨b4, f4⟩ := sl2 4 (by decide)
  obtain ⟨b5, f5⟩ := sl2 5 (by decide)
  obtain ⟨b6, f6⟩ := sl2 6 (by decide)
  rw [Nat.add_zero] at f0
  have j2 := idx_own g n c1 (y + 1) (by omega)
  rw [show (((y + 1 : Nat) : Int)) = X from HX.out] at j2
  have S2 := Lib.hid (own_set S1.out (k := y + 1) hm (blankC q))
  have B3 := Lib.hid (setCe_below B2.out hgb (y + 1) (blankC q))
  clear hm sl2 r2 r3 r4 r5 r6 s1 s2 s3 s4 s5 s6 fz e0 e1 e2 e3 e4 e5 e6
  go_upto_region 5 with fail
  change Code.wp _ _ _ _ (setCe w2 g (y + 1) (blankC q))
  generalize setCe w2 g (y + 1) (blankC q) = w3 at S2 B3 ⊢
  clear f0 f1 f2 f3 f4 f5 f6 fz2 t1 t2 t3 t4 t5 t6
  go_wp2
  go_ret
  exact ⟨_, rfl, S2.out, B3.out⟩
set_option maxRecDepth 100000 in
set_option maxHeartbeats 2000000 in
theorem part_low (l : List Ce) (A : Option Addr) (n c : Nat) (x : Int) (w : World) (hL : Lies w (.slice A n c) l) (hn : n = l.length) (hl : n ≤ 100000) (hx : x < 1) :
    Calls Try.prog 35 #[.slice A n c, .int .i64 x] w (RowPost w l) := by
  have hA0 : Below w.heap.size w (w.alloc (.cells #[] 44)) := (Below.refl _ _).alloc (Nat.le_refl _) _
  have HLi := Lib.hid (hL.below hA0)
  have HA0 := Lib.hid hA0
  have H0 := Lib.hid (own_zero w)
  have HN := Lib.hid hn
  have g1 : decide (x ≥ 1) = false := by simp; omega
  clear hL hn hA0
  go_enter Try.func35, Try.ntmps35
  go_wp2_with (at_builtin; refine append_cells _ rfl (.tmp 6) (.tmp 7) rfl w.heap.size _ _ [] l rfl H0.out rfl HLi.out (by have := HN.out; simp; omega) HA0.out.size ?_)
  intro v1 w1 ho1 hg1
  have B1 := Lib.hid (grown_below HA0.out hg1 H0.out HA0.out.size)
  have O1 : Hid (OwnC w1 w.heap.size v1 l) := Lib.hid ho1
  clear ho1 hg1
  go_wp2
  go_ret
  exact ⟨_, rfl, O1.out, B1.out⟩

set_option maxRecDepth 100000 in
set_option maxHeartbeats 2000000 in
theorem part_high (l : List Ce) (A : Option Addr) (n c : Nat) (x : Int) (w : World) (hL : Lies w (.slice A n c) l) (hn : n = l.length) (hl : n ≤ 100000) (hx : 1 ≤ x) (hx2 : (n : Int) ≤ x) :
    Calls Try.prog 35 #[.slice A n c, .int .i64 x] w (RowPost w l) := by
  have hA0 : Below w.heap.size w (w.alloc (.cells #[] 44)) := (Below.refl _ _).alloc (Nat.le_refl _) _
  have HLi := Lib.hid (hL.below hA0)
  have HA0 := Lib.hid hA0
  have H0 := Lib.hid (own_zero w)
  have HN := Lib.hid hn
  have g1 : decide (x ≥ 1) = true := by simpa using hx
  have g2 : decide (x < (n : Int)) = false := by simp; omega
  clear hL hn hA0
  go_enter Try.func35, Try.ntmps35
  go_wp2_with (at_builtin; refine append_cells _ rfl (.tmp 6) (.tmp 7) rfl w.heap.size _ _ [] l rfl H0.out rfl HLi.out (by have := HN.out; simp; omega) HA0.out.size ?_)
  intro v1 w1 ho1 hg1
  have B1 := Lib.hid (grown_below HA0.out hg1 H0.out HA0.out.size)
  have O1 : Hid (OwnC w1 w.heap.size v1 l) := Lib.hid ho1
  clear ho1 hg1
  go_wp2
  go_ret
  exact ⟨_, rfl, O1.out, B1.out⟩

set_option maxRecDepth 100000 in
set_option maxHeartbeats 2000000 in
theorem part_keep (l : List Ce) (A : Option Addr) (n c : Nat) (x : Int) (w : World) (hL : Lies w (.slice A n c) l) (hn : n = l.length) (hl : n ≤ 100000) (k : Nat) (hx : x = (k : Int)) (hx1 : 1 ≤ k) (hx2 : k < n) (hw : wideV l k ≠ 2) :
    Calls Try.prog 35 #[.slice A n c, .int .i64 x] w (RowPost w l) := by
  have hA0 : Below w.heap.size w (w.alloc (.cells #[] 44)) := (Below.refl _ _).alloc (Nat.le_refl _) _
  obtain ⟨-, h0, ⟨hc, hM⟩, hR⟩ := hL.row
  obtain ⟨b, o, rfl, hb, _, k1, _⟩ := hR.at_ (k := k) (by omega)
  have HLi := Lib.hid (hL.below hA0)
  have HA0 := Lib.hid hA0
  have H0 := Lib.hid (own_zero w)
  have HN := Lib.hid hn
  have g1 : decide (x ≥ 1) = true := by simp; omega
  have g2 : decide (x < (n : Int)) = true := by simp; omega
  have i1 := idx_cell b o n c k hx2
  rw [← hx] at i1
  have k1 : w.cell? ⟨b, o + k * 7 + 1, none⟩ = some (.int .u8 (wideV l k : Int)) := k1
  have g3 : ((wideV l k : Int) == 2) = false := by simp; omega
  generalize (wideV l k : Int) = z at *
  clear hR hw hx
  clear hL hn hA0
  go_enter Try.func35, Try.ntmps35
  go_wp2_with (at_builtin; refine append_cells _ rfl (.tmp 6) (.tmp 7) rfl w.heap.size _ _ [] l rfl H0.out rfl HLi.out (by have := HN.out; simp; omega) HA0.out.size ?_)
  intro v1 w1 ho1 hg1
  have B1 := Lib.hid (grown_below HA0.out hg1 H0.out HA0.out.size)
  have O1 : Hid (OwnC w1 w.heap.size v1 l) := Lib.hid ho1
  have k1 := (B1.out.cell hb).trans k1
  clear ho1 hg1
  go_wp2
  go_ret
  exact ⟨_, rfl, O1.out, B1.out⟩

theorem part_any (l : List Ce) (A : Option Addr) (n c : Nat) (x : Int) (w : World) (hL : Lies w (.slice A n c) l) (hn : n = l.length) (hl : n ≤ 100000) :
    Calls Try.prog 35 #[.slice A n c, .int .i64 x] w (RowPost w (partC l x.toNat)) := by
  by_cases h1 : x < 1
  · rw [part_out l (Or.inl (by omega))]
    exact part_low l A n c x w hL hn hl h1
  by_cases h2 : (n : Int) ≤ x
  · rw [part_out l (Or.inr (by omega))]
    exact part_high l A n c x w hL hn hl (by omega) h2
  obtain ⟨k, hk⟩ : ∃ k : Nat, x = (k : Int) := ⟨x.toNat, by omega⟩
  have e : x.toNat = k := by omega
  rw [e]
  by_cases h3 : wideV l k = 2
  · obtain ⟨y, rfl⟩ : ∃ y, k = y + 1 := ⟨k - 1, by omega⟩
    obtain ⟨-, -, ⟨hc, hM⟩, hR⟩ := hL.row
    rw [hk]
    exact part_yes l A n c y w hR hn hl (by omega) hM ⟨by omega, by omega, h3⟩
  · rw [not_cut (fun hh => h3 hh.2.2)]
    exact part_keep l A n c x w hL hn hl k hk (by omega) (by omega) h3
end Go.Proofs.Ythpnmhllgjibgaa.Rw
