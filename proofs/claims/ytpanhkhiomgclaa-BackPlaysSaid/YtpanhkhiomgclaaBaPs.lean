/- Layer 14: the document's back: Put, Pop. -/
import Derived.Test.YtpanhkhiomgclaaBaPr
set_option linter.unusedVariables false
namespace Go.Proofs.Ytpanhkhiomgclaa.Ba
open Go.RowKit

namespace TurnG
variable {g : Nat} {w w' w2 : World}
theorem of (h : Below w.heap.size w w') : TurnG g w w' := ⟨h.os, h.tape, h.output, h.size, fun k hk _ => h.block k hk⟩
theorem trans (h : TurnG g w w') (k : TurnG g w' w2) : TurnG g w w2 := ⟨k.os.trans h.os, k.tape.trans h.tape, k.output.trans h.output, Nat.le_trans h.size k.size, fun i hi hn => (k.block i (Nat.lt_of_lt_of_le hi h.size) hn).trans (h.block i hi hn)⟩
theorem set (h : TurnG g w w') (i : Nat) (v : Value) : TurnG g w (w'.setCell ⟨g, i, none⟩ v) := by
  have hb : Below 0 w' (w'.setCell ⟨g, i, none⟩ v) := (Below.refl _ _).setCell (p := ⟨g, i, none⟩) (Nat.zero_le _) v
  exact h.trans ⟨hb.os, hb.tape, hb.output, hb.size, fun k _ hk => Below.heap_setCell _ _ _ _ hk⟩
theorem below {B : Nat} {w0 : World} (h : TurnG g w w') (hb : Below B w0 w) (hB : B ≤ w.heap.size) (hg : B ≤ g) : Below B w0 w' :=
  hb.trans ⟨h.os, h.tape, h.output, h.size, fun k hk => h.block k (by omega) (by omega)⟩
end TurnG
/-- A field of the document's back is stored. -/
theorem ref_store {w : World} {g : Nat} {a b c : Value} (h : w.heap[g]? = some (.cells #[a, b, c] 30 (0, 0))) : (∀ v, (w.setCell ⟨g, 1, none⟩ v).heap[g]? = some (.cells #[a, v, c] 30 (0, 0))) ∧ ∀ v, (w.setCell ⟨g, 2, none⟩ v).heap[g]? = some (.cells #[a, b, v] 30 (0, 0)) :=
  ⟨fun v => by have := heap_setCell_same w g 1 _ _ v h; simpa using this, fun v => by have := heap_setCell_same w g 2 _ _ v h; simpa using this⟩

set_option maxRecDepth 100000 in
set_option maxHeartbeats 4000000 in
theorem ref_pop {F : Nat → Prop} {w : World} {g M G : Nat} {L : List Int} (h : RefAt F w g M G L) (hL : L.length ≤ 100000) : Calls Try.prog 13 #[.pointer (some ⟨g, 0, none⟩)] w fun e w' => e = .returned (.tuple #[.int .i64 (popX L), .bool (someB L)]) ∧ RefAt F w' g M G L.dropLast ∧ TurnG g w w' := by
  obtain ⟨A, c, hg, hl, hF⟩ := id h
  obtain ⟨q, hq⟩ : ∃ q, q = L.length := ⟨_, rfl⟩
  rw [← hq] at hg hl hL
  have q1 := cell_of hg 1
  by_cases h0 : q = 0
  · have hnil : L = [] := List.eq_nil_of_length_eq_zero (by omega)
    subst hnil
    have HR := Lib.hid h
    subst h0
    clear hg hl hq h
    go_enter Try.func13, Try.ntmps13
    go_wp2
    go_ret2
    exact ⟨rfl, HR.out, TurnG.of (Below.refl _ _)⟩
  · obtain ⟨X, hX⟩ : ∃ X, X = q - 1 := ⟨_, rfl⟩
    have g0 : ((q : Int) == 0) = false := by simp; omega
    have z1 : IntKind.i64.wrap ((q : Int) - 1) = (X : Int) := by rw [IntWalk.i64_in _ (by omega)]; omega
    have z2 : wrap64 ((q : Int) - 1) = (X : Int) := by unfold wrap64; omega
    obtain ⟨b, o, rfl, hb, q2⟩ := hl.1.at_ (k := X) (by omega)
    have i1 := idx_int b o q c X (by omega)
    obtain ⟨sl, hf⟩ := hl.to X (by omega) (by omega)
    have hpx : L.getD X 0 = popX L := by unfold popX; rw [hX, hq]
    rw [hpx] at q2
    have hso : someB L = true := by unfold someB; simp; omega
    have hdl : L.take X = L.dropLast := by rw [hX, hq, List.dropLast_eq_take]
    have hXl : L.dropLast.length = X := by rw [List.length_dropLast]; omega
    rw [hdl] at hf
    rw [hso]
    have hbg : b ≠ g := fun e => hF (e ▸ hl.2 _ _ _ b o rfl rfl (by omega))
    have f1 := free_of hg 1
    obtain ⟨w2, hw2⟩ : ∃ w2, w.setCell ⟨g, 1, none⟩ (.slice (some ⟨b, o, none⟩) X c) = w2 := ⟨_, rfl⟩
    have HE : Hid (RefAt F w2 g M G L.dropLast ∧ TurnG g w w2) := Lib.hid (by
      have hs := (ref_store hg).1 (.slice (some ⟨b, o, none⟩) X c)
      rw [hw2] at hs
      have ht : TurnG g w w2 := by rw [← hw2]; exact (TurnG.of (Below.refl _ _)).set 1 _
      refine ⟨⟨_, c, by rw [hXl]; exact hs, ?_, hF⟩, ht⟩
      rw [hXl]
      exact hf.keep (fun b hb hlt => ht.block b hlt fun e => hF (e ▸ hb)) ht.size)
    have HW := Lib.hid hw2
    clear hg hl hq h hX hb hf hpx hso hdl hXl hbg hw2 hF
    go_enter Try.func13, Try.ntmps13
    go_wp2
    rw [HW.out]
    go_ret2
    exact ⟨rfl, HE.out⟩

set_option maxRecDepth 100000 in
set_option maxHeartbeats 4000000 in
theorem ref_put {F : Nat → Prop} {w : World} {g M G : Nat} {L : List Int} (h : RefAt F w g M G L) (x : Int) (hL : L.length ≤ 100000) (hM : M ≤ 100000) (hG : G ≤ 1000000) : Calls Try.prog 11 #[.pointer (some ⟨g, 0, none⟩), .int .i64 x] w fun e w' => e = .returned (.bool (putB M L)) ∧ RefAt (fun b => w.heap.size ≤ b) w' g M (goneV M L G) (putV M L x) ∧ TurnG g w w' := by
  obtain ⟨A, c, hg, hl, hF⟩ := id h
  obtain ⟨q, hq⟩ : ∃ q, q = L.length := ⟨_, rfl⟩
  have hgl := blk_lt hg
  have hA0 : Below w.heap.size w (w.alloc (.cells #[] 3)) := (Below.refl _ _).alloc (Nat.le_refl _) _
  have q1 : (w.alloc (.cells #[] 3)).cell? ⟨g, 1, none⟩ = some (.slice A L.length c) := (hA0.cell (p := ⟨g, 1, none⟩) hgl).trans (cell_of hg 1)
  have HL0 : Hid (LiesI (w.alloc (.cells #[] 3)) (.slice A q c) L) := Lib.hid (by rw [hq]; exact hl.1.below hA0)
  have H0 := Lib.hid (own_zero w)
  have HA0 := Lib.hid hA0
  have HG := Lib.hid hg
  have Hgl := Lib.hid hgl
  have HLl : Hid (L.length ≤ 100000) := Lib.hid hL
  clear hg hl h hA0 hgl
  rw [← hq] at q1
  have HQ := Lib.hid hq
  clear hq
  go_enter Try.func11, Try.ntmps11
  go_wp2_with (at_builtin; refine append_gen _ rfl (.tmp 6) (.tmp 10) rfl w.heap.size _ _ [] L rfl H0.out rfl HL0.out (by have := HLl.out; simp; omega) HA0.out.size ?_)
  intro A1 c1 w1 ho1 hg1
  have hb1 : Below w.heap.size w w1 := grown_below HA0.out hg1 H0.out (Nat.le_refl _) HA0.out.size
  have ho1 : OwnI w1 w.heap.size (.slice A1 L.length c1) L := ho1
  have hA1 : Below w1.heap.size w1 (w1.alloc (.cells #[.int .i64 x] 3)) := (Below.refl _ _).alloc (Nat.le_refl _) _
  have HO1 := Lib.hid (ownI_below ho1 hA1)
  have HX1 := Lib.hid (one_int w1 x)
  have HB1 : Hid (Below w.heap.size w (w1.alloc (.cells #[.int .i64 x] 3))) := Lib.hid (hb1.trans (hA1.mono hb1.size))
  clear ho1 hg1 hb1 hA1 q1 HL0 H0 HA0
  go_wp2_with (at_builtin; refine append_gen _ rfl (.tmp 11) (.tmp 13) rfl w.heap.size _ _ L [x] rfl HO1.out rfl HX1.out (by have := HLl.out; simp; omega) HB1.out.size ?_)
  intro A2 c2 w2 ho2 hg2
  have hb2 : Below w.heap.size w w2 := grown_below HB1.out hg2 HO1.out (Nat.le_refl _) HB1.out.size
  have hr : (L ++ [x]).length = q + 1 := by rw [List.length_append, List.length_singleton, ← HQ.out]
  have ho2 : OwnI w2 w.heap.size (.slice A2 (L.length + 1) c2) (L ++ [x]) := ho2
  rw [← HQ.out] at ho2
  rw [← HQ.out]
  obtain ⟨r, hrr⟩ : ∃ r, q + 1 = r := ⟨_, rfl⟩
  rw [hrr] at ho2 ⊢
  have hgx : w2.heap[g]? = some (.cells #[.int .i64 (M : Int), .slice A L.length c, .int .i64 (G : Int)] 30 (0, 0)) := (hb2.block g Hgl.out).trans HG.out
  have c1 := cell_of hgx 1
  have f1 := free_of hgx 1
  obtain ⟨W3, hW3⟩ : ∃ W3, w2.setCell ⟨g, 1, none⟩ (.slice A2 r c2) = W3 := ⟨_, rfl⟩
  have hg3 : W3.heap[g]? = some (.cells #[.int .i64 (M : Int), .slice A2 r c2, .int .i64 (G : Int)] 30 (0, 0)) := by rw [← hW3]; exact (ref_store hgx).1 _
  have ht3 : TurnG g w W3 := by rw [← hW3]; exact (TurnG.of hb2).set 1 _
  have hl3 : LiesF (fun b => w.heap.size ≤ b) W3 (.slice A2 r c2) (L ++ [x]) := by
    refine (LiesF.of_own ho2).keep (fun b hb _ => ?_) (by rw [← hW3]; simp)
    rw [← hW3]
    have hne : b ≠ g := by have := Hgl.out; omega
    exact Below.heap_setCell _ _ _ _ hne
  have HW3 := Lib.hid hW3
  have HT3 := Lib.hid ht3
  have HL3 := Lib.hid hl3
  have HG3 := Lib.hid hg3
  have HR := Lib.hid (And.intro hr hrr)
  have k0 : ∀ V, Below W3.heap.size W3 V → V.heap[g]? = some (.cells #[.int .i64 (M : Int), .slice A2 r c2, .int .i64 (G : Int)] 30 (0, 0)) := fun V hV => (hV.block g (blk_lt hg3)).trans hg3
  have HK0 := Lib.hid k0
  have hrl : r ≤ 100001 := by have := HLl.out; have := HQ.out; omega
  have kd : Below W3.heap.size W3 W3.drew := below_drew (Below.refl _ _) 1
  clear ho2 hg2 hb2 hr hgx hW3 ht3 hl3 hg3 hrr k0
  by_cases hMr : M < r
  · have g1 : decide ((r : Int) > (M : Int)) = true := by simp; omega
    have hput : putV M L x = (L ++ [x]).drop 1 ∧ putB M L = true ∧ goneV M L G = G + 1 := by
      have := HR.out; have := HQ.out
      unfold putV putB goneV
      exact ⟨if_pos (by omega), by simp; omega, if_pos (by omega)⟩
    have HPut := Lib.hid hput
    obtain ⟨P, m, d, hm, sl0, hf⟩ := HL3.out.from 1 (by omega)
    have sl : ∀ W, (Instr.slice 22 (.slice A2 r c2) (some (.int .i64 1)) none none).run Try.prog W = .ok (.slice P m d) W := sl0
    have g1' : decide (M < r) = true := by simpa using hMr
    clear sl0
    have HF := Lib.hid hf
    have hml : ((L ++ [x]).drop 1).length = m := hf.1.len.1.symm
    have HML := Lib.hid hml
    obtain ⟨X, hX⟩ : ∃ X, X = G + 1 := ⟨_, rfl⟩
    have z1 : IntKind.i64.wrap ((G : Int) + 1) = (X : Int) := by rw [IntWalk.i64_in _ (by omega)]; omega
    rw [← hX] at HPut
    clear hput hm hf hml hMr hX
    go_wp2
    rw [HW3.out]
    clear HW3 c1 f1
    have a0 := fun V hV => cell_of (HK0.out V hV) 0
    have a1 := fun V hV => cell_of (HK0.out V hV) 1
    go_region_held3 (fun V => Below W3.heap.size W3 V) (assumption) (first | fail)
    have hd := HK0.out W3.drew kd
    have b1 := cell_of hd 1
    have f1 := free_of hd 1
    obtain ⟨W5, hW5⟩ : ∃ W5, W3.drew.setCell ⟨g, 1, none⟩ (.slice P m d) = W5 := ⟨_, rfl⟩
    have hg5 : W5.heap[g]? = some (.cells #[.int .i64 (M : Int), .slice P m d, .int .i64 (G : Int)] 30 (0, 0)) := by rw [← hW5]; exact (ref_store hd).1 _
    have ht5 : TurnG g W3 W5 := by rw [← hW5]; exact (TurnG.of kd).set 1 _
    obtain ⟨W6, hW6⟩ : ∃ W6, W5.setCell ⟨g, 2, none⟩ (.int .i64 (X : Int)) = W6 := ⟨_, rfl⟩
    have hg6 : W6.heap[g]? = some (.cells #[.int .i64 (M : Int), .slice P m d, .int .i64 (X : Int)] 30 (0, 0)) := by rw [← hW6]; exact (ref_store hg5).2 _
    have ht6 : TurnG g W3 W6 := by rw [← hW6]; exact ht5.set 2 _
    have b2 := cell_of hg5 2
    have f2 := free_of hg5 2
    have HE : Hid (RefAt (fun b => w.heap.size ≤ b) W6 g M X ((L ++ [x]).drop 1) ∧ TurnG g w W6) := Lib.hid (by
      refine ⟨⟨P, d, by rw [HML.out]; exact hg6, ?_, by have := Hgl.out; omega⟩, HT3.out.trans ht6⟩
      rw [HML.out]
      exact HF.out.keep (fun b hb hlt => ht6.block b hlt (by have := Hgl.out; omega)) ht6.size)
    have HW6 : Hid (((W3.setCell ⟨g, 1, none⟩ (.slice P m d)).setCell ⟨g, 2, none⟩ (.int .i64 (X : Int))).drew = W6) := Lib.hid (by rw [← hW6, ← hW5]; rfl)
    have c32 := cell_of HG3.out 2
    have f32 := free_of HG3.out 2
    have c31 := cell_of HG3.out 1
    have f31 := free_of HG3.out 1
    clear hd hW5 hg5 ht5 hW6 hg6 ht6 a0 a1 HK0 HML HF kd b1 f1 b2 f2
    go_wp2
    rw [HW6.out]
    go_ret
    rw [HPut.out.1, HPut.out.2.1, HPut.out.2.2]
    exact ⟨rfl, HE.out⟩
  · have g1 : decide ((r : Int) > (M : Int)) = false := by simp; omega
    have g1' : decide (M < r) = false := by simpa using hMr
    have hput : putV M L x = L ++ [x] ∧ putB M L = false ∧ goneV M L G = G := by
      have := HR.out; have := HQ.out
      unfold putV putB goneV
      exact ⟨if_neg (by omega), by simp; omega, if_neg (by omega)⟩
    have HPut := Lib.hid hput
    have HE : Hid (RefAt (fun b => w.heap.size ≤ b) W3.drew g M G (L ++ [x]) ∧ TurnG g w W3.drew) := Lib.hid (by
      have hh := HR.out
      refine ⟨⟨A2, c2, by rw [hh.1, hh.2]; exact HG3.out, ?_, by have := Hgl.out; omega⟩, HT3.out.trans (TurnG.of kd)⟩
      rw [hh.1, hh.2]
      exact HL3.out.keep (fun b hb hlt => rfl) kd.size)
    clear hput hMr
    go_wp2
    rw [HW3.out]
    clear HW3 c1 f1
    have a0 := fun V hV => cell_of (HK0.out V hV) 0
    have a1 := fun V hV => cell_of (HK0.out V hV) 1
    go_region_held3 (fun V => Below W3.heap.size W3 V) (assumption) (first | fail)
    go_wp2
    go_ret
    rw [HPut.out.1, HPut.out.2.1, HPut.out.2.2]
    exact ⟨rfl, HE.out⟩
end Go.Proofs.Ytpanhkhiomgclaa.Ba
