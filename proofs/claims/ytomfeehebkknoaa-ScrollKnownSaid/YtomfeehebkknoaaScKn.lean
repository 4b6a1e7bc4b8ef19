/- Layer 13: ScrollKnown. -/
import Derived.Test.YtomfeehebkknoaaScK
set_option linter.unusedVariables false
namespace Go.Proofs.Ytomfeehebkknoaa.Rw
open Go.RowKit

def noAttrO : Obj := .cells #[.int .u16 0, .int .u8 0, .int .u32 0, .int .u8 0, .int .u32 0] 28 (0, 0)
set_option maxRecDepth 100000 in
set_option maxHeartbeats 8000000 in
theorem known_law (w : World) : Calls Try.prog 5 #[] w fun e w' => e = .returned (.bool true) ∧ Below w.heap.size w w' := by
  go_enter Try.func5, Try.ntmps5
  have K1 : Hid (Calls Try.prog 14 #[.string ⟨#[97, 98, 99, 100, 101]⟩] w fun e w' => ∃ v, e = .returned v ∧ TabAt (fun _ => True) w' v (ofL ⟨#[97, 98, 99, 100, 101]⟩) ∧ Below (w).heap.size w w') := Lib.hid ((of_any ⟨#[97, 98, 99, 100, 101]⟩ w (by decide)).mono fun e w' ⟨v, he, ht, hb⟩ => ⟨v, he, ht.more fun _ _ => trivial, hb⟩)
  go_wp2_with fail
  refine (show Calls _ _ _ _ _ from K1.out).mono ?_
  rintro e y1 ⟨vTl, rfl, hTl, hb⟩
  have Tl := Lib.hid (fun (V : World) (hV : Below y1.heap.size y1 V) => hTl.below hV)
  have qJ := Lib.hid hb
  clear K1 hb   hTl
  have J := qJ
  clear qJ
  have hzb := (Below.refl y1.heap.size y1).alloc (Nat.le_refl _) noAttrO
  obtain ⟨z0, hz0⟩ : ∃ z0, y1.alloc noAttrO = z0 := ⟨_, rfl⟩
  obtain ⟨nb, hnb⟩ : ∃ nb, y1.heap.size = nb := ⟨_, rfl⟩
  have hnq : z0.heap[nb]? = some noAttrO := by rw [← hz0, ← hnb]; exact heap_alloc_new _ _
  rw [hz0] at hzb
  have NB := Lib.hid (fun (V : World) (hV : Below z0.heap.size z0 V) => (hV.block nb (blk_lt hnq)).trans hnq)
  have qT := Lib.hid (fun (V : World) (hV : Below z0.heap.size z0 V) => Tl.out V (hzb.trans (hV.mono hzb.size)))
  have qJ := Lib.hid (J.out.trans (hzb.mono J.out.size))
  have HZ := Lib.hid hz0
  have HNb := Lib.hid hnb
  clear Tl J hz0 hnb hzb hnq
  have Tl := qT
  have J := qJ
  clear qT qJ
  go_upto_region 3 with fail
  change Code.wp _ _ _ _ (y1.alloc noAttrO)
  rw [HZ.out, HNb.out]
  clear HZ HNb
  have a0 := cell_of (show (z0).heap[nb]? = some (Obj.cells #[.int .u16 0, .int .u8 0, .int .u32 0, .int .u8 0, .int .u32 0] 28 (0, 0)) from NB.out _ (Below.refl _ _))
  have n0 := a0 0
  have n1 := a0 1
  have n2 := a0 2
  have n3 := a0 3
  have n4 := a0 4
  clear a0
  have K2 : Hid (Calls Try.prog 9 #[vTl, .int .i64 1, .int .i64 3, .int .i64 1, .int .i64 1, attrV zeroAa] z0 (TwoLit z0 (ofL ⟨#[97, 99, 100, 32, 101]⟩) 5 (ofL ⟨#[98]⟩) 1)) := Lib.hid ((up_any (Tl.out _ (Below.refl _ _)) (by decide +kernel) (wide_dec (by decide +kernel)) 1 3 1 1 zeroAa (in_smallR (by decide) (by decide)) (in_smallR (by decide) (by decide)) (in_smallR (by decide) (by decide)) (in_smallR (by decide) (by decide))).mono fun e w' h => two_lit h (by decide +kernel) (by decide +kernel) (by decide +kernel) (by decide +kernel))
  go_wp2_with fail
  refine (show Calls _ _ _ _ _ from K2.out).mono ?_
  rintro e y2 ⟨ATa, cTa, ATg, cTg, rfl, hTa, hTg, hb⟩
  have Ta := Lib.hid (fun (V : World) (hV : Below y2.heap.size y2 V) => hTa.below hV)
  have Tg := Lib.hid (fun (V : World) (hV : Below y2.heap.size y2 V) => hTg.below hV)
  have qTl := Lib.hid (fun (V : World) (hV : Below y2.heap.size y2 V) => Tl.out V (hb.trans (hV.mono hb.size)))
  have qNB := Lib.hid (fun (V : World) (hV : Below y2.heap.size y2 V) => NB.out V (hb.trans (hV.mono hb.size)))
  have qJ := Lib.hid (J.out.trans (hb.mono J.out.size))
  clear K2 hb Tl NB J hTa hTg
  have Tl := qTl
  clear qTl
  have NB := qNB
  clear qNB
  have J := qJ
  clear qJ
  clear n0 n1 n2 n3 n4
  have a0 := cell_of (show (y2).heap[nb]? = some (Obj.cells #[.int .u16 0, .int .u8 0, .int .u32 0, .int .u8 0, .int .u32 0] 28 (0, 0)) from NB.out _ (Below.refl _ _))
  have n0 := a0 0
  have n1 := a0 1
  have n2 := a0 2
  have n3 := a0 3
  have n4 := a0 4
  clear a0
  have K3 : Hid (Calls Try.prog 9 #[vTl, .int .i64 1, .int .i64 3, .int .i64 9, .int .i64 1, attrV zeroAa] y2 (TwoLit y2 (ofL ⟨#[97, 32, 32, 32, 101]⟩) 5 (ofL ⟨#[98, 99, 100]⟩) 3)) := Lib.hid ((up_any (Tl.out _ (Below.refl _ _)) (by decide +kernel) (wide_dec (by decide +kernel)) 1 3 9 1 zeroAa (in_smallR (by decide) (by decide)) (in_smallR (by decide) (by decide)) (in_smallR (by decide) (by decide)) (in_smallR (by decide) (by decide))).mono fun e w' h => two_lit h (by decide +kernel) (by decide +kernel) (by decide +kernel) (by decide +kernel))
  go_wp2_with fail
  refine (show Calls _ _ _ _ _ from K3.out).mono ?_
  rintro e y3 ⟨ATb, cTb, ATh, cTh, rfl, hTb, hTh, hb⟩
  have Tb := Lib.hid (fun (V : World) (hV : Below y3.heap.size y3 V) => hTb.below hV)
  have Th := Lib.hid (fun (V : World) (hV : Below y3.heap.size y3 V) => hTh.below hV)
  have qTl := Lib.hid (fun (V : World) (hV : Below y3.heap.size y3 V) => Tl.out V (hb.trans (hV.mono hb.size)))
  have qNB := Lib.hid (fun (V : World) (hV : Below y3.heap.size y3 V) => NB.out V (hb.trans (hV.mono hb.size)))
  have qTa := Lib.hid (fun (V : World) (hV : Below y3.heap.size y3 V) => Ta.out V (hb.trans (hV.mono hb.size)))
  have qTg := Lib.hid (fun (V : World) (hV : Below y3.heap.size y3 V) => Tg.out V (hb.trans (hV.mono hb.size)))
  have qJ := Lib.hid (J.out.trans (hb.mono J.out.size))
  clear K3 hb Tl NB Ta Tg J hTb hTh
  have Tl := qTl
  clear qTl
  have NB := qNB
  clear qNB
  have Ta := qTa
  clear qTa
  have Tg := qTg
  clear qTg
  have J := qJ
  clear qJ
  clear n0 n1 n2 n3 n4
  have a0 := cell_of (show (y3).heap[nb]? = some (Obj.cells #[.int .u16 0, .int .u8 0, .int .u32 0, .int .u8 0, .int .u32 0] 28 (0, 0)) from NB.out _ (Below.refl _ _))
  have n0 := a0 0
  have n1 := a0 1
  have n2 := a0 2
  have n3 := a0 3
  have n4 := a0 4
  clear a0
  have K4 : Hid (Calls Try.prog 8 #[vTl, .int .i64 1, .int .i64 3, .int .i64 2, .int .i64 1, attrV zeroAa] y3 (TwoLit y3 (ofL ⟨#[97, 32, 32, 98, 101]⟩) 5 (ofL ⟨#[99, 100]⟩) 2)) := Lib.hid ((down_any (Tl.out _ (Below.refl _ _)) (by decide +kernel) (wide_dec (by decide +kernel)) 1 3 2 1 zeroAa (in_smallR (by decide) (by decide)) (in_smallR (by decide) (by decide)) (in_smallR (by decide) (by decide)) (in_smallR (by decide) (by decide))).mono fun e w' h => two_lit h (by decide +kernel) (by decide +kernel) (by decide +kernel) (by decide +kernel))
  go_wp2_with fail
  refine (show Calls _ _ _ _ _ from K4.out).mono ?_
  rintro e y4 ⟨ATc, cTc, ATi, cTi, rfl, hTc, hTi, hb⟩
  have Tc := Lib.hid (fun (V : World) (hV : Below y4.heap.size y4 V) => hTc.below hV)
  have Ti := Lib.hid (fun (V : World) (hV : Below y4.heap.size y4 V) => hTi.below hV)
  have qTl := Lib.hid (fun (V : World) (hV : Below y4.heap.size y4 V) => Tl.out V (hb.trans (hV.mono hb.size)))
  have qNB := Lib.hid (fun (V : World) (hV : Below y4.heap.size y4 V) => NB.out V (hb.trans (hV.mono hb.size)))
  have qTa := Lib.hid (fun (V : World) (hV : Below y4.heap.size y4 V) => Ta.out V (hb.trans (hV.mono hb.size)))
  have qTg := Lib.hid (fun (V : World) (hV : Below y4.heap.size y4 V) => Tg.out V (hb.trans (hV.mono hb.size)))
  have qTb := Lib.hid (fun (V : World) (hV : Below y4.heap.size y4 V) => Tb.out V (hb.trans (hV.mono hb.size)))
  have qTh := Lib.hid (fun (V : World) (hV : Below y4.heap.size y4 V) => Th.out V (hb.trans (hV.mono hb.size)))
  have qJ := Lib.hid (J.out.trans (hb.mono J.out.size))
  clear K4 hb Tl NB Ta Tg Tb Th J hTc hTi
  have Tl := qTl
  clear qTl
  have NB := qNB
  clear qNB
  have Ta := qTa
  clear qTa
  have Tg := qTg
  clear qTg
  have Tb := qTb
  clear qTb
  have Th := qTh
  clear qTh
  have J := qJ
  clear qJ
  clear n0 n1 n2 n3 n4
  have a0 := cell_of (show (y4).heap[nb]? = some (Obj.cells #[.int .u16 0, .int .u8 0, .int .u32 0, .int .u8 0, .int .u32 0] 28 (0, 0)) from NB.out _ (Below.refl _ _))
  have n0 := a0 0
  have n1 := a0 1
  have n2 := a0 2
  have n3 := a0 3
  have n4 := a0 4
  clear a0
  have K5 : Hid (Calls Try.prog 9 #[vTl, .int .i64 3, .int .i64 1, .int .i64 1, .int .i64 1, attrV zeroAa] y4 (TwoLit y4 (ofL ⟨#[97, 98, 99, 100, 101]⟩) 5 ([] : Ls) 0)) := Lib.hid ((up_any (Tl.out _ (Below.refl _ _)) (by decide +kernel) (wide_dec (by decide +kernel)) 3 1 1 1 zeroAa (in_smallR (by decide) (by decide)) (in_smallR (by decide) (by decide)) (in_smallR (by decide) (by decide)) (in_smallR (by decide) (by decide))).mono fun e w' h => two_lit h (by decide +kernel) (by decide +kernel) (by decide +kernel) (by decide +kernel))
  go_wp2_with fail
  refine (show Calls _ _ _ _ _ from K5.out).mono ?_
  rintro e y5 ⟨ATd, cTd, ATj, cTj, rfl, hTd, hTj, hb⟩
  have Td := Lib.hid (fun (V : World) (hV : Below y5.heap.size y5 V) => hTd.below hV)
  have Tj := Lib.hid (fun (V : World) (hV : Below y5.heap.size y5 V) => hTj.below hV)
  have qTl := Lib.hid (fun (V : World) (hV : Below y5.heap.size y5 V) => Tl.out V (hb.trans (hV.mono hb.size)))
  have qNB := Lib.hid (fun (V : World) (hV : Below y5.heap.size y5 V) => NB.out V (hb.trans (hV.mono hb.size)))
  have qTa := Lib.hid (fun (V : World) (hV : Below y5.heap.size y5 V) => Ta.out V (hb.trans (hV.mono hb.size)))
  have qTg := Lib.hid (fun (V : World) (hV : Below y5.heap.size y5 V) => Tg.out V (hb.trans (hV.mono hb.size)))
  have qTb := Lib.hid (fun (V : World) (hV : Below y5.heap.size y5 V) => Tb.out V (hb.trans (hV.mono hb.size)))
  have qTh := Lib.hid (fun (V : World) (hV : Below y5.heap.size y5 V) => Th.out V (hb.trans (hV.mono hb.size)))
  have qTc := Lib.hid (fun (V : World) (hV : Below y5.heap.size y5 V) => Tc.out V (hb.trans (hV.mono hb.size)))
  have qTi := Lib.hid (fun (V : World) (hV : Below y5.heap.size y5 V) => Ti.out V (hb.trans (hV.mono hb.size)))
  have qJ := Lib.hid (J.out.trans (hb.mono J.out.size))
  clear K5 hb Tl NB Ta Tg Tb Th Tc Ti J hTd hTj
  have Tl := qTl
  clear qTl
  have NB := qNB
  clear qNB
  have Ta := qTa
  clear qTa
  have Tg := qTg
  clear qTg
  have Tb := qTb
  clear qTb
  have Th := qTh
  clear qTh
  have Tc := qTc
  clear qTc
  have Ti := qTi
  clear qTi
  have J := qJ
  clear qJ
  clear n0 n1 n2 n3 n4
  clear Tj
  have a0 := cell_of (show (y5).heap[nb]? = some (Obj.cells #[.int .u16 0, .int .u8 0, .int .u32 0, .int .u8 0, .int .u32 0] 28 (0, 0)) from NB.out _ (Below.refl _ _))
  have n0 := a0 0
  have n1 := a0 1
  have n2 := a0 2
  have n3 := a0 3
  have n4 := a0 4
  clear a0
  have K6 : Hid (Calls Try.prog 8 #[vTl, .int .i64 0, .int .i64 5, .int .i64 1, .int .i64 1, attrV zeroAa] y5 (TwoLit y5 (ofL ⟨#[97, 98, 99, 100, 101]⟩) 5 ([] : Ls) 0)) := Lib.hid ((down_any (Tl.out _ (Below.refl _ _)) (by decide +kernel) (wide_dec (by decide +kernel)) 0 5 1 1 zeroAa (in_smallR (by decide) (by decide)) (in_smallR (by decide) (by decide)) (in_smallR (by decide) (by decide)) (in_smallR (by decide) (by decide))).mono fun e w' h => two_lit h (by decide +kernel) (by decide +kernel) (by decide +kernel) (by decide +kernel))
  go_wp2_with fail
  refine (show Calls _ _ _ _ _ from K6.out).mono ?_
  rintro e y6 ⟨ATe, cTe, ATk, cTk, rfl, hTe, hTk, hb⟩
  have Te := Lib.hid (fun (V : World) (hV : Below y6.heap.size y6 V) => hTe.below hV)
  have Tk := Lib.hid (fun (V : World) (hV : Below y6.heap.size y6 V) => hTk.below hV)
  have qTl := Lib.hid (fun (V : World) (hV : Below y6.heap.size y6 V) => Tl.out V (hb.trans (hV.mono hb.size)))
  have qNB := Lib.hid (fun (V : World) (hV : Below y6.heap.size y6 V) => NB.out V (hb.trans (hV.mono hb.size)))
  have qTa := Lib.hid (fun (V : World) (hV : Below y6.heap.size y6 V) => Ta.out V (hb.trans (hV.mono hb.size)))
  have qTg := Lib.hid (fun (V : World) (hV : Below y6.heap.size y6 V) => Tg.out V (hb.trans (hV.mono hb.size)))
  have qTb := Lib.hid (fun (V : World) (hV : Below y6.heap.size y6 V) => Tb.out V (hb.trans (hV.mono hb.size)))
  have qTh := Lib.hid (fun (V : World) (hV : Below y6.heap.size y6 V) => Th.out V (hb.trans (hV.mono hb.size)))
  have qTc := Lib.hid (fun (V : World) (hV : Below y6.heap.size y6 V) => Tc.out V (hb.trans (hV.mono hb.size)))
  have qTi := Lib.hid (fun (V : World) (hV : Below y6.heap.size y6 V) => Ti.out V (hb.trans (hV.mono hb.size)))
  have qTd := Lib.hid (fun (V : World) (hV : Below y6.heap.size y6 V) => Td.out V (hb.trans (hV.mono hb.size)))
  have qJ := Lib.hid (J.out.trans (hb.mono J.out.size))
  clear K6 hb Tl NB Ta Tg Tb Th Tc Ti Td J hTe hTk
  have Tl := qTl
  clear qTl
  have NB := qNB
  clear qNB
  have Ta := qTa
  clear qTa
  have Tg := qTg
  clear qTg
  have Tb := qTb
  clear qTb
  have Th := qTh
  clear qTh
  have Tc := qTc
  clear qTc
  have Ti := qTi
  clear qTi
  have Td := qTd
  clear qTd
  have J := qJ
  clear qJ
  clear n0 n1 n2 n3 n4
  clear Tk
  have a0 := cell_of (show (y6).heap[nb]? = some (Obj.cells #[.int .u16 0, .int .u8 0, .int .u32 0, .int .u8 0, .int .u32 0] 28 (0, 0)) from NB.out _ (Below.refl _ _))
  have n0 := a0 0
  have n1 := a0 1
  have n2 := a0 2
  have n3 := a0 3
  have n4 := a0 4
  clear a0
  have K7 : Hid (Calls Try.prog 9 #[vTl, .int .i64 0, .int .i64 4, .int .i64 0, .int .i64 1, attrV zeroAa] y6 (TwoLit y6 (ofL ⟨#[97, 98, 99, 100, 101]⟩) 5 ([] : Ls) 0)) := Lib.hid ((up_any (Tl.out _ (Below.refl _ _)) (by decide +kernel) (wide_dec (by decide +kernel)) 0 4 0 1 zeroAa (in_smallR (by decide) (by decide)) (in_smallR (by decide) (by decide)) (in_smallR (by decide) (by decide)) (in_smallR (by decide) (by decide))).mono fun e w' h => two_lit h (by decide +kernel) (by decide +kernel) (by decide +kernel) (by decide +kernel))
  go_wp2_with fail
  refine (show Calls _ _ _ _ _ from K7.out).mono ?_
  rintro e y7 ⟨ATf, cTf, ATm, cTm, rfl, hTf, hTm, hb⟩
  have Tf := Lib.hid (fun (V : World) (hV : Below y7.heap.size y7 V) => hTf.below hV)
  have Tm := Lib.hid (fun (V : World) (hV : Below y7.heap.size y7 V) => hTm.below hV)
  have qTl := Lib.hid (fun (V : World) (hV : Below y7.heap.size y7 V) => Tl.out V (hb.trans (hV.mono hb.size)))
  have qNB := Lib.hid (fun (V : World) (hV : Below y7.heap.size y7 V) => NB.out V (hb.trans (hV.mono hb.size)))
  have qTa := Lib.hid (fun (V : World) (hV : Below y7.heap.size y7 V) => Ta.out V (hb.trans (hV.mono hb.size)))
  have qTg := Lib.hid (fun (V : World) (hV : Below y7.heap.size y7 V) => Tg.out V (hb.trans (hV.mono hb.size)))
  have qTb := Lib.hid (fun (V : World) (hV : Below y7.heap.size y7 V) => Tb.out V (hb.trans (hV.mono hb.size)))
  have qTh := Lib.hid (fun (V : World) (hV : Below y7.heap.size y7 V) => Th.out V (hb.trans (hV.mono hb.size)))
  have qTc := Lib.hid (fun (V : World) (hV : Below y7.heap.size y7 V) => Tc.out V (hb.trans (hV.mono hb.size)))
  have qTi := Lib.hid (fun (V : World) (hV : Below y7.heap.size y7 V) => Ti.out V (hb.trans (hV.mono hb.size)))
  have qTd := Lib.hid (fun (V : World) (hV : Below y7.heap.size y7 V) => Td.out V (hb.trans (hV.mono hb.size)))
  have qTe := Lib.hid (fun (V : World) (hV : Below y7.heap.size y7 V) => Te.out V (hb.trans (hV.mono hb.size)))
  have qJ := Lib.hid (J.out.trans (hb.mono J.out.size))
  clear K7 hb Tl NB Ta Tg Tb Th Tc Ti Td Te J hTf hTm
  have Tl := qTl
  clear qTl
  have NB := qNB
  clear qNB
  have Ta := qTa
  clear qTa
  have Tg := qTg
  clear qTg
  have Tb := qTb
  clear qTb
  have Th := qTh
  clear qTh
  have Tc := qTc
  clear qTc
  have Ti := qTi
  clear qTi
  have Td := qTd
  clear qTd
  have Te := qTe
  clear qTe
  have J := qJ
  clear qJ
  clear n0 n1 n2 n3 n4
  clear Tm
  have K8 : Hid (Calls Try.prog 14 #[.string ⟨#[97, 99, 100, 32, 101]⟩] y7 fun e w' => ∃ v, e = .returned v ∧ TabAt (fun _ => True) w' v (ofL ⟨#[97, 99, 100, 32, 101]⟩) ∧ Below (y7).heap.size y7 w') := Lib.hid ((of_any ⟨#[97, 99, 100, 32, 101]⟩ y7 (by decide)).mono fun e w' ⟨v, he, ht, hb⟩ => ⟨v, he, ht.more fun _ _ => trivial, hb⟩)
  go_wp2_with fail
  refine (show Calls _ _ _ _ _ from K8.out).mono ?_
  rintro e y8 ⟨vTo, rfl, hTo, hb⟩
  have To := Lib.hid (fun (V : World) (hV : Below y8.heap.size y8 V) => hTo.below hV)
  have qTl := Lib.hid (fun (V : World) (hV : Below y8.heap.size y8 V) => Tl.out V (hb.trans (hV.mono hb.size)))
  have qNB := Lib.hid (fun (V : World) (hV : Below y8.heap.size y8 V) => NB.out V (hb.trans (hV.mono hb.size)))
  have qTa := Lib.hid (fun (V : World) (hV : Below y8.heap.size y8 V) => Ta.out V (hb.trans (hV.mono hb.size)))
  have qTg := Lib.hid (fun (V : World) (hV : Below y8.heap.size y8 V) => Tg.out V (hb.trans (hV.mono hb.size)))
  have qTb := Lib.hid (fun (V : World) (hV : Below y8.heap.size y8 V) => Tb.out V (hb.trans (hV.mono hb.size)))
  have qTh := Lib.hid (fun (V : World) (hV : Below y8.heap.size y8 V) => Th.out V (hb.trans (hV.mono hb.size)))
  have qTc := Lib.hid (fun (V : World) (hV : Below y8.heap.size y8 V) => Tc.out V (hb.trans (hV.mono hb.size)))
  have qTi := Lib.hid (fun (V : World) (hV : Below y8.heap.size y8 V) => Ti.out V (hb.trans (hV.mono hb.size)))
  have qTd := Lib.hid (fun (V : World) (hV : Below y8.heap.size y8 V) => Td.out V (hb.trans (hV.mono hb.size)))
  have qTe := Lib.hid (fun (V : World) (hV : Below y8.heap.size y8 V) => Te.out V (hb.trans (hV.mono hb.size)))
  have qTf := Lib.hid (fun (V : World) (hV : Below y8.heap.size y8 V) => Tf.out V (hb.trans (hV.mono hb.size)))
  have qJ := Lib.hid (J.out.trans (hb.mono J.out.size))
  clear K8 hb Tl NB Ta Tg Tb Th Tc Ti Td Te Tf J hTo
  have Tl := qTl
  clear qTl
  have NB := qNB
  clear qNB
  have Ta := qTa
  clear qTa
  have Tg := qTg
  clear qTg
  have Tb := qTb
  clear qTb
  have Th := qTh
  clear qTh
  have Tc := qTc
  clear qTc
  have Ti := qTi
  clear qTi
  have Td := qTd
  clear qTd
  have Te := qTe
  clear qTe
  have Tf := qTf
  clear qTf
  have J := qJ
  clear qJ
  have K9 : Hid (Calls Try.prog 10 #[.slice ATa 5 cTa, vTo] y8 fun e w' => e = .returned (.bool true) ∧ Below (y8).heap.size y8 w') := Lib.hid (by have := same_tab (Ta.out _ (Below.refl _ _)) (To.out _ (Below.refl _ _)) (by decide +kernel) (wide_dec (by decide +kernel)); rwa [show decide ((ofL ⟨#[97, 99, 100, 32, 101]⟩) = (ofL ⟨#[97, 99, 100, 32, 101]⟩)) = true from by decide +kernel] at this)
  go_wp2_with fail
  refine (show Calls _ _ _ _ _ from K9.out).mono ?_
  rintro e y9 ⟨rfl, hb⟩
  have qTl := Lib.hid (fun (V : World) (hV : Below y9.heap.size y9 V) => Tl.out V (hb.trans (hV.mono hb.size)))
  have qNB := Lib.hid (fun (V : World) (hV : Below y9.heap.size y9 V) => NB.out V (hb.trans (hV.mono hb.size)))
  have qTa := Lib.hid (fun (V : World) (hV : Below y9.heap.size y9 V) => Ta.out V (hb.trans (hV.mono hb.size)))
  have qTg := Lib.hid (fun (V : World) (hV : Below y9.heap.size y9 V) => Tg.out V (hb.trans (hV.mono hb.size)))
  have qTb := Lib.hid (fun (V : World) (hV : Below y9.heap.size y9 V) => Tb.out V (hb.trans (hV.mono hb.size)))
  have qTh := Lib.hid (fun (V : World) (hV : Below y9.heap.size y9 V) => Th.out V (hb.trans (hV.mono hb.size)))
  have qTc := Lib.hid (fun (V : World) (hV : Below y9.heap.size y9 V) => Tc.out V (hb.trans (hV.mono hb.size)))
  have qTi := Lib.hid (fun (V : World) (hV : Below y9.heap.size y9 V) => Ti.out V (hb.trans (hV.mono hb.size)))
  have qTd := Lib.hid (fun (V : World) (hV : Below y9.heap.size y9 V) => Td.out V (hb.trans (hV.mono hb.size)))
  have qTe := Lib.hid (fun (V : World) (hV : Below y9.heap.size y9 V) => Te.out V (hb.trans (hV.mono hb.size)))
  have qTf := Lib.hid (fun (V : World) (hV : Below y9.heap.size y9 V) => Tf.out V (hb.trans (hV.mono hb.size)))
  have qTo := Lib.hid (fun (V : World) (hV : Below y9.heap.size y9 V) => To.out V (hb.trans (hV.mono hb.size)))
  have qJ := Lib.hid (J.out.trans (hb.mono J.out.size))
  clear K9 hb Tl NB Ta Tg Tb Th Tc Ti Td Te Tf To J 
  have Tl := qTl
  clear qTl
  have NB := qNB
  clear qNB
  have Ta := qTa
  clear qTa
  have Tg := qTg
  clear qTg
  have Tb := qTb
  clear qTb
  have Th := qTh
  clear qTh
  have Tc := qTc
  clear qTc
  have Ti := qTi
  clear qTi
  have Td := qTd
  clear qTd
  have Te := qTe
  clear qTe
  have Tf := qTf
  clear qTf
  have To := qTo
  clear qTo
  have J := qJ
  clear qJ
  clear To
  clear Ta
  have K10 : Hid (Calls Try.prog 14 #[.string ⟨#[98]⟩] y9 fun e w' => ∃ v, e = .returned v ∧ TabAt (fun _ => True) w' v (ofL ⟨#[98]⟩) ∧ Below (y9).heap.size y9 w') := Lib.hid ((of_any ⟨#[98]⟩ y9 (by decide)).mono fun e w' ⟨v, he, ht, hb⟩ => ⟨v, he, ht.more fun _ _ => trivial, hb⟩)
  go_wp2_with fail
  refine (show Calls _ _ _ _ _ from K10.out).mono ?_
  rintro e y10 ⟨vTo, rfl, hTo, hb⟩
  have To := Lib.hid (fun (V : World) (hV : Below y10.heap.size y10 V) => hTo.below hV)
  have qTl := Lib.hid (fun (V : World) (hV : Below y10.heap.size y10 V) => Tl.out V (hb.trans (hV.mono hb.size)))
  have qNB := Lib.hid (fun (V : World) (hV : Below y10.heap.size y10 V) => NB.out V (hb.trans (hV.mono hb.size)))
  have qTg := Lib.hid (fun (V : World) (hV : Below y10.heap.size y10 V) => Tg.out V (hb.trans (hV.mono hb.size)))
  have qTb := Lib.hid (fun (V : World) (hV : Below y10.heap.size y10 V) => Tb.out V (hb.trans (hV.mono hb.size)))
  have qTh := Lib.hid (fun (V : World) (hV : Below y10.heap.size y10 V) => Th.out V (hb.trans (hV.mono hb.size)))
  have qTc := Lib.hid (fun (V : World) (hV : Below y10.heap.size y10 V) => Tc.out V (hb.trans (hV.mono hb.size)))
  have qTi := Lib.hid (fun (V : World) (hV : Below y10.heap.size y10 V) => Ti.out V (hb.trans (hV.mono hb.size)))
  have qTd := Lib.hid (fun (V : World) (hV : Below y10.heap.size y10 V) => Td.out V (hb.trans (hV.mono hb.size)))
  have qTe := Lib.hid (fun (V : World) (hV : Below y10.heap.size y10 V) => Te.out V (hb.trans (hV.mono hb.size)))
  have qTf := Lib.hid (fun (V : World) (hV : Below y10.heap.size y10 V) => Tf.out V (hb.trans (hV.mono hb.size)))
  have qJ := Lib.hid (J.out.trans (hb.mono J.out.size))
  clear K10 hb Tl NB Tg Tb Th Tc Ti Td Te Tf J hTo
  have Tl := qTl
  clear qTl
  have NB := qNB
  clear qNB
  have Tg := qTg
  clear qTg
  have Tb := qTb
  clear qTb
  have Th := qTh
  clear qTh
  have Tc := qTc
  clear qTc
  have Ti := qTi
  clear qTi
  have Td := qTd
  clear qTd
  have Te := qTe
  clear qTe
  have Tf := qTf
  clear qTf
  have J := qJ
  clear qJ
  have K11 : Hid (Calls Try.prog 10 #[.slice ATg 1 cTg, vTo] y10 fun e w' => e = .returned (.bool true) ∧ Below (y10).heap.size y10 w') := Lib.hid (by have := same_tab (Tg.out _ (Below.refl _ _)) (To.out _ (Below.refl _ _)) (by decide +kernel) (wide_dec (by decide +kernel)); rwa [show decide ((ofL ⟨#[98]⟩) = (ofL ⟨#[98]⟩)) = true from by decide +kernel] at this)
  go_wp2_with fail
  refine (show Calls _ _ _ _ _ from K11.out).mono ?_
  rintro e y11 ⟨rfl, hb⟩
  have qTl := Lib.hid (fun (V : World) (hV : Below y11.heap.size y11 V) => Tl.out V (hb.trans (hV.mono hb.size)))
  have qNB := Lib.hid (fun (V : World) (hV : Below y11.heap.size y11 V) => NB.out V (hb.trans (hV.mono hb.size)))
  have qTg := Lib.hid (fun (V : World) (hV : Below y11.heap.size y11 V) => Tg.out V (hb.trans (hV.mono hb.size)))
  have qTb := Lib.hid (fun (V : World) (hV : Below y11.heap.size y11 V) => Tb.out V (hb.trans (hV.mono hb.size)))
  have qTh := Lib.hid (fun (V : World) (hV : Below y11.heap.size y11 V) => Th.out V (hb.trans (hV.mono hb.size)))
  have qTc := Lib.hid (fun (V : World) (hV : Below y11.heap.size y11 V) => Tc.out V (hb.trans (hV.mono hb.size)))
  have qTi := Lib.hid (fun (V : World) (hV : Below y11.heap.size y11 V) => Ti.out V (hb.trans (hV.mono hb.size)))
  have qTd := Lib.hid (fun (V : World) (hV : Below y11.heap.size y11 V) => Td.out V (hb.trans (hV.mono hb.size)))
  have qTe := Lib.hid (fun (V : World) (hV : Below y11.heap.size y11 V) => Te.out V (hb.trans (hV.mono hb.size)))
  have qTf := Lib.hid (fun (V : World) (hV : Below y11.heap.size y11 V) => Tf.out V (hb.trans (hV.mono hb.size)))
  have qTo := Lib.hid (fun (V : World) (hV : Below y11.heap.size y11 V) => To.out V (hb.trans (hV.mono hb.size)))
  have qJ := Lib.hid (J.out.trans (hb.mono J.out.size))
  clear K11 hb Tl NB Tg Tb Th Tc Ti Td Te Tf To J 
  have Tl := qTl
  clear qTl
  have NB := qNB
  clear qNB
  have Tg := qTg
  clear qTg
  have Tb := qTb
  clear qTb
  have Th := qTh
  clear qTh
  have Tc := qTc
  clear qTc
  have Ti := qTi
  clear qTi
  have Td := qTd
  clear qTd
  have Te := qTe
  clear qTe
  have Tf := qTf
  clear qTf
  have To := qTo
  clear qTo
  have J := qJ
  clear qJ
  clear To
  clear Tg
  have K12 : Hid (Calls Try.prog 14 #[.string ⟨#[97, 32, 32, 32, 101]⟩] y11 fun e w' => ∃ v, e = .returned v ∧ TabAt (fun _ => True) w' v (ofL ⟨#[97, 32, 32, 32, 101]⟩) ∧ Below (y11).heap.size y11 w') := Lib.hid ((of_any ⟨#[97, 32, 32, 32, 101]⟩ y11 (by decide)).mono fun e w' ⟨v, he, ht, hb⟩ => ⟨v, he, ht.more fun _ _ => trivial, hb⟩)
  go_wp2_with fail
  refine (show Calls _ _ _ _ _ from K12.out).mono ?_
  rintro e y12 ⟨vTo, rfl, hTo, hb⟩
  have To := Lib.hid (fun (V : World) (hV : Below y12.heap.size y12 V) => hTo.below hV)
  have qTl := Lib.hid (fun (V : World) (hV : Below y12.heap.size y12 V) => Tl.out V (hb.trans (hV.mono hb.size)))
  have qNB := Lib.hid (fun (V : World) (hV : Below y12.heap.size y12 V) => NB.out V (hb.trans (hV.mono hb.size)))
  have qTb := Lib.hid (fun (V : World) (hV : Below y12.heap.size y12 V) => Tb.out V (hb.trans (hV.mono hb.size)))
  have qTh := Lib.hid (fun (V : World) (hV : Below y12.heap.size y12 V) => Th.out V (hb.trans (hV.mono hb.size)))
  have qTc := Lib.hid (fun (V : World) (hV : Below y12.heap.size y12 V) => Tc.out V (hb.trans (hV.mono hb.size)))
  have qTi := Lib.hid (fun (V : World) (hV : Below y12.heap.size y12 V) => Ti.out V (hb.trans (hV.mono hb.size)))
  have qTd := Lib.hid (fun (V : World) (hV : Below y12.heap.size y12 V) => Td.out V (hb.trans (hV.mono hb.size)))
  have qTe := Lib.hid (fun (V : World) (hV : Below y12.heap.size y12 V) => Te.out V (hb.trans (hV.mono hb.size)))
  have qTf := Lib.hid (fun (V : World) (hV : Below y12.heap.size y12 V) => Tf.out V (hb.trans (hV.mono hb.size)))
  have qJ := Lib.hid (J.out.trans (hb.mono J.out.size))
  clear K12 hb Tl NB Tb Th Tc Ti Td Te Tf J hTo
  have Tl := qTl
  clear qTl
  have NB := qNB
  clear qNB
  have Tb := qTb
  clear qTb
  have Th := qTh
  clear qTh
  have Tc := qTc
  clear qTc
  have Ti := qTi
  clear qTi
  have Td := qTd
  clear qTd
  have Te := qTe
  clear qTe
  have Tf := qTf
  clear qTf
  have J := qJ
  clear qJ
  have K13 : Hid (Calls Try.prog 10 #[.slice ATb 5 cTb, vTo] y12 fun e w' => e = .returned (.bool true) ∧ Below (y12).heap.size y12 w') := Lib.hid (by have := same_tab (Tb.out _ (Below.refl _ _)) (To.out _ (Below.refl _ _)) (by decide +kernel) (wide_dec (by decide +kernel)); rwa [show decide ((ofL ⟨#[97, 32, 32, 32, 101]⟩) = (ofL ⟨#[97, 32, 32, 32, 101]⟩)) = true from by decide +kernel] at this)
  go_wp2_with fail
  refine (show Calls _ _ _ _ _ from K13.out).mono ?_
  rintro e y13 ⟨rfl, hb⟩
  have qTl := Lib.hid (fun (V : World) (hV : Below y13.heap.size y13 V) => Tl.out V (hb.trans (hV.mono hb.size)))
  have qNB := Lib.hid (fun (V : World) (hV : Below y13.heap.size y13 V) => NB.out V (hb.trans (hV.mono hb.size)))
  have qTb := Lib.hid (fun (V : World) (hV : Below y13.heap.size y13 V) => Tb.out V (hb.trans (hV.mono hb.size)))
  have qTh := Lib.hid (fun (V : World) (hV : Below y13.heap.size y13 V) => Th.out V (hb.trans (hV.mono hb.size)))
  have qTc := Lib.hid (fun (V : World) (hV : Below y13.heap.size y13 V) => Tc.out V (hb.trans (hV.mono hb.size)))
  have qTi := Lib.hid (fun (V : World) (hV : Below y13.heap.size y13 V) => Ti.out V (hb.trans (hV.mono hb.size)))
  have qTd := Lib.hid (fun (V : World) (hV : Below y13.heap.size y13 V) => Td.out V (hb.trans (hV.mono hb.size)))
  have qTe := Lib.hid (fun (V : World) (hV : Below y13.heap.size y13 V) => Te.out V (hb.trans (hV.mono hb.size)))
  have qTf := Lib.hid (fun (V : World) (hV : Below y13.heap.size y13 V) => Tf.out V (hb.trans (hV.mono hb.size)))
  have qTo := Lib.hid (fun (V : World) (hV : Below y13.heap.size y13 V) => To.out V (hb.trans (hV.mono hb.size)))
  have qJ := Lib.hid (J.out.trans (hb.mono J.out.size))
  clear K13 hb Tl NB Tb Th Tc Ti Td Te Tf To J 
  have Tl := qTl
  clear qTl
  have NB := qNB
  clear qNB
  have Tb := qTb
  clear qTb
  have Th := qTh
  clear qTh
  have Tc := qTc
  clear qTc
  have Ti := qTi
  clear qTi
  have Td := qTd
  clear qTd
  have Te := qTe
  clear qTe
  have Tf := qTf
  clear qTf
  have To := qTo
  clear qTo
  have J := qJ
  clear qJ
  clear To
  clear Tb
  have K14 : Hid (Calls Try.prog 14 #[.string ⟨#[98, 99, 100]⟩] y13 fun e w' => ∃ v, e = .returned v ∧ TabAt (fun _ => True) w' v (ofL ⟨#[98, 99, 100]⟩) ∧ Below (y13).heap.size y13 w') := Lib.hid ((of_any ⟨#[98, 99, 100]⟩ y13 (by decide)).mono fun e w' ⟨v, he, ht, hb⟩ => ⟨v, he, ht.more fun _ _ => trivial, hb⟩)
  go_wp2_with fail
  refine (show Calls _ _ _ _ _ from K14.out).mono ?_
  rintro e y14 ⟨vTo, rfl, hTo, hb⟩
  have To := Lib.hid (fun (V : World) (hV : Below y14.heap.size y14 V) => hTo.below hV)
  have qTl := Lib.hid (fun (V : World) (hV : Below y14.heap.size y14 V) => Tl.out V (hb.trans (hV.mono hb.size)))
  have qNB := Lib.hid (fun (V : World) (hV : Below y14.heap.size y14 V) => NB.out V (hb.trans (hV.mono hb.size)))
  have qTh := Lib.hid (fun (V : World) (hV : Below y14.heap.size y14 V) => Th.out V (hb.trans (hV.mono hb.size)))
  have qTc := Lib.hid (fun (V : World) (hV : Below y14.heap.size y14 V) => Tc.out V (hb.trans (hV.mono hb.size)))
  have qTi := Lib.hid (fun (V : World) (hV : Below y14.heap.size y14 V) => Ti.out V (hb.trans (hV.mono hb.size)))
  have qTd := Lib.hid (fun (V : World) (hV : Below y14.heap.size y14 V) => Td.out V (hb.trans (hV.mono hb.size)))
  have qTe := Lib.hid (fun (V : World) (hV : Below y14.heap.size y14 V) => Te.out V (hb.trans (hV.mono hb.size)))
  have qTf := Lib.hid (fun (V : World) (hV : Below y14.heap.size y14 V) => Tf.out V (hb.trans (hV.mono hb.size)))
  have qJ := Lib.hid (J.out.trans (hb.mono J.out.size))
  clear K14 hb Tl NB Th Tc Ti Td Te Tf J hTo
  have Tl := qTl
  clear qTl
  have NB := qNB
  clear qNB
  have Th := qTh
  clear qTh
  have Tc := qTc
  clear qTc
  have Ti := qTi
  clear qTi
  have Td := qTd
  clear qTd
  have Te := qTe
  clear qTe
  have Tf := qTf
  clear qTf
  have J := qJ
  clear qJ
  have K15 : Hid (Calls Try.prog 10 #[.slice ATh 3 cTh, vTo] y14 fun e w' => e = .returned (.bool true) ∧ Below (y14).heap.size y14 w') := Lib.hid (by have := same_tab (Th.out _ (Below.refl _ _)) (To.out _ (Below.refl _ _)) (by decide +kernel) (wide_dec (by decide +kernel)); rwa [show decide ((ofL ⟨#[98, 99, 100]⟩) = (ofL ⟨#[98, 99, 100]⟩)) = true from by decide +kernel] at this)
  go_wp2_with fail
  refine (show Calls _ _ _ _ _ from K15.out).mono ?_
  rintro e y15 ⟨rfl, hb⟩
  have qTl := Lib.hid (fun (V : World) (hV : Below y15.heap.size y15 V) => Tl.out V (hb.trans (hV.mono hb.size)))
  have qNB := Lib.hid (fun (V : World) (hV : Below y15.heap.size y15 V) => NB.out V (hb.trans (hV.mono hb.size)))
  have qTh := Lib.hid (fun (V : World) (hV : Below y15.heap.size y15 V) => Th.out V (hb.trans (hV.mono hb.size)))
  have qTc := Lib.hid (fun (V : World) (hV : Below y15.heap.size y15 V) => Tc.out V (hb.trans (hV.mono hb.size)))
  have qTi := Lib.hid (fun (V : World) (hV : Below y15.heap.size y15 V) => Ti.out V (hb.trans (hV.mono hb.size)))
  have qTd := Lib.hid (fun (V : World) (hV : Below y15.heap.size y15 V) => Td.out V (hb.trans (hV.mono hb.size)))
  have qTe := Lib.hid (fun (V : World) (hV : Below y15.heap.size y15 V) => Te.out V (hb.trans (hV.mono hb.size)))
  have qTf := Lib.hid (fun (V : World) (hV : Below y15.heap.size y15 V) => Tf.out V (hb.trans (hV.mono hb.size)))
  have qTo := Lib.hid (fun (V : World) (hV : Below y15.heap.size y15 V) => To.out V (hb.trans (hV.mono hb.size)))
  have qJ := Lib.hid (J.out.trans (hb.mono J.out.size))
  clear K15 hb Tl NB Th Tc Ti Td Te Tf To J 
  have Tl := qTl
  clear qTl
  have NB := qNB
  clear qNB
  have Th := qTh
  clear qTh
  have Tc := qTc
  clear qTc
  have Ti := qTi
  clear qTi
  have Td := qTd
  clear qTd
  have Te := qTe
  clear qTe
  have Tf := qTf
  clear qTf
  have To := qTo
  clear qTo
  have J := qJ
  clear qJ
  clear To
  clear Th
  have K16 : Hid (Calls Try.prog 14 #[.string ⟨#[97, 32, 32, 98, 101]⟩] y15 fun e w' => ∃ v, e = .returned v ∧ TabAt (fun _ => True) w' v (ofL ⟨#[97, 32, 32, 98, 101]⟩) ∧ Below (y15).heap.size y15 w') := Lib.hid ((of_any ⟨#[97, 32, 32, 98, 101]⟩ y15 (by decide)).mono fun e w' ⟨v, he, ht, hb⟩ => ⟨v, he, ht.more fun _ _ => trivial, hb⟩)
  go_wp2_with fail
  refine (show Calls _ _ _ _ _ from K16.out).mono ?_
  rintro e y16 ⟨vTo, rfl, hTo, hb⟩
  have To := Lib.hid (fun (V : World) (hV : Below y16.heap.size y16 V) => hTo.below hV)
  have qTl := Lib.hid (fun (V : World) (hV : Below y16.heap.size y16 V) => Tl.out V (hb.trans (hV.mono hb.size)))
  have qNB := Lib.hid (fun (V : World) (hV : Below y16.heap.size y16 V) => NB.out V (hb.trans (hV.mono hb.size)))
  have qTc := Lib.hid (fun (V : World) (hV : Below y16.heap.size y16 V) => Tc.out V (hb.trans (hV.mono hb.size)))
  have qTi := Lib.hid (fun (V : World) (hV : Below y16.heap.size y16 V) => Ti.out V (hb.trans (hV.mono hb.size)))
  have qTd := Lib.hid (fun (V : World) (hV : Below y16.heap.size y16 V) => Td.out V (hb.trans (hV.mono hb.size)))
  have qTe := Lib.hid (fun (V : World) (hV : Below y16.heap.size y16 V) => Te.out V (hb.trans (hV.mono hb.size)))
  have qTf := Lib.hid (fun (V : World) (hV : Below y16.heap.size y16 V) => Tf.out V (hb.trans (hV.mono hb.size)))
  have qJ := Lib.hid (J.out.trans (hb.mono J.out.size))
  clear K16 hb Tl NB Tc Ti Td Te Tf J hTo
  have Tl := qTl
  clear qTl
  have NB := qNB
  clear qNB
  have Tc := qTc
  clear qTc
  have Ti := qTi
  clear qTi
  have Td := qTd
  clear qTd
  have Te := qTe
  clear qTe
  have Tf := qTf
  clear qTf
  have J := qJ
  clear qJ
  have K17 : Hid (Calls Try.prog 10 #[.slice ATc 5 cTc, vTo] y16 fun e w' => e = .returned (.bool true) ∧ Below (y16).heap.size y16 w') := Lib.hid (by have := same_tab (Tc.out _ (Below.refl _ _)) (To.out _ (Below.refl _ _)) (by decide +kernel) (wide_dec (by decide +kernel)); rwa [show decide ((ofL ⟨#[97, 32, 32, 98, 101]⟩) = (ofL ⟨#[97, 32, 32, 98, 101]⟩)) = true from by decide +kernel] at this)
  go_wp2_with fail
  refine (show Calls _ _ _ _ _ from K17.out).mono ?_
  rintro e y17 ⟨rfl, hb⟩
  have qTl := Lib.hid (fun (V : World) (hV : Below y17.heap.size y17 V) => Tl.out V (hb.trans (hV.mono hb.size)))
  have qNB := Lib.hid (fun (V : World) (hV : Below y17.heap.size y17 V) => NB.out V (hb.trans (hV.mono hb.size)))
  have qTc := Lib.hid (fun (V : World) (hV : Below y17.heap.size y17 V) => Tc.out V (hb.trans (hV.mono hb.size)))
  have qTi := Lib.hid (fun (V : World) (hV : Below y17.heap.size y17 V) => Ti.out V (hb.trans (hV.mono hb.size)))
  have qTd := Lib.hid (fun (V : World) (hV : Below y17.heap.size y17 V) => Td.out V (hb.trans (hV.mono hb.size)))
  have qTe := Lib.hid (fun (V : World) (hV : Below y17.heap.size y17 V) => Te.out V (hb.trans (hV.mono hb.size)))
  have qTf := Lib.hid (fun (V : World) (hV : Below y17.heap.size y17 V) => Tf.out V (hb.trans (hV.mono hb.size)))
  have qTo := Lib.hid (fun (V : World) (hV : Below y17.heap.size y17 V) => To.out V (hb.trans (hV.mono hb.size)))
  have qJ := Lib.hid (J.out.trans (hb.mono J.out.size))
  clear K17 hb Tl NB Tc Ti Td Te Tf To J 
  have Tl := qTl
  clear qTl
  have NB := qNB
  clear qNB
  have Tc := qTc
  clear qTc
  have Ti := qTi
  clear qTi
  have Td := qTd
  clear qTd
  have Te := qTe
  clear qTe
  have Tf := qTf
  clear qTf
  have To := qTo
  clear qTo
  have J := qJ
  clear qJ
  clear To
  clear Tc
  have K18 : Hid (Calls Try.prog 14 #[.string ⟨#[99, 100]⟩] y17 fun e w' => ∃ v, e = .returned v ∧ TabAt (fun _ => True) w' v (ofL ⟨#[99, 100]⟩) ∧ Below (y17).heap.size y17 w') := Lib.hid ((of_any ⟨#[99, 100]⟩ y17 (by decide)).mono fun e w' ⟨v, he, ht, hb⟩ => ⟨v, he, ht.more fun _ _ => trivial, hb⟩)
  go_wp2_with fail
  refine (show Calls _ _ _ _ _ from K18.out).mono ?_
  rintro e y18 ⟨vTo, rfl, hTo, hb⟩
  have To := Lib.hid (fun (V : World) (hV : Below y18.heap.size y18 V) => hTo.below hV)
  have qTl := Lib.hid (fun (V : World) (hV : Below y18.heap.size y18 V) => Tl.out V (hb.trans (hV.mono hb.size)))
  have qNB := Lib.hid (fun (V : World) (hV : Below y18.heap.size y18 V) => NB.out V (hb.trans (hV.mono hb.size)))
  have qTi := Lib.hid (fun (V : World) (hV : Below y18.heap.size y18 V) => Ti.out V (hb.trans (hV.mono hb.size)))
  have qTd := Lib.hid (fun (V : World) (hV : Below y18.heap.size y18 V) => Td.out V (hb.trans (hV.mono hb.size)))
  have qTe := Lib.hid (fun (V : World) (hV : Below y18.heap.size y18 V) => Te.out V (hb.trans (hV.mono hb.size)))
  have qTf := Lib.hid (fun (V : World) (hV : Below y18.heap.size y18 V) => Tf.out V (hb.trans (hV.mono hb.size)))
  have qJ := Lib.hid (J.out.trans (hb.mono J.out.size))
  clear K18 hb Tl NB Ti Td Te Tf J hTo
  have Tl := qTl
  clear qTl
  have NB := qNB
  clear qNB
  have Ti := qTi
  clear qTi
  have Td := qTd
  clear qTd
  have Te := qTe
  clear qTe
  have Tf := qTf
  clear qTf
  have J := qJ
  clear qJ
  have K19 : Hid (Calls Try.prog 10 #[.slice ATi 2 cTi, vTo] y18 fun e w' => e = .returned (.bool true) ∧ Below (y18).heap.size y18 w') := Lib.hid (by have := same_tab (Ti.out _ (Below.refl _ _)) (To.out _ (Below.refl _ _)) (by decide +kernel) (wide_dec (by decide +kernel)); rwa [show decide ((ofL ⟨#[99, 100]⟩) = (ofL ⟨#[99, 100]⟩)) = true from by decide +kernel] at this)
  go_wp2_with fail
  refine (show Calls _ _ _ _ _ from K19.out).mono ?_
  rintro e y19 ⟨rfl, hb⟩
  have qTl := Lib.hid (fun (V : World) (hV : Below y19.heap.size y19 V) => Tl.out V (hb.trans (hV.mono hb.size)))
  have qNB := Lib.hid (fun (V : World) (hV : Below y19.heap.size y19 V) => NB.out V (hb.trans (hV.mono hb.size)))
  have qTi := Lib.hid (fun (V : World) (hV : Below y19.heap.size y19 V) => Ti.out V (hb.trans (hV.mono hb.size)))
  have qTd := Lib.hid (fun (V : World) (hV : Below y19.heap.size y19 V) => Td.out V (hb.trans (hV.mono hb.size)))
  have qTe := Lib.hid (fun (V : World) (hV : Below y19.heap.size y19 V) => Te.out V (hb.trans (hV.mono hb.size)))
  have qTf := Lib.hid (fun (V : World) (hV : Below y19.heap.size y19 V) => Tf.out V (hb.trans (hV.mono hb.size)))
  have qTo := Lib.hid (fun (V : World) (hV : Below y19.heap.size y19 V) => To.out V (hb.trans (hV.mono hb.size)))
  have qJ := Lib.hid (J.out.trans (hb.mono J.out.size))
  clear K19 hb Tl NB Ti Td Te Tf To J 
  have Tl := qTl
  clear qTl
  have NB := qNB
  clear qNB
  have Ti := qTi
  clear qTi
  have Td := qTd
  clear qTd
  have Te := qTe
  clear qTe
  have Tf := qTf
  clear qTf
  have To := qTo
  clear qTo
  have J := qJ
  clear qJ
  clear To
  clear Ti
  have K20 : Hid (Calls Try.prog 10 #[.slice ATd 5 cTd, vTl] y19 fun e w' => e = .returned (.bool true) ∧ Below (y19).heap.size y19 w') := Lib.hid (by have := same_tab (Td.out _ (Below.refl _ _)) (Tl.out _ (Below.refl _ _)) (by decide +kernel) (wide_dec (by decide +kernel)); rwa [show decide ((ofL ⟨#[97, 98, 99, 100, 101]⟩) = (ofL ⟨#[97, 98, 99, 100, 101]⟩)) = true from by decide +kernel] at this)
  go_wp2_with fail
  refine (show Calls _ _ _ _ _ from K20.out).mono ?_
  rintro e y20 ⟨rfl, hb⟩
  have qTl := Lib.hid (fun (V : World) (hV : Below y20.heap.size y20 V) => Tl.out V (hb.trans (hV.mono hb.size)))
  have qNB := Lib.hid (fun (V : World) (hV : Below y20.heap.size y20 V) => NB.out V (hb.trans (hV.mono hb.size)))
  have qTd := Lib.hid (fun (V : World) (hV : Below y20.heap.size y20 V) => Td.out V (hb.trans (hV.mono hb.size)))
  have qTe := Lib.hid (fun (V : World) (hV : Below y20.heap.size y20 V) => Te.out V (hb.trans (hV.mono hb.size)))
  have qTf := Lib.hid (fun (V : World) (hV : Below y20.heap.size y20 V) => Tf.out V (hb.trans (hV.mono hb.size)))
  have qJ := Lib.hid (J.out.trans (hb.mono J.out.size))
  clear K20 hb Tl NB Td Te Tf J 
  have Tl := qTl
  clear qTl
  have NB := qNB
  clear qNB
  have Td := qTd
  clear qTd
  have Te := qTe
  clear qTe
  have Tf := qTf
  clear qTf
  have J := qJ
  clear qJ
  clear Td
  have K21 : Hid (Calls Try.prog 10 #[.slice ATe 5 cTe, vTl] y20 fun e w' => e = .returned (.bool true) ∧ Below (y20).heap.size y20 w') := Lib.hid (by have := same_tab (Te.out _ (Below.refl _ _)) (Tl.out _ (Below.refl _ _)) (by decide +kernel) (wide_dec (by decide +kernel)); rwa [show decide ((ofL ⟨#[97, 98, 99, 100, 101]⟩) = (ofL ⟨#[97, 98, 99, 100, 101]⟩)) = true from by decide +kernel] at this)
  go_wp2_with fail
  refine (show Calls _ _ _ _ _ from K21.out).mono ?_
  rintro e y21 ⟨rfl, hb⟩
  have qTl := Lib.hid (fun (V : World) (hV : Below y21.heap.size y21 V) => Tl.out V (hb.trans (hV.mono hb.size)))
  have qNB := Lib.hid (fun (V : World) (hV : Below y21.heap.size y21 V) => NB.out V (hb.trans (hV.mono hb.size)))
  have qTe := Lib.hid (fun (V : World) (hV : Below y21.heap.size y21 V) => Te.out V (hb.trans (hV.mono hb.size)))
  have qTf := Lib.hid (fun (V : World) (hV : Below y21.heap.size y21 V) => Tf.out V (hb.trans (hV.mono hb.size)))
  have qJ := Lib.hid (J.out.trans (hb.mono J.out.size))
  clear K21 hb Tl NB Te Tf J 
  have Tl := qTl
  clear qTl
  have NB := qNB
  clear qNB
  have Te := qTe
  clear qTe
  have Tf := qTf
  clear qTf
  have J := qJ
  clear qJ
  clear Te
  have K22 : Hid (Calls Try.prog 10 #[.slice ATf 5 cTf, vTl] y21 fun e w' => e = .returned (.bool true) ∧ Below (y21).heap.size y21 w') := Lib.hid (by have := same_tab (Tf.out _ (Below.refl _ _)) (Tl.out _ (Below.refl _ _)) (by decide +kernel) (wide_dec (by decide +kernel)); rwa [show decide ((ofL ⟨#[97, 98, 99, 100, 101]⟩) = (ofL ⟨#[97, 98, 99, 100, 101]⟩)) = true from by decide +kernel] at this)
  go_wp2_with fail
  refine (show Calls _ _ _ _ _ from K22.out).mono ?_
  rintro e y22 ⟨rfl, hb⟩
  have qTl := Lib.hid (fun (V : World) (hV : Below y22.heap.size y22 V) => Tl.out V (hb.trans (hV.mono hb.size)))
  have qNB := Lib.hid (fun (V : World) (hV : Below y22.heap.size y22 V) => NB.out V (hb.trans (hV.mono hb.size)))
  have qTf := Lib.hid (fun (V : World) (hV : Below y22.heap.size y22 V) => Tf.out V (hb.trans (hV.mono hb.size)))
  have qJ := Lib.hid (J.out.trans (hb.mono J.out.size))
  clear K22 hb Tl NB Tf J 
  have Tl := qTl
  clear qTl
  have NB := qNB
  clear qNB
  have Tf := qTf
  clear qTf
  have J := qJ
  clear qJ
  clear Tf
  have a0 := cell_of (show (y22).heap[nb]? = some (Obj.cells #[.int .u16 0, .int .u8 0, .int .u32 0, .int .u8 0, .int .u32 0] 28 (0, 0)) from NB.out _ (Below.refl _ _))
  have n0 := a0 0
  have n1 := a0 1
  have n2 := a0 2
  have n3 := a0 3
  have n4 := a0 4
  clear a0
  have K23 : Hid (Calls Try.prog 12 #[vTl, .int .i64 2, .int .i64 1, .int .i64 3, .int .i64 1, .int .i64 1, attrV zeroAa] y22 (OneLit y22 (ofL ⟨#[97, 98, 32, 99, 101]⟩) 5)) := Lib.hid ((ins_any (Tl.out _ (Below.refl _ _)) (by decide +kernel) (wide_dec (by decide +kernel)) 2 1 3 1 1 zeroAa (in_smallR (by decide) (by decide)) (in_smallR (by decide) (by decide)) (in_smallR (by decide) (by decide)) (in_smallR (by decide) (by decide)) (in_smallR (by decide) (by decide))).mono fun e w' h => one_lit h (by decide +kernel) (by decide +kernel))
  go_wp2_with fail
  refine (show Calls _ _ _ _ _ from K23.out).mono ?_
  rintro e y23 ⟨ATa, cTa, rfl, hTa, hb⟩
  have Ta := Lib.hid (fun (V : World) (hV : Below y23.heap.size y23 V) => hTa.below hV)
  have qTl := Lib.hid (fun (V : World) (hV : Below y23.heap.size y23 V) => Tl.out V (hb.trans (hV.mono hb.size)))
  have qNB := Lib.hid (fun (V : World) (hV : Below y23.heap.size y23 V) => NB.out V (hb.trans (hV.mono hb.size)))
  have qJ := Lib.hid (J.out.trans (hb.mono J.out.size))
  clear K23 hb Tl NB J hTa
  have Tl := qTl
  clear qTl
  have NB := qNB
  clear qNB
  have J := qJ
  clear qJ
  clear n0 n1 n2 n3 n4
  have K24 : Hid (Calls Try.prog 14 #[.string ⟨#[97, 98, 32, 99, 101]⟩] y23 fun e w' => ∃ v, e = .returned v ∧ TabAt (fun _ => True) w' v (ofL ⟨#[97, 98, 32, 99, 101]⟩) ∧ Below (y23).heap.size y23 w') := Lib.hid ((of_any ⟨#[97, 98, 32, 99, 101]⟩ y23 (by decide)).mono fun e w' ⟨v, he, ht, hb⟩ => ⟨v, he, ht.more fun _ _ => trivial, hb⟩)
  go_wp2_with fail
  refine (show Calls _ _ _ _ _ from K24.out).mono ?_
  rintro e y24 ⟨vTo, rfl, hTo, hb⟩
  have To := Lib.hid (fun (V : World) (hV : Below y24.heap.size y24 V) => hTo.below hV)
  have qTl := Lib.hid (fun (V : World) (hV : Below y24.heap.size y24 V) => Tl.out V (hb.trans (hV.mono hb.size)))
  have qNB := Lib.hid (fun (V : World) (hV : Below y24.heap.size y24 V) => NB.out V (hb.trans (hV.mono hb.size)))
  have qTa := Lib.hid (fun (V : World) (hV : Below y24.heap.size y24 V) => Ta.out V (hb.trans (hV.mono hb.size)))
  have qJ := Lib.hid (J.out.trans (hb.mono J.out.size))
  clear K24 hb Tl NB Ta J hTo
  have Tl := qTl
  clear qTl
  have NB := qNB
  clear qNB
  have Ta := qTa
  clear qTa
  have J := qJ
  clear qJ
  have K25 : Hid (Calls Try.prog 10 #[.slice ATa 5 cTa, vTo] y24 fun e w' => e = .returned (.bool true) ∧ Below (y24).heap.size y24 w') := Lib.hid (by have := same_tab (Ta.out _ (Below.refl _ _)) (To.out _ (Below.refl _ _)) (by decide +kernel) (wide_dec (by decide +kernel)); rwa [show decide ((ofL ⟨#[97, 98, 32, 99, 101]⟩) = (ofL ⟨#[97, 98, 32, 99, 101]⟩)) = true from by decide +kernel] at this)
  go_wp2_with fail
  refine (show Calls _ _ _ _ _ from K25.out).mono ?_
  rintro e y25 ⟨rfl, hb⟩
  have qTl := Lib.hid (fun (V : World) (hV : Below y25.heap.size y25 V) => Tl.out V (hb.trans (hV.mono hb.size)))
  have qNB := Lib.hid (fun (V : World) (hV : Below y25.heap.size y25 V) => NB.out V (hb.trans (hV.mono hb.size)))
  have qTa := Lib.hid (fun (V : World) (hV : Below y25.heap.size y25 V) => Ta.out V (hb.trans (hV.mono hb.size)))
  have qTo := Lib.hid (fun (V : World) (hV : Below y25.heap.size y25 V) => To.out V (hb.trans (hV.mono hb.size)))
  have qJ := Lib.hid (J.out.trans (hb.mono J.out.size))
  clear K25 hb Tl NB Ta To J 
  have Tl := qTl
  clear qTl
  have NB := qNB
  clear qNB
  have Ta := qTa
  clear qTa
  have To := qTo
  clear qTo
  have J := qJ
  clear qJ
  clear To
  clear Ta
  have a0 := cell_of (show (y25).heap[nb]? = some (Obj.cells #[.int .u16 0, .int .u8 0, .int .u32 0, .int .u8 0, .int .u32 0] 28 (0, 0)) from NB.out _ (Below.refl _ _))
  have n0 := a0 0
  have n1 := a0 1
  have n2 := a0 2
  have n3 := a0 3
  have n4 := a0 4
  clear a0
  have K26 : Hid (Calls Try.prog 13 #[vTl, .int .i64 2, .int .i64 1, .int .i64 3, .int .i64 1, .int .i64 1, attrV zeroAa] y25 (OneLit y25 (ofL ⟨#[97, 98, 100, 32, 101]⟩) 5)) := Lib.hid ((del_any (Tl.out _ (Below.refl _ _)) (by decide +kernel) (wide_dec (by decide +kernel)) 2 1 3 1 1 zeroAa (in_smallR (by decide) (by decide)) (in_smallR (by decide) (by decide)) (in_smallR (by decide) (by decide)) (in_smallR (by decide) (by decide)) (in_smallR (by decide) (by decide))).mono fun e w' h => one_lit h (by decide +kernel) (by decide +kernel))
  go_wp2_with fail
  refine (show Calls _ _ _ _ _ from K26.out).mono ?_
  rintro e y26 ⟨ATa, cTa, rfl, hTa, hb⟩
  have Ta := Lib.hid (fun (V : World) (hV : Below y26.heap.size y26 V) => hTa.below hV)
  have qTl := Lib.hid (fun (V : World) (hV : Below y26.heap.size y26 V) => Tl.out V (hb.trans (hV.mono hb.size)))
  have qNB := Lib.hid (fun (V : World) (hV : Below y26.heap.size y26 V) => NB.out V (hb.trans (hV.mono hb.size)))
  have qJ := Lib.hid (J.out.trans (hb.mono J.out.size))
  clear K26 hb Tl NB J hTa
  have Tl := qTl
  clear qTl
  have NB := qNB
  clear qNB
  have J := qJ
  clear qJ
  clear n0 n1 n2 n3 n4
  have K27 : Hid (Calls Try.prog 14 #[.string ⟨#[97, 98, 100, 32, 101]⟩] y26 fun e w' => ∃ v, e = .returned v ∧ TabAt (fun _ => True) w' v (ofL ⟨#[97, 98, 100, 32, 101]⟩) ∧ Below (y26).heap.size y26 w') := Lib.hid ((of_any ⟨#[97, 98, 100, 32, 101]⟩ y26 (by decide)).mono fun e w' ⟨v, he, ht, hb⟩ => ⟨v, he, ht.more fun _ _ => trivial, hb⟩)
  go_wp2_with fail
  refine (show Calls _ _ _ _ _ from K27.out).mono ?_
  rintro e y27 ⟨vTo, rfl, hTo, hb⟩
  have To := Lib.hid (fun (V : World) (hV : Below y27.heap.size y27 V) => hTo.below hV)
  have qTl := Lib.hid (fun (V : World) (hV : Below y27.heap.size y27 V) => Tl.out V (hb.trans (hV.mono hb.size)))
  have qNB := Lib.hid (fun (V : World) (hV : Below y27.heap.size y27 V) => NB.out V (hb.trans (hV.mono hb.size)))
  have qTa := Lib.hid (fun (V : World) (hV : Below y27.heap.size y27 V) => Ta.out V (hb.trans (hV.mono hb.size)))
  have qJ := Lib.hid (J.out.trans (hb.mono J.out.size))
  clear K27 hb Tl NB Ta J hTo
  have Tl := qTl
  clear qTl
  have NB := qNB
  clear qNB
  have Ta := qTa
  clear qTa
  have J := qJ
  clear qJ
  have K28 : Hid (Calls Try.prog 10 #[.slice ATa 5 cTa, vTo] y27 fun e w' => e = .returned (.bool true) ∧ Below (y27).heap.size y27 w') := Lib.hid (by have := same_tab (Ta.out _ (Below.refl _ _)) (To.out _ (Below.refl _ _)) (by decide +kernel) (wide_dec (by decide +kernel)); rwa [show decide ((ofL ⟨#[97, 98, 100, 32, 101]⟩) = (ofL ⟨#[97, 98, 100, 32, 101]⟩)) = true from by decide +kernel] at this)
  go_wp2_with fail
  refine (show Calls _ _ _ _ _ from K28.out).mono ?_
  rintro e y28 ⟨rfl, hb⟩
  have qTl := Lib.hid (fun (V : World) (hV : Below y28.heap.size y28 V) => Tl.out V (hb.trans (hV.mono hb.size)))
  have qNB := Lib.hid (fun (V : World) (hV : Below y28.heap.size y28 V) => NB.out V (hb.trans (hV.mono hb.size)))
  have qTa := Lib.hid (fun (V : World) (hV : Below y28.heap.size y28 V) => Ta.out V (hb.trans (hV.mono hb.size)))
  have qTo := Lib.hid (fun (V : World) (hV : Below y28.heap.size y28 V) => To.out V (hb.trans (hV.mono hb.size)))
  have qJ := Lib.hid (J.out.trans (hb.mono J.out.size))
  clear K28 hb Tl NB Ta To J 
  have Tl := qTl
  clear qTl
  have NB := qNB
  clear qNB
  have Ta := qTa
  clear qTa
  have To := qTo
  clear qTo
  have J := qJ
  clear qJ
  clear To
  clear Ta
  have a0 := cell_of (show (y28).heap[nb]? = some (Obj.cells #[.int .u16 0, .int .u8 0, .int .u32 0, .int .u8 0, .int .u32 0] 28 (0, 0)) from NB.out _ (Below.refl _ _))
  have n0 := a0 0
  have n1 := a0 1
  have n2 := a0 2
  have n3 := a0 3
  have n4 := a0 4
  clear a0
  have K29 : Hid (Calls Try.prog 12 #[vTl, .int .i64 0, .int .i64 1, .int .i64 3, .int .i64 1, .int .i64 1, attrV zeroAa] y28 (OneLit y28 (ofL ⟨#[97, 98, 99, 100, 101]⟩) 5)) := Lib.hid ((ins_any (Tl.out _ (Below.refl _ _)) (by decide +kernel) (wide_dec (by decide +kernel)) 0 1 3 1 1 zeroAa (in_smallR (by decide) (by decide)) (in_smallR (by decide) (by decide)) (in_smallR (by decide) (by decide)) (in_smallR (by decide) (by decide)) (in_smallR (by decide) (by decide))).mono fun e w' h => one_lit h (by decide +kernel) (by decide +kernel))
  go_wp2_with fail
  refine (show Calls _ _ _ _ _ from K29.out).mono ?_
  rintro e y29 ⟨ATa, cTa, rfl, hTa, hb⟩
  have Ta := Lib.hid (fun (V : World) (hV : Below y29.heap.size y29 V) => hTa.below hV)
  have qTl := Lib.hid (fun (V : World) (hV : Below y29.heap.size y29 V) => Tl.out V (hb.trans (hV.mono hb.size)))
  have qNB := Lib.hid (fun (V : World) (hV : Below y29.heap.size y29 V) => NB.out V (hb.trans (hV.mono hb.size)))
  have qJ := Lib.hid (J.out.trans (hb.mono J.out.size))
  clear K29 hb Tl NB J hTa
  have Tl := qTl
  clear qTl
  have NB := qNB
  clear qNB
  have J := qJ
  clear qJ
  clear n0 n1 n2 n3 n4
  have K30 : Hid (Calls Try.prog 10 #[.slice ATa 5 cTa, vTl] y29 fun e w' => e = .returned (.bool true) ∧ Below (y29).heap.size y29 w') := Lib.hid (by have := same_tab (Ta.out _ (Below.refl _ _)) (Tl.out _ (Below.refl _ _)) (by decide +kernel) (wide_dec (by decide +kernel)); rwa [show decide ((ofL ⟨#[97, 98, 99, 100, 101]⟩) = (ofL ⟨#[97, 98, 99, 100, 101]⟩)) = true from by decide +kernel] at this)
  go_wp2_with fail
  refine (show Calls _ _ _ _ _ from K30.out).mono ?_
  rintro e y30 ⟨rfl, hb⟩
  have qTl := Lib.hid (fun (V : World) (hV : Below y30.heap.size y30 V) => Tl.out V (hb.trans (hV.mono hb.size)))
  have qNB := Lib.hid (fun (V : World) (hV : Below y30.heap.size y30 V) => NB.out V (hb.trans (hV.mono hb.size)))
  have qTa := Lib.hid (fun (V : World) (hV : Below y30.heap.size y30 V) => Ta.out V (hb.trans (hV.mono hb.size)))
  have qJ := Lib.hid (J.out.trans (hb.mono J.out.size))
  clear K30 hb Tl NB Ta J 
  have Tl := qTl
  clear qTl
  have NB := qNB
  clear qNB
  have Ta := qTa
  clear qTa
  have J := qJ
  clear qJ
  clear Ta
  have a0 := cell_of (show (y30).heap[nb]? = some (Obj.cells #[.int .u16 0, .int .u8 0, .int .u32 0, .int .u8 0, .int .u32 0] 28 (0, 0)) from NB.out _ (Below.refl _ _))
  have n0 := a0 0
  have n1 := a0 1
  have n2 := a0 2
  have n3 := a0 3
  have n4 := a0 4
  clear a0
  have K31 : Hid (Calls Try.prog 13 #[vTl, .int .i64 4, .int .i64 1, .int .i64 3, .int .i64 1, .int .i64 1, attrV zeroAa] y30 (OneLit y30 (ofL ⟨#[97, 98, 99, 100, 101]⟩) 5)) := Lib.hid ((del_any (Tl.out _ (Below.refl _ _)) (by decide +kernel) (wide_dec (by decide +kernel)) 4 1 3 1 1 zeroAa (in_smallR (by decide) (by decide)) (in_smallR (by decide) (by decide)) (in_smallR (by decide) (by decide)) (in_smallR (by decide) (by decide)) (in_smallR (by decide) (by decide))).mono fun e w' h => one_lit h (by decide +kernel) (by decide +kernel))
  go_wp2_with fail
  refine (show Calls _ _ _ _ _ from K31.out).mono ?_
  rintro e y31 ⟨ATa, cTa, rfl, hTa, hb⟩
  have Ta := Lib.hid (fun (V : World) (hV : Below y31.heap.size y31 V) => hTa.below hV)
  have qTl := Lib.hid (fun (V : World) (hV : Below y31.heap.size y31 V) => Tl.out V (hb.trans (hV.mono hb.size)))
  have qNB := Lib.hid (fun (V : World) (hV : Below y31.heap.size y31 V) => NB.out V (hb.trans (hV.mono hb.size)))
  have qJ := Lib.hid (J.out.trans (hb.mono J.out.size))
  clear K31 hb Tl NB J hTa
  have Tl := qTl
  clear qTl
  have NB := qNB
  clear qNB
  have J := qJ
  clear qJ
  clear n0 n1 n2 n3 n4
  have K32 : Hid (Calls Try.prog 10 #[.slice ATa 5 cTa, vTl] y31 fun e w' => e = .returned (.bool true) ∧ Below (y31).heap.size y31 w') := Lib.hid (by have := same_tab (Ta.out _ (Below.refl _ _)) (Tl.out _ (Below.refl _ _)) (by decide +kernel) (wide_dec (by decide +kernel)); rwa [show decide ((ofL ⟨#[97, 98, 99, 100, 101]⟩) = (ofL ⟨#[97, 98, 99, 100, 101]⟩)) = true from by decide +kernel] at this)
  go_wp2_with fail
  refine (show Calls _ _ _ _ _ from K32.out).mono ?_
  rintro e y32 ⟨rfl, hb⟩
  have qTl := Lib.hid (fun (V : World) (hV : Below y32.heap.size y32 V) => Tl.out V (hb.trans (hV.mono hb.size)))
  have qNB := Lib.hid (fun (V : World) (hV : Below y32.heap.size y32 V) => NB.out V (hb.trans (hV.mono hb.size)))
  have qTa := Lib.hid (fun (V : World) (hV : Below y32.heap.size y32 V) => Ta.out V (hb.trans (hV.mono hb.size)))
  have qJ := Lib.hid (J.out.trans (hb.mono J.out.size))
  clear K32 hb Tl NB Ta J 
  have Tl := qTl
  clear qTl
  have NB := qNB
  clear qNB
  have Ta := qTa
  clear qTa
  have J := qJ
  clear qJ
  clear Ta
  have a0 := cell_of (show (y32).heap[nb]? = some (Obj.cells #[.int .u16 0, .int .u8 0, .int .u32 0, .int .u8 0, .int .u32 0] 28 (0, 0)) from NB.out _ (Below.refl _ _))
  have n0 := a0 0
  have n1 := a0 1
  have n2 := a0 2
  have n3 := a0 3
  have n4 := a0 4
  clear a0
  have K33 : Hid (Calls Try.prog 12 #[vTl, .int .i64 2, .int .i64 (-1), .int .i64 3, .int .i64 1, .int .i64 1, attrV zeroAa] y32 (OneLit y32 (ofL ⟨#[97, 98, 99, 100, 101]⟩) 5)) := Lib.hid ((ins_any (Tl.out _ (Below.refl _ _)) (by decide +kernel) (wide_dec (by decide +kernel)) 2 (-1) 3 1 1 zeroAa (in_smallR (by decide) (by decide)) (in_smallR (by decide) (by decide)) (in_smallR (by decide) (by decide)) (in_smallR (by decide) (by decide)) (in_smallR (by decide) (by decide))).mono fun e w' h => one_lit h (by decide +kernel) (by decide +kernel))
  go_wp2_with fail
  refine (show Calls _ _ _ _ _ from K33.out).mono ?_
  rintro e y33 ⟨ATa, cTa, rfl, hTa, hb⟩
  have Ta := Lib.hid (fun (V : World) (hV : Below y33.heap.size y33 V) => hTa.below hV)
  have qTl := Lib.hid (fun (V : World) (hV : Below y33.heap.size y33 V) => Tl.out V (hb.trans (hV.mono hb.size)))
  have qNB := Lib.hid (fun (V : World) (hV : Below y33.heap.size y33 V) => NB.out V (hb.trans (hV.mono hb.size)))
  have qJ := Lib.hid (J.out.trans (hb.mono J.out.size))
  clear K33 hb Tl NB J hTa
  have Tl := qTl
  clear qTl
  have NB := qNB
  clear qNB
  have J := qJ
  clear qJ
  clear n0 n1 n2 n3 n4
  have K34 : Hid (Calls Try.prog 10 #[.slice ATa 5 cTa, vTl] y33 fun e w' => e = .returned (.bool true) ∧ Below (y33).heap.size y33 w') := Lib.hid (by have := same_tab (Ta.out _ (Below.refl _ _)) (Tl.out _ (Below.refl _ _)) (by decide +kernel) (wide_dec (by decide +kernel)); rwa [show decide ((ofL ⟨#[97, 98, 99, 100, 101]⟩) = (ofL ⟨#[97, 98, 99, 100, 101]⟩)) = true from by decide +kernel] at this)
  go_wp2_with fail
  refine (show Calls _ _ _ _ _ from K34.out).mono ?_
  rintro e y34 ⟨rfl, hb⟩
  have qTl := Lib.hid (fun (V : World) (hV : Below y34.heap.size y34 V) => Tl.out V (hb.trans (hV.mono hb.size)))
  have qNB := Lib.hid (fun (V : World) (hV : Below y34.heap.size y34 V) => NB.out V (hb.trans (hV.mono hb.size)))
  have qTa := Lib.hid (fun (V : World) (hV : Below y34.heap.size y34 V) => Ta.out V (hb.trans (hV.mono hb.size)))
  have qJ := Lib.hid (J.out.trans (hb.mono J.out.size))
  clear K34 hb Tl NB Ta J 
  have Tl := qTl
  clear qTl
  have NB := qNB
  clear qNB
  have Ta := qTa
  clear qTa
  have J := qJ
  clear qJ
  clear Ta
  have a0 := cell_of (show (y34).heap[nb]? = some (Obj.cells #[.int .u16 0, .int .u8 0, .int .u32 0, .int .u8 0, .int .u32 0] 28 (0, 0)) from NB.out _ (Below.refl _ _))
  have n0 := a0 0
  have n1 := a0 1
  have n2 := a0 2
  have n3 := a0 3
  have n4 := a0 4
  clear a0
  have K35 : Hid (Calls Try.prog 12 #[vTl, .int .i64 2, .int .i64 1, .int .i64 5, .int .i64 1, .int .i64 1, attrV zeroAa] y34 (OneLit y34 (ofL ⟨#[97, 98, 99, 100, 101]⟩) 5)) := Lib.hid ((ins_any (Tl.out _ (Below.refl _ _)) (by decide +kernel) (wide_dec (by decide +kernel)) 2 1 5 1 1 zeroAa (in_smallR (by decide) (by decide)) (in_smallR (by decide) (by decide)) (in_smallR (by decide) (by decide)) (in_smallR (by decide) (by decide)) (in_smallR (by decide) (by decide))).mono fun e w' h => one_lit h (by decide +kernel) (by decide +kernel))
  go_wp2_with fail
  refine (show Calls _ _ _ _ _ from K35.out).mono ?_
  rintro e y35 ⟨ATa, cTa, rfl, hTa, hb⟩
  have Ta := Lib.hid (fun (V : World) (hV : Below y35.heap.size y35 V) => hTa.below hV)
  have qTl := Lib.hid (fun (V : World) (hV : Below y35.heap.size y35 V) => Tl.out V (hb.trans (hV.mono hb.size)))
  have qNB := Lib.hid (fun (V : World) (hV : Below y35.heap.size y35 V) => NB.out V (hb.trans (hV.mono hb.size)))
  have qJ := Lib.hid (J.out.trans (hb.mono J.out.size))
  clear K35 hb Tl NB J hTa
  have Tl := qTl
  clear qTl
  have NB := qNB
  clear qNB
  have J := qJ
  clear qJ
  clear n0 n1 n2 n3 n4
  have K36 : Hid (Calls Try.prog 10 #[.slice ATa 5 cTa, vTl] y35 fun e w' => e = .returned (.bool true) ∧ Below (y35).heap.size y35 w') := Lib.hid (by have := same_tab (Ta.out _ (Below.refl _ _)) (Tl.out _ (Below.refl _ _)) (by decide +kernel) (wide_dec (by decide +kernel)); rwa [show decide ((ofL ⟨#[97, 98, 99, 100, 101]⟩) = (ofL ⟨#[97, 98, 99, 100, 101]⟩)) = true from by decide +kernel] at this)
  go_wp2_with fail
  refine (show Calls _ _ _ _ _ from K36.out).mono ?_
  rintro e y36 ⟨rfl, hb⟩
  have qTl := Lib.hid (fun (V : World) (hV : Below y36.heap.size y36 V) => Tl.out V (hb.trans (hV.mono hb.size)))
  have qNB := Lib.hid (fun (V : World) (hV : Below y36.heap.size y36 V) => NB.out V (hb.trans (hV.mono hb.size)))
  have qTa := Lib.hid (fun (V : World) (hV : Below y36.heap.size y36 V) => Ta.out V (hb.trans (hV.mono hb.size)))
  have qJ := Lib.hid (J.out.trans (hb.mono J.out.size))
  clear K36 hb Tl NB Ta J 
  have Tl := qTl
  clear qTl
  have NB := qNB
  clear qNB
  have Ta := qTa
  clear qTa
  have J := qJ
  clear qJ
  clear Ta
  clear Tl
  have K37 : Hid (Calls Try.prog 11 #[.int .i64 2, .int .i64 3, attrV ⟨4, 0, 0, 0, 0⟩] y36 (OneLit y36 [[⟨32, 0, ⟨4, 0, 0, 0, 0⟩⟩, ⟨32, 0, ⟨4, 0, 0, 0, 0⟩⟩, ⟨32, 0, ⟨4, 0, 0, 0, 0⟩⟩], [⟨32, 0, ⟨4, 0, 0, 0, 0⟩⟩, ⟨32, 0, ⟨4, 0, 0, 0, 0⟩⟩, ⟨32, 0, ⟨4, 0, 0, 0, 0⟩⟩]] 2)) := Lib.hid ((fresh_any 2 3 ⟨4, 0, 0, 0, 0⟩ y36 (in_smallR (by decide) (by decide)) (in_smallR (by decide) (by decide))).mono fun e w' h => one_lit h (by decide +kernel) (by decide +kernel))
  go_wp2_with fail
  refine (show Calls _ _ _ _ _ from K37.out).mono ?_
  rintro e y37 ⟨ATx, cTx, rfl, hTx, hb⟩
  have Tx := Lib.hid (fun (V : World) (hV : Below y37.heap.size y37 V) => hTx.below hV)
  have qNB := Lib.hid (fun (V : World) (hV : Below y37.heap.size y37 V) => NB.out V (hb.trans (hV.mono hb.size)))
  have qJ := Lib.hid (J.out.trans (hb.mono J.out.size))
  clear K37 hb NB J hTx
  have NB := qNB
  clear qNB
  have J := qJ
  clear qJ
  obtain ⟨xb, xo, u0, rfl, _, _, x0, r0⟩ := (Tx.out _ (Below.refl _ _)).at_ (k := 0) (by decide)
  obtain ⟨xb', xo', u1, e', _, _, x1, r1⟩ := (Tx.out _ (Below.refl _ _)).at_ (k := 1) (by decide)
  cases e'
  obtain ⟨B0, d0, e0, -, -, s0⟩ := r0
  obtain ⟨B1, d1, e1, -, -, s1⟩ := r1
  obtain ⟨b0, o0, rfl, -, hb0, q0⟩ := s0 (by decide)
  obtain ⟨b1, o1, rfl, -, hb1, q1⟩ := s1 (by decide)
  replace e0 : u0 = .slice (some ⟨b0, o0, none⟩) 3 d0 := e0
  replace e1 : u1 = .slice (some ⟨b1, o1, none⟩) 3 d1 := e1
  subst e0 e1
  have z0 : y37.cell? ⟨b0, o0, none⟩ = some (.int .i32 32) := q0 0 (by decide) 0 _ rfl
  have z1 : y37.cell? ⟨b1, o1 + 14 + 2, none⟩ = some (.int .u16 4) := q1 2 (by decide) 2 _ rfl
  rw [Nat.add_zero] at x0
  have i0 : ∀ W, (Instr.indexAt 22 (.slice (some ⟨xb, xo, none⟩) 2 cTx) (.int .i64 0)).run Try.prog W = .ok (.pointer (some ⟨xb, xo, none⟩)) W := idx_tab xb xo 2 cTx 0 (by decide)
  have i1 : ∀ W, (Instr.indexAt 22 (.slice (some ⟨xb, xo, none⟩) 2 cTx) (.int .i64 1)).run Try.prog W = .ok (.pointer (some ⟨xb, xo + 1, none⟩)) W := idx_tab xb xo 2 cTx 1 (by decide)
  have j0 : ∀ W, (Instr.indexAt 38 (.slice (some ⟨b0, o0, none⟩) 3 d0) (.int .i64 0)).run Try.prog W = .ok (.pointer (some ⟨b0, o0, none⟩)) W := idx_cell b0 o0 3 d0 0 (by decide)
  have j1 : ∀ W, (Instr.indexAt 38 (.slice (some ⟨b1, o1, none⟩) 3 d1) (.int .i64 2)).run Try.prog W = .ok (.pointer (some ⟨b1, o1 + 14, none⟩)) W := idx_cell b1 o1 3 d1 2 (by decide)
  have a0 := cell_of (show (y37).heap[nb]? = some (Obj.cells #[.int .u16 0, .int .u8 0, .int .u32 0, .int .u8 0, .int .u32 0] 28 (0, 0)) from NB.out _ (Below.refl _ _))
  have n0 := a0 0
  have n1 := a0 1
  have n2 := a0 2
  have n3 := a0 3
  have n4 := a0 4
  clear a0
  clear q0 q1 s0 s1
  clear Tx
  have K38 : Hid (Calls Try.prog 11 #[.int .i64 0, .int .i64 3, attrV zeroAa] y37 (OneLit y37 ([] : Ls) 0)) := Lib.hid ((fresh_any 0 3 zeroAa y37 (in_smallR (by decide) (by decide)) (in_smallR (by decide) (by decide))).mono fun e w' h => one_lit h (by decide +kernel) (by decide +kernel))
  go_wp2_with fail
  refine (show Calls _ _ _ _ _ from K38.out).mono ?_
  rintro e y38 ⟨Af, cf, rfl, hTf, hb⟩
  have qNB := Lib.hid (fun (V : World) (hV : Below y38.heap.size y38 V) => NB.out V (hb.trans (hV.mono hb.size)))
  have qJ := Lib.hid (J.out.trans (hb.mono J.out.size))
  clear K38 hb NB J 
  have NB := qNB
  clear qNB
  have J := qJ
  clear qJ
  clear hTf
  clear n0 n1 n2 n3 n4
  clear x0 x1 z0 z1 i0 i1 j0 j1 hb0 hb1
  have a0 := cell_of (show (y38).heap[nb]? = some (Obj.cells #[.int .u16 0, .int .u8 0, .int .u32 0, .int .u8 0, .int .u32 0] 28 (0, 0)) from NB.out _ (Below.refl _ _))
  have n0 := a0 0
  have n1 := a0 1
  have n2 := a0 2
  have n3 := a0 3
  have n4 := a0 4
  clear a0
  have K39 : Hid (Calls Try.prog 11 #[.int .i64 401, .int .i64 3, attrV zeroAa] y38 (OneLit y38 ([] : Ls) 0)) := Lib.hid ((fresh_any 401 3 zeroAa y38 (in_smallR (by decide) (by decide)) (in_smallR (by decide) (by decide))).mono fun e w' h => one_lit h (by decide +kernel) (by decide +kernel))
  go_wp2_with fail
  refine (show Calls _ _ _ _ _ from K39.out).mono ?_
  rintro e y39 ⟨Af, cf, rfl, hTf, hb⟩
  have qNB := Lib.hid (fun (V : World) (hV : Below y39.heap.size y39 V) => NB.out V (hb.trans (hV.mono hb.size)))
  have qJ := Lib.hid (J.out.trans (hb.mono J.out.size))
  clear K39 hb NB J 
  have NB := qNB
  clear qNB
  have J := qJ
  clear qJ
  clear hTf
  clear n0 n1 n2 n3 n4
  have K40 : Hid (Calls Try.prog 15 #[.slice none 0 0] y39 fun e w' => ∃ A c, e = .returned (.slice A 0 c) ∧ Below (y39).heap.size y39 w') := Lib.hid ((text_any (tab_nil (fun _ => True) y39) (by decide) (wide_dec (by decide)) (runes_dec (by decide))).mono fun e w' ⟨u, he, hs, hb⟩ => by obtain ⟨A, c, rfl, _⟩ := hs; exact ⟨A, c, he, hb⟩)
  go_wp2_with fail
  refine (show Calls _ _ _ _ _ from K40.out).mono ?_
  rintro e y40 ⟨At, ct, rfl, hb⟩
  have qNB := Lib.hid (fun (V : World) (hV : Below y40.heap.size y40 V) => NB.out V (hb.trans (hV.mono hb.size)))
  have qJ := Lib.hid (J.out.trans (hb.mono J.out.size))
  clear K40 hb NB J 
  have NB := qNB
  clear qNB
  have J := qJ
  clear qJ
  have K41 : Hid (Calls Try.prog 7 #[] y40 fun e w' => e = .returned (.bool true) ∧ Below (y40).heap.size y40 w') := Lib.hid (wakes_any y40)
  go_wp2_with fail
  refine (show Calls _ _ _ _ _ from K41.out).mono ?_
  rintro e y41 ⟨rfl, hb⟩
  have qNB := Lib.hid (fun (V : World) (hV : Below y41.heap.size y41 V) => NB.out V (hb.trans (hV.mono hb.size)))
  have qJ := Lib.hid (J.out.trans (hb.mono J.out.size))
  clear K41 hb NB J 
  have NB := qNB
  clear qNB
  have J := qJ
  clear qJ
  go_wp2
  go_ret
  exact ⟨rfl, J.out⟩
end Go.Proofs.Ytomfeehebkknoaa.Rw
