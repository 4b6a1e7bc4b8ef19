/- Layer 13: the chapter's examples (wakes). -/
import Derived.Test.YtomfeehebkknoaaScP
set_option linter.unusedVariables false
namespace Go.Proofs.Ytomfeehebkknoaa.Rw
open Go.RowKit

theorem in_smallR {n : Int} (h1 : -1000 ≤ n) (h2 : n ≤ 10000) : IntIn n := ⟨by omega, by omega⟩
theorem wide_dec {ls : Ls} (h : (ls.all fun l => decide (l.length ≤ 100000)) = true) : wideL ls := fun k => by
  by_cases hk : k < ls.length
  · rw [line_lt hk]
    have := List.all_eq_true.1 h _ (List.getElem_mem hk)
    simpa using this
  · unfold lineV
    rw [List.getD_eq_getElem?_getD, List.getElem?_eq_none (by omega)]
    simp
theorem runes_dec {ls : Ls} (h : (ls.all fun l => runesB l) = true) : ∀ k, runesB (lineV ls k) = true := fun k => by
  by_cases hk : k < ls.length
  · rw [line_lt hk]
    exact List.all_eq_true.1 h _ (List.getElem_mem hk)
  · unfold lineV
    rw [List.getD_eq_getElem?_getD, List.getElem?_eq_none (by omega)]
    rfl
/-- Two answers that are these lists. -/
def TwoLit (w : World) (L1 : Ls) (n1 : Nat) (L2 : Ls) (n2 : Nat) (e : Ending) (w' : World) : Prop := ∃ A1 c1 A2 c2, e = .returned (.tuple #[.slice A1 n1 c1, .slice A2 n2 c2]) ∧ TabAt (fun _ => True) w' (.slice A1 n1 c1) L1 ∧ TabAt (fun _ => True) w' (.slice A2 n2 c2) L2 ∧ Below w.heap.size w w'
theorem two_lit {w w' : World} {l1 l2 L1 L2 : Ls} {n1 n2 : Nat} {e : Ending} (h : TwoPost w l1 l2 e w') (e1 : l1 = L1) (e2 : l2 = L2) (h1 : L1.length = n1) (h2 : L2.length = n2) : TwoLit w L1 n1 L2 n2 e w' := by
  obtain ⟨o, g, F1, F2, he, t1, _, t2, _, _, _, hb⟩ := h
  subst e1 e2 h1 h2
  obtain ⟨A1, c1, rfl, r1⟩ := id t1
  obtain ⟨A2, c2, rfl, r2⟩ := id t2
  exact ⟨A1, c1, A2, c2, he, t1.more fun _ _ => trivial, t2.more fun _ _ => trivial, hb⟩
def OneLit (w : World) (L1 : Ls) (n1 : Nat) (e : Ending) (w' : World) : Prop := ∃ A1 c1, e = .returned (.slice A1 n1 c1) ∧ TabAt (fun _ => True) w' (.slice A1 n1 c1) L1 ∧ Below w.heap.size w w'
theorem one_lit {w w' : World} {l1 L1 : Ls} {n1 : Nat} {e : Ending} (h : OnePost w l1 e w') (e1 : l1 = L1) (h1 : L1.length = n1) : OneLit w L1 n1 e w' := by
  obtain ⟨o, F1, he, t1, _, _, hb⟩ := h
  subst e1 h1
  obtain ⟨A1, c1, rfl, r1⟩ := id t1
  exact ⟨A1, c1, he, t1.more fun _ _ => trivial, hb⟩

set_option maxRecDepth 100000 in
set_option maxHeartbeats 4000000 in
theorem wakes_any (w : World) : Calls Try.prog 7 #[] w fun e w' => e = .returned (.bool true) ∧ Below w.heap.size w w' := by
  go_enter Try.func7, Try.ntmps7
  have K1 : Hid (Calls Try.prog 14 #[.string ⟨#[97, 98, 99, 100, 101]⟩] w fun e w' => ∃ v, e = .returned v ∧ TabAt (fun _ => True) w' v (ofL ⟨#[97, 98, 99, 100, 101]⟩) ∧ Below (w).heap.size w w') := Lib.hid ((of_any ⟨#[97, 98, 99, 100, 101]⟩ w (by decide)).mono fun e w' ⟨v, he, ht, hb⟩ => ⟨v, he, ht.more fun _ _ => trivial, hb⟩)
  go_wp2_with fail
  refine (show Calls _ _ _ _ _ from K1.out).mono ?_
  rintro e y1 ⟨vTa, rfl, hTa, hb⟩
  have Ta := Lib.hid (fun (V : World) (hV : Below y1.heap.size y1 V) => hTa.below hV)
  have qJ := Lib.hid hb
  clear K1 hb   hTa
  have J := qJ
  clear qJ
  have K2 : Hid (Calls Try.prog 9 #[vTa, .int .i64 1, .int .i64 3, .int .i64 1, .int .i64 1, attrV zeroAa] y1 (TwoLit y1 (ofL ⟨#[97, 99, 100, 32, 101]⟩) 5 (ofL ⟨#[98]⟩) 1)) := Lib.hid ((up_any (Ta.out _ (Below.refl _ _)) (by decide +kernel) (wide_dec (by decide +kernel)) 1 3 1 1 zeroAa (in_smallR (by decide) (by decide)) (in_smallR (by decide) (by decide)) (in_smallR (by decide) (by decide)) (in_smallR (by decide) (by decide))).mono fun e w' h => two_lit h (by decide +kernel) (by decide +kernel) (by decide +kernel) (by decide +kernel))
  go_wp2_with fail
  refine (show Calls _ _ _ _ _ from K2.out).mono ?_
  rintro e y2 ⟨ATx, cTx, ATg, cTg, rfl, hTx, hTg, hb⟩
  have Tx := Lib.hid (fun (V : World) (hV : Below y2.heap.size y2 V) => hTx.below hV)
  have Tg := Lib.hid (fun (V : World) (hV : Below y2.heap.size y2 V) => hTg.below hV)
  have qTa := Lib.hid (fun (V : World) (hV : Below y2.heap.size y2 V) => Ta.out V (hb.trans (hV.mono hb.size)))
  have qJ := Lib.hid (J.out.trans (hb.mono J.out.size))
  clear K2 hb Ta J hTx hTg
  have Ta := qTa
  clear qTa
  have J := qJ
  clear qJ
  clear Ta
  have K3 : Hid (Calls Try.prog 14 #[.string ⟨#[97, 98, 99, 100, 101]⟩] y2 fun e w' => ∃ v, e = .returned v ∧ TabAt (fun _ => True) w' v (ofL ⟨#[97, 98, 99, 100, 101]⟩) ∧ Below (y2).heap.size y2 w') := Lib.hid ((of_any ⟨#[97, 98, 99, 100, 101]⟩ y2 (by decide)).mono fun e w' ⟨v, he, ht, hb⟩ => ⟨v, he, ht.more fun _ _ => trivial, hb⟩)
  go_wp2_with fail
  refine (show Calls _ _ _ _ _ from K3.out).mono ?_
  rintro e y3 ⟨vTb, rfl, hTb, hb⟩
  have Tb := Lib.hid (fun (V : World) (hV : Below y3.heap.size y3 V) => hTb.below hV)
  have qTx := Lib.hid (fun (V : World) (hV : Below y3.heap.size y3 V) => Tx.out V (hb.trans (hV.mono hb.size)))
  have qTg := Lib.hid (fun (V : World) (hV : Below y3.heap.size y3 V) => Tg.out V (hb.trans (hV.mono hb.size)))
  have qJ := Lib.hid (J.out.trans (hb.mono J.out.size))
  clear K3 hb Tx Tg J hTb
  have Tx := qTx
  clear qTx
  have Tg := qTg
  clear qTg
  have J := qJ
  clear qJ
  have K4 : Hid (Calls Try.prog 8 #[vTb, .int .i64 1, .int .i64 3, .int .i64 2, .int .i64 1, attrV zeroAa] y3 (TwoLit y3 (ofL ⟨#[97, 32, 32, 98, 101]⟩) 5 (ofL ⟨#[99, 100]⟩) 2)) := Lib.hid ((down_any (Tb.out _ (Below.refl _ _)) (by decide +kernel) (wide_dec (by decide +kernel)) 1 3 2 1 zeroAa (in_smallR (by decide) (by decide)) (in_smallR (by decide) (by decide)) (in_smallR (by decide) (by decide)) (in_smallR (by decide) (by decide))).mono fun e w' h => two_lit h (by decide +kernel) (by decide +kernel) (by decide +kernel) (by decide +kernel))
  go_wp2_with fail
  refine (show Calls _ _ _ _ _ from K4.out).mono ?_
  rintro e y4 ⟨ATy, cTy, ATh, cTh, rfl, hTy, hTh, hb⟩
  have Ty := Lib.hid (fun (V : World) (hV : Below y4.heap.size y4 V) => hTy.below hV)
  have Th := Lib.hid (fun (V : World) (hV : Below y4.heap.size y4 V) => hTh.below hV)
  have qTx := Lib.hid (fun (V : World) (hV : Below y4.heap.size y4 V) => Tx.out V (hb.trans (hV.mono hb.size)))
  have qTg := Lib.hid (fun (V : World) (hV : Below y4.heap.size y4 V) => Tg.out V (hb.trans (hV.mono hb.size)))
  have qTb := Lib.hid (fun (V : World) (hV : Below y4.heap.size y4 V) => Tb.out V (hb.trans (hV.mono hb.size)))
  have qJ := Lib.hid (J.out.trans (hb.mono J.out.size))
  clear K4 hb Tx Tg Tb J hTy hTh
  have Tx := qTx
  clear qTx
  have Tg := qTg
  clear qTg
  have Tb := qTb
  clear qTb
  have J := qJ
  clear qJ
  clear Tb
  have K5 : Hid (Calls Try.prog 15 #[.slice ATx 5 cTx] y4 fun e w' => ∃ b c, e = .returned (.slice (some ⟨b, 0, none⟩) 5 c) ∧ (∀ V, Below w'.heap.size w' V → V.cell? ⟨b, 1, none⟩ = some (.string ⟨#[99]⟩) ∧ V.cell? ⟨b, 3, none⟩ = some (.string ⟨#[]⟩)) ∧ Below (y4).heap.size y4 w') := Lib.hid ((text_any (Tx.out _ (Below.refl _ _)) (by decide +kernel) (wide_dec (by decide +kernel)) (runes_dec (by decide +kernel))).mono fun e w' ⟨u, he, hs, hb⟩ => by rw [show (ofL ⟨#[97, 99, 100, 32, 101]⟩).map textV = [⟨#[97]⟩, ⟨#[99]⟩, ⟨#[100]⟩, ⟨#[]⟩, ⟨#[101]⟩] from by decide +kernel] at hs; obtain ⟨A, c, rfl, h1, h2, h3⟩ := hs; obtain ⟨b, rfl, hbl, hc⟩ := h3 (by decide); exact ⟨b, c, he, fun V hV => ⟨(hV.cell hbl).trans (hc 1 (by decide)), (hV.cell hbl).trans (hc 3 (by decide))⟩, hb⟩)
  go_wp2_with fail
  refine (show Calls _ _ _ _ _ from K5.out).mono ?_
  rintro e y5 ⟨tb, tc, rfl, hts, hb⟩
  have qTx := Lib.hid (fun (V : World) (hV : Below y5.heap.size y5 V) => Tx.out V (hb.trans (hV.mono hb.size)))
  have qTg := Lib.hid (fun (V : World) (hV : Below y5.heap.size y5 V) => Tg.out V (hb.trans (hV.mono hb.size)))
  have qTy := Lib.hid (fun (V : World) (hV : Below y5.heap.size y5 V) => Ty.out V (hb.trans (hV.mono hb.size)))
  have qTh := Lib.hid (fun (V : World) (hV : Below y5.heap.size y5 V) => Th.out V (hb.trans (hV.mono hb.size)))
  have qJ := Lib.hid (J.out.trans (hb.mono J.out.size))
  clear K5 hb Tx Tg Ty Th J 
  have Tx := qTx
  clear qTx
  have Tg := qTg
  clear qTg
  have Ty := qTy
  clear qTy
  have Th := qTh
  clear qTh
  have J := qJ
  clear qJ
  have TT := Lib.hid hts
  clear hts
  have K6 : Hid (Calls Try.prog 14 #[.string ⟨#[97, 99, 100, 32, 101]⟩] y5 fun e w' => ∃ v, e = .returned v ∧ TabAt (fun _ => True) w' v (ofL ⟨#[97, 99, 100, 32, 101]⟩) ∧ Below (y5).heap.size y5 w') := Lib.hid ((of_any ⟨#[97, 99, 100, 32, 101]⟩ y5 (by decide)).mono fun e w' ⟨v, he, ht, hb⟩ => ⟨v, he, ht.more fun _ _ => trivial, hb⟩)
  go_wp2_with fail
  refine (show Calls _ _ _ _ _ from K6.out).mono ?_
  rintro e y6 ⟨vTc, rfl, hTc, hb⟩
  have Tc := Lib.hid (fun (V : World) (hV : Below y6.heap.size y6 V) => hTc.below hV)
  have qTx := Lib.hid (fun (V : World) (hV : Below y6.heap.size y6 V) => Tx.out V (hb.trans (hV.mono hb.size)))
  have qTg := Lib.hid (fun (V : World) (hV : Below y6.heap.size y6 V) => Tg.out V (hb.trans (hV.mono hb.size)))
  have qTy := Lib.hid (fun (V : World) (hV : Below y6.heap.size y6 V) => Ty.out V (hb.trans (hV.mono hb.size)))
  have qTh := Lib.hid (fun (V : World) (hV : Below y6.heap.size y6 V) => Th.out V (hb.trans (hV.mono hb.size)))
  have qTT := Lib.hid (fun (V : World) (hV : Below y6.heap.size y6 V) => TT.out V (hb.trans (hV.mono hb.size)))
  have qJ := Lib.hid (J.out.trans (hb.mono J.out.size))
  clear K6 hb Tx Tg Ty Th TT J hTc
  have Tx := qTx
  clear qTx
  have Tg := qTg
  clear qTg
  have Ty := qTy
  clear qTy
  have Th := qTh
  clear qTh
  have TT := qTT
  clear qTT
  have J := qJ
  clear qJ
  have K7 : Hid (Calls Try.prog 10 #[.slice ATx 5 cTx, vTc] y6 fun e w' => e = .returned (.bool true) ∧ Below (y6).heap.size y6 w') := Lib.hid (by have := same_tab (Tx.out _ (Below.refl _ _)) (Tc.out _ (Below.refl _ _)) (by decide +kernel) (wide_dec (by decide +kernel)); rwa [show decide ((ofL ⟨#[97, 99, 100, 32, 101]⟩) = (ofL ⟨#[97, 99, 100, 32, 101]⟩)) = true from by decide +kernel] at this)
  go_wp2_with fail
  refine (show Calls _ _ _ _ _ from K7.out).mono ?_
  rintro e y7 ⟨rfl, hb⟩
  have qTx := Lib.hid (fun (V : World) (hV : Below y7.heap.size y7 V) => Tx.out V (hb.trans (hV.mono hb.size)))
  have qTg := Lib.hid (fun (V : World) (hV : Below y7.heap.size y7 V) => Tg.out V (hb.trans (hV.mono hb.size)))
  have qTy := Lib.hid (fun (V : World) (hV : Below y7.heap.size y7 V) => Ty.out V (hb.trans (hV.mono hb.size)))
  have qTh := Lib.hid (fun (V : World) (hV : Below y7.heap.size y7 V) => Th.out V (hb.trans (hV.mono hb.size)))
  have qTT := Lib.hid (fun (V : World) (hV : Below y7.heap.size y7 V) => TT.out V (hb.trans (hV.mono hb.size)))
  have qTc := Lib.hid (fun (V : World) (hV : Below y7.heap.size y7 V) => Tc.out V (hb.trans (hV.mono hb.size)))
  have qJ := Lib.hid (J.out.trans (hb.mono J.out.size))
  clear K7 hb Tx Tg Ty Th TT Tc J 
  have Tx := qTx
  clear qTx
  have Tg := qTg
  clear qTg
  have Ty := qTy
  clear qTy
  have Th := qTh
  clear qTh
  have TT := qTT
  clear qTT
  have Tc := qTc
  clear qTc
  have J := qJ
  clear qJ
  clear Tc
  clear Tx
  have K8 : Hid (Calls Try.prog 14 #[.string ⟨#[98]⟩] y7 fun e w' => ∃ v, e = .returned v ∧ TabAt (fun _ => True) w' v (ofL ⟨#[98]⟩) ∧ Below (y7).heap.size y7 w') := Lib.hid ((of_any ⟨#[98]⟩ y7 (by decide)).mono fun e w' ⟨v, he, ht, hb⟩ => ⟨v, he, ht.more fun _ _ => trivial, hb⟩)
  go_wp2_with fail
  refine (show Calls _ _ _ _ _ from K8.out).mono ?_
  rintro e y8 ⟨vTc, rfl, hTc, hb⟩
  have Tc := Lib.hid (fun (V : World) (hV : Below y8.heap.size y8 V) => hTc.below hV)
  have qTg := Lib.hid (fun (V : World) (hV : Below y8.heap.size y8 V) => Tg.out V (hb.trans (hV.mono hb.size)))
  have qTy := Lib.hid (fun (V : World) (hV : Below y8.heap.size y8 V) => Ty.out V (hb.trans (hV.mono hb.size)))
  have qTh := Lib.hid (fun (V : World) (hV : Below y8.heap.size y8 V) => Th.out V (hb.trans (hV.mono hb.size)))
  have qTT := Lib.hid (fun (V : World) (hV : Below y8.heap.size y8 V) => TT.out V (hb.trans (hV.mono hb.size)))
  have qJ := Lib.hid (J.out.trans (hb.mono J.out.size))
  clear K8 hb Tg Ty Th TT J hTc
  have Tg := qTg
  clear qTg
  have Ty := qTy
  clear qTy
  have Th := qTh
  clear qTh
  have TT := qTT
  clear qTT
  have J := qJ
  clear qJ
  have K9 : Hid (Calls Try.prog 10 #[.slice ATg 1 cTg, vTc] y8 fun e w' => e = .returned (.bool true) ∧ Below (y8).heap.size y8 w') := Lib.hid (by have := same_tab (Tg.out _ (Below.refl _ _)) (Tc.out _ (Below.refl _ _)) (by decide +kernel) (wide_dec (by decide +kernel)); rwa [show decide ((ofL ⟨#[98]⟩) = (ofL ⟨#[98]⟩)) = true from by decide +kernel] at this)
  go_wp2_with fail
  refine (show Calls _ _ _ _ _ from K9.out).mono ?_
  rintro e y9 ⟨rfl, hb⟩
  have qTg := Lib.hid (fun (V : World) (hV : Below y9.heap.size y9 V) => Tg.out V (hb.trans (hV.mono hb.size)))
  have qTy := Lib.hid (fun (V : World) (hV : Below y9.heap.size y9 V) => Ty.out V (hb.trans (hV.mono hb.size)))
  have qTh := Lib.hid (fun (V : World) (hV : Below y9.heap.size y9 V) => Th.out V (hb.trans (hV.mono hb.size)))
  have qTT := Lib.hid (fun (V : World) (hV : Below y9.heap.size y9 V) => TT.out V (hb.trans (hV.mono hb.size)))
  have qTc := Lib.hid (fun (V : World) (hV : Below y9.heap.size y9 V) => Tc.out V (hb.trans (hV.mono hb.size)))
  have qJ := Lib.hid (J.out.trans (hb.mono J.out.size))
  clear K9 hb Tg Ty Th TT Tc J 
  have Tg := qTg
  clear qTg
  have Ty := qTy
  clear qTy
  have Th := qTh
  clear qTh
  have TT := qTT
  clear qTT
  have Tc := qTc
  clear qTc
  have J := qJ
  clear qJ
  clear Tc
  clear Tg
  have K10 : Hid (Calls Try.prog 14 #[.string ⟨#[97, 32, 32, 98, 101]⟩] y9 fun e w' => ∃ v, e = .returned v ∧ TabAt (fun _ => True) w' v (ofL ⟨#[97, 32, 32, 98, 101]⟩) ∧ Below (y9).heap.size y9 w') := Lib.hid ((of_any ⟨#[97, 32, 32, 98, 101]⟩ y9 (by decide)).mono fun e w' ⟨v, he, ht, hb⟩ => ⟨v, he, ht.more fun _ _ => trivial, hb⟩)
  go_wp2_with fail
  refine (show Calls _ _ _ _ _ from K10.out).mono ?_
  rintro e y10 ⟨vTc, rfl, hTc, hb⟩
  have Tc := Lib.hid (fun (V : World) (hV : Below y10.heap.size y10 V) => hTc.below hV)
  have qTy := Lib.hid (fun (V : World) (hV : Below y10.heap.size y10 V) => Ty.out V (hb.trans (hV.mono hb.size)))
  have qTh := Lib.hid (fun (V : World) (hV : Below y10.heap.size y10 V) => Th.out V (hb.trans (hV.mono hb.size)))
  have qTT := Lib.hid (fun (V : World) (hV : Below y10.heap.size y10 V) => TT.out V (hb.trans (hV.mono hb.size)))
  have qJ := Lib.hid (J.out.trans (hb.mono J.out.size))
  clear K10 hb Ty Th TT J hTc
  have Ty := qTy
  clear qTy
  have Th := qTh
  clear qTh
  have TT := qTT
  clear qTT
  have J := qJ
  clear qJ
  have K11 : Hid (Calls Try.prog 10 #[.slice ATy 5 cTy, vTc] y10 fun e w' => e = .returned (.bool true) ∧ Below (y10).heap.size y10 w') := Lib.hid (by have := same_tab (Ty.out _ (Below.refl _ _)) (Tc.out _ (Below.refl _ _)) (by decide +kernel) (wide_dec (by decide +kernel)); rwa [show decide ((ofL ⟨#[97, 32, 32, 98, 101]⟩) = (ofL ⟨#[97, 32, 32, 98, 101]⟩)) = true from by decide +kernel] at this)
  go_wp2_with fail
  refine (show Calls _ _ _ _ _ from K11.out).mono ?_
  rintro e y11 ⟨rfl, hb⟩
  have qTy := Lib.hid (fun (V : World) (hV : Below y11.heap.size y11 V) => Ty.out V (hb.trans (hV.mono hb.size)))
  have qTh := Lib.hid (fun (V : World) (hV : Below y11.heap.size y11 V) => Th.out V (hb.trans (hV.mono hb.size)))
  have qTT := Lib.hid (fun (V : World) (hV : Below y11.heap.size y11 V) => TT.out V (hb.trans (hV.mono hb.size)))
  have qTc := Lib.hid (fun (V : World) (hV : Below y11.heap.size y11 V) => Tc.out V (hb.trans (hV.mono hb.size)))
  have qJ := Lib.hid (J.out.trans (hb.mono J.out.size))
  clear K11 hb Ty Th TT Tc J 
  have Ty := qTy
  clear qTy
  have Th := qTh
  clear qTh
  have TT := qTT
  clear qTT
  have Tc := qTc
  clear qTc
  have J := qJ
  clear qJ
  clear Tc
  clear Ty
  have K12 : Hid (Calls Try.prog 14 #[.string ⟨#[99, 100]⟩] y11 fun e w' => ∃ v, e = .returned v ∧ TabAt (fun _ => True) w' v (ofL ⟨#[99, 100]⟩) ∧ Below (y11).heap.size y11 w') := Lib.hid ((of_any ⟨#[99, 100]⟩ y11 (by decide)).mono fun e w' ⟨v, he, ht, hb⟩ => ⟨v, he, ht.more fun _ _ => trivial, hb⟩)
  go_wp2_with fail
  refine (show Calls _ _ _ _ _ from K12.out).mono ?_
  rintro e y12 ⟨vTc, rfl, hTc, hb⟩
  have Tc := Lib.hid (fun (V : World) (hV : Below y12.heap.size y12 V) => hTc.below hV)
  have qTh := Lib.hid (fun (V : World) (hV : Below y12.heap.size y12 V) => Th.out V (hb.trans (hV.mono hb.size)))
  have qTT := Lib.hid (fun (V : World) (hV : Below y12.heap.size y12 V) => TT.out V (hb.trans (hV.mono hb.size)))
  have qJ := Lib.hid (J.out.trans (hb.mono J.out.size))
  clear K12 hb Th TT J hTc
  have Th := qTh
  clear qTh
  have TT := qTT
  clear qTT
  have J := qJ
  clear qJ
  have K13 : Hid (Calls Try.prog 10 #[.slice ATh 2 cTh, vTc] y12 fun e w' => e = .returned (.bool true) ∧ Below (y12).heap.size y12 w') := Lib.hid (by have := same_tab (Th.out _ (Below.refl _ _)) (Tc.out _ (Below.refl _ _)) (by decide +kernel) (wide_dec (by decide +kernel)); rwa [show decide ((ofL ⟨#[99, 100]⟩) = (ofL ⟨#[99, 100]⟩)) = true from by decide +kernel] at this)
  go_wp2_with fail
  refine (show Calls _ _ _ _ _ from K13.out).mono ?_
  rintro e y13 ⟨rfl, hb⟩
  have qTh := Lib.hid (fun (V : World) (hV : Below y13.heap.size y13 V) => Th.out V (hb.trans (hV.mono hb.size)))
  have qTT := Lib.hid (fun (V : World) (hV : Below y13.heap.size y13 V) => TT.out V (hb.trans (hV.mono hb.size)))
  have qTc := Lib.hid (fun (V : World) (hV : Below y13.heap.size y13 V) => Tc.out V (hb.trans (hV.mono hb.size)))
  have qJ := Lib.hid (J.out.trans (hb.mono J.out.size))
  clear K13 hb Th TT Tc J 
  have Th := qTh
  clear qTh
  have TT := qTT
  clear qTT
  have Tc := qTc
  clear qTc
  have J := qJ
  clear qJ
  clear Tc
  clear Th
  have t1 := (TT.out _ (Below.refl _ _)).1
  have t3 := (TT.out _ (Below.refl _ _)).2
  have K14 : Hid (Calls Try.prog 11 #[.int .i64 2, .int .i64 3, attrV zeroAa] y13 (OneLit y13 (freshT 2 3 zeroAa) 2)) := Lib.hid ((fresh_any 2 3 zeroAa y13 (in_smallR (by decide) (by decide)) (in_smallR (by decide) (by decide))).mono fun e w' h => one_lit h rfl (by decide +kernel))
  go_wp2_with fail
  refine (show Calls _ _ _ _ _ from K14.out).mono ?_
  rintro e y14 ⟨Af, cf, rfl, hTf, hb⟩
  have qTT := Lib.hid (fun (V : World) (hV : Below y14.heap.size y14 V) => TT.out V (hb.trans (hV.mono hb.size)))
  have qJ := Lib.hid (J.out.trans (hb.mono J.out.size))
  clear K14 hb TT J 
  have TT := qTT
  clear qTT
  have J := qJ
  clear qJ
  clear hTf t1 t3
  go_wp2
  go_ret
  exact ⟨rfl, J.out⟩
end Go.Proofs.Ytomfeehebkknoaa.Rw
