/- Layer 11: the program's Write. -/
import Derived.Test.YthpnmhllgjibgaaRwPd
set_option linter.unusedVariables false
namespace Go.Proofs.Ythpnmhllgjibgaa.Rw
open Go.RowKit

set_option maxRecDepth 100000 in
set_option maxHeartbeats 2000000 in
theorem pwri_no1 (u : Value) (l : List Ce) (k : Nat) (x r : Int) (a : Aa) (w : World) (hL : Lies w u l) (hkl : k = l.length) (hk : k ≤ 100000) (hx : x < 0 ∨ (k : Int) < x + 1) (L : List Ce) :
    Calls Try.prog 14 #[u, .int .i64 x, .int .i32 r, .bool false, attrV a] w (PutPost w L false) := by
  obtain ⟨A, c, rfl, -⟩ := id hL
  rw [← hkl]
  have HB := Lib.hid (lit1_at w a r).1
  have z2 : IntKind.i64.wrap ((k : Int) - 1) = (k : Int) - 1 := IntWalk.i64_in _ (by omega)
  have g : decide (x < 0) = true ∨ decide (x < 0) = false ∧ decide (x > (k : Int) - 1) = true := by
    by_cases h1 : x < 0
    · exact Or.inl (by simpa using h1)
    · exact Or.inr ⟨by simpa using h1, by have := hx.resolve_left h1; simp; omega⟩
  clear hx hL hkl
  rcases g with g1 | ⟨g1, g2⟩
  all_goals
    go_enter Try.func14, Try.ntmps14
    go_upto_region 4 with fail
    change Code.wp _ _ _ _ (litC1 w a r)
    generalize litC1 w a r = W at HB ⊢
    go_wp2
    refine bodyPost_ret (v := .tuple #[.slice none 0 0, .bool false]) (by simp [results, Try.results14, go_sem]) rfl ?_
    exact ⟨_, rfl, own_none _ _, HB.out⟩

set_option maxRecDepth 100000 in
set_option maxHeartbeats 2000000 in
theorem pwri_yes1 (u : Value) (l : List Ce) (k X Y : Nat) (r : Int) (a : Aa) (w : World) (hL : Lies w u l) (hkl : k = l.length) (hk : k ≤ 100000) (hXm : X + 1 ≤ k) (hY : Y = X + 1) :
    Calls Try.prog 14 #[u, .int .i64 (X : Int), .int .i32 r, .bool false, attrV a] w (PutPost w (wriN l X (penV r false a)) true) := by
  obtain ⟨hB, hC⟩ := lit1_at w a r
  have hLW := hL.below hB
  obtain ⟨A, c, rfl, -⟩ := id hL
  rw [← hkl] at hLW ⊢
  have HK := Lib.hid hkl
  have HB := Lib.hid hB
  have HY := Lib.hid hY
  have z1 : IntKind.i64.wrap ((X : Int) + 1) = (Y : Int) := by rw [IntWalk.i64_in _ (by omega)]; omega
  have z2 : IntKind.i64.wrap ((k : Int) - 1) = (k : Int) - 1 := IntWalk.i64_in _ (by omega)
  have g1 : decide ((X : Int) < 0) = false := by simp
  have g2 : decide ((X : Int) > (k : Int) - 1) = false := by simp; omega
  have HL : Hid (k ≤ 100000) := Lib.hid hk
  have HXm : Hid (X + 1 ≤ k) := Lib.hid hXm
  obtain ⟨cb, hcb⟩ : ∃ cb, cb = w.heap.size + 1 := ⟨_, rfl⟩
  have hcr : w.heap.size + 1 = cb := hcb.symm
  rw [hcr] at hC
  have HPn : Hid ((penV r false a).length = 1) := Lib.hid rfl
  clear hL hkl hY hXm hcb
  go_enter Try.func14, Try.ntmps14
  go_upto_region 4 with fail
  change Code.wp _ _ _ _ (litC1 w a r)
  try rw [hcr]
  generalize litC1 w a r = W at HB hC hB hLW ⊢
  clear hcr
  obtain ⟨g, hg⟩ : ∃ g, g = W.heap.size := ⟨_, rfl⟩
  have HG : Hid (w.heap.size ≤ g) := Lib.hid (by rw [hg]; exact hB.size)
  obtain ⟨p, hp, hq, hfr⟩ := from_at g k k X (by have := HXm.out; omega) (Nat.le_refl _)
  have HP := Lib.hid hp
  have HC := Lib.hid (st_copied _ l W g k hLW HK.out HL.out hg)
  have HCc : Hid (∀ V, Below g W V → Lies V (.slice (some ⟨cb, 0, none⟩) 1 1) (penV r false a)) := Lib.hid fun V hV => hC.below (by rw [← hg]; exact hV)
  clear hp hq hg hC hB hLW hk
  go_wp2_with fail
  refine (show Calls _ _ _ _ _ from HC.out).mono ?_
  rintro e w1 ⟨rfl, s1⟩
  have K2 := Lib.hid (st_part s1 HL.out X)
  clear s1 HC
  go_wp2_with fail
  refine (show Calls _ _ _ _ _ from K2.out).mono ?_
  rintro e w2 ⟨rfl, s2⟩
  have K3 := Lib.hid (st_part s2 HL.out Y)
  clear s2 K2
  go_wp2_with fail
  refine (show Calls _ _ _ _ _ from K3.out).mono ?_
  rintro e w3 ⟨rfl, s3⟩
  have S3 : Hid (St W g k (cutP l X Y) w3) := Lib.hid s3
  have LC := Lib.hid (HCc.out w3 s3.1)
  clear s3 K3
  go_wp2_with (refine wpList_copy_rows (dp := p) (dn := k - X) (dc := k - X) (sp := some ⟨cb, 0, none⟩) (sn := 1) (sc := 1) rfl (.tmp 50) (.tmp 51) rfl S3.out.2 S3.out.len (by have := HXm.out; omega) (by simp [Act.eval]) (by simp [Act.eval]) rfl HP.out LC.out g W S3.out.1 (Nat.le_refl _) ?_)
  intro w4 o4 b4
  have S4 : Hid (St W g k (wriN l X (penV r false a)) w4) := Lib.hid ⟨b4, by
    have e : copyV (cutP l X Y) X (penV r false a) = wriN l X (penV r false a) := by
      rw [HY.out]
      exact wriW_any l X (penV r false a) (by rw [HPn.out, ← HK.out]; exact HXm.out)
    rw [← e]; exact o4.out⟩
  clear o4 b4 S3 LC
  go_wp2
  go_ret2
  exact ⟨_, rfl, own_less S4.out.2 HG.out, HB.out.trans (S4.out.1.mono HG.out)⟩

set_option maxRecDepth 100000 in
set_option maxHeartbeats 2000000 in
theorem pwri_no2 (u : Value) (l : List Ce) (k : Nat) (x r : Int) (a : Aa) (w : World) (hL : Lies w u l) (hkl : k = l.length) (hk : k ≤ 100000) (hx : x < 0 ∨ (k : Int) < x + 2) (L : List Ce) :
    Calls Try.prog 14 #[u, .int .i64 x, .int .i32 r, .bool true, attrV a] w (PutPost w L false) := by
  obtain ⟨A, c, rfl, -⟩ := id hL
  rw [← hkl]
  have HB := Lib.hid (lit2_at w a r).1
  have z2 : IntKind.i64.wrap ((k : Int) - 2) = (k : Int) - 2 := IntWalk.i64_in _ (by omega)
  have g : decide (x < 0) = true ∨ decide (x < 0) = false ∧ decide (x > (k : Int) - 2) = true := by
    by_cases h1 : x < 0
    · exact Or.inl (by simpa using h1)
    · exact Or.inr ⟨by simpa using h1, by have := hx.resolve_left h1; simp; omega⟩
  clear hx hL hkl
  rcases g with g1 | ⟨g1, g2⟩
  all_goals
    go_enter Try.func14, Try.ntmps14
    go_upto_region 4 with fail
    change Code.wp _ _ _ _ (litC2 w a r)
    generalize litC2 w a r = W at HB ⊢
    go_wp2
    refine bodyPost_ret (v := .tuple #[.slice none 0 0, .bool false]) (by simp [results, Try.results14, go_sem]) rfl ?_
    exact ⟨_, rfl, own_none _ _, HB.out⟩

set_option maxRecDepth 100000 in
set_option maxHeartbeats 2000000 in
theorem pwri_yes2 (u : Value) (l : List Ce) (k X Y : Nat) (r : Int) (a : Aa) (w : World) (hL : Lies w u l) (hkl : k = l.length) (hk : k ≤ 100000) (hXm : X + 2 ≤ k) (hY : Y = X + 2) :
    Calls Try.prog 14 #[u, .int .i64 (X : Int), .int .i32 r, .bool true, attrV a] w (PutPost w (wriN l X (penV r true a)) true) := by
  obtain ⟨hB, hC⟩ := lit2_at w a r
  have hLW := hL.below hB
  obtain ⟨A, c, rfl, -⟩ := id hL
  rw [← hkl] at hLW ⊢
  have HK := Lib.hid hkl
  have HB := Lib.hid hB
  have HY := Lib.hid hY
  have z1 : IntKind.i64.wrap ((X : Int) + 2) = (Y : Int) := by rw [IntWalk.i64_in _ (by omega)]; omega
  have z2 : IntKind.i64.wrap ((k : Int) - 2) = (k : Int) - 2 := IntWalk.i64_in _ (by omega)
  have g1 : decide ((X : Int) < 0) = false := by simp
  have g2 : decide ((X : Int) > (k : Int) - 2) = false := by simp; omega
  have HL : Hid (k ≤ 100000) := Lib.hid hk
  have HXm : Hid (X + 2 ≤ k) := Lib.hid hXm
  obtain ⟨cb, hcb⟩ : ∃ cb, cb = w.heap.size + 1 + 1 := ⟨_, rfl⟩
  have hcr : w.heap.size + 1 + 1 = cb := hcb.symm
  rw [hcr] at hC
  have HPn : Hid ((penV r true a).length = 2) := Lib.hid rfl
  clear hL hkl hY hXm hcb
  go_enter Try.func14, Try.ntmps14
  go_upto_region 4 with fail
  change Code.wp _ _ _ _ (litC2 w a r)
  try rw [hcr]
  generalize litC2 w a r = W at HB hC hB hLW ⊢
  clear hcr
  obtain ⟨g, hg⟩ : ∃ g, g = W.heap.size := ⟨_, rfl⟩
  have HG : Hid (w.heap.size ≤ g) := Lib.hid (by rw [hg]; exact hB.size)
  obtain ⟨p, hp, hq, hfr⟩ := from_at g k k X (by have := HXm.out; omega) (Nat.le_refl _)
  have HP := Lib.hid hp
  have HC := Lib.hid (st_copied _ l W g k hLW HK.out HL.out hg)
  have HCc : Hid (∀ V, Below g W V → Lies V (.slice (some ⟨cb, 0, none⟩) 2 2) (penV r true a)) := Lib.hid fun V hV => hC.below (by rw [← hg]; exact hV)
  clear hp hq hg hC hB hLW hk
  go_wp2_with fail
  refine (show Calls _ _ _ _ _ from HC.out).mono ?_
  rintro e w1 ⟨rfl, s1⟩
  have K2 := Lib.hid (st_part s1 HL.out X)
  clear s1 HC
  go_wp2_with fail
  refine (show Calls _ _ _ _ _ from K2.out).mono ?_
  rintro e w2 ⟨rfl, s2⟩
  have K3 := Lib.hid (st_part s2 HL.out Y)
  clear s2 K2
  go_wp2_with fail
  refine (show Calls _ _ _ _ _ from K3.out).mono ?_
  rintro e w3 ⟨rfl, s3⟩
  have S3 : Hid (St W g k (cutP l X Y) w3) := Lib.hid s3
  have LC := Lib.hid (HCc.out w3 s3.1)
  clear s3 K3
  go_wp2_with (refine wpList_copy_rows (dp := p) (dn := k - X) (dc := k - X) (sp := some ⟨cb, 0, none⟩) (sn := 2) (sc := 2) rfl (.tmp 50) (.tmp 51) rfl S3.out.2 S3.out.len (by have := HXm.out; omega) (by simp [Act.eval]) (by simp [Act.eval]) rfl HP.out LC.out g W S3.out.1 (Nat.le_refl _) ?_)
  intro w4 o4 b4
  have S4 : Hid (St W g k (wriN l X (penV r true a)) w4) := Lib.hid ⟨b4, by
    have e : copyV (cutP l X Y) X (penV r true a) = wriN l X (penV r true a) := by
      rw [HY.out]
      exact wriW_any l X (penV r true a) (by rw [HPn.out, ← HK.out]; exact HXm.out)
    rw [← e]; exact o4.out⟩
  clear o4 b4 S3 LC
  go_wp2
  go_ret2
  exact ⟨_, rfl, own_less S4.out.2 HG.out, HB.out.trans (S4.out.1.mono HG.out)⟩

theorem pwri_any (u : Value) (l : List Ce) (x r : Int) (wide : Bool) (a : Aa) (w : World) (h : Lies w u l) (hl : l.length ≤ 100000) : Calls Try.prog 14 #[u, .int .i64 x, .int .i32 r, .bool wide, attrV a] w (PutPost w (wriV l x r wide a) (fitsV l.length x wide)) := by
  unfold wriV
  cases hf : fitsV l.length x wide with
  | false =>
    have hx : ¬ (0 ≤ x ∧ x + (if wide then 2 else 1) ≤ l.length) := fun e => by rw [fits_iff.2 e] at hf; cases hf
    cases wide with
    | false => exact pwri_no1 u l l.length x r a w h rfl hl (by simp at hx; omega) _
    | true => exact pwri_no2 u l l.length x r a w h rfl hl (by simp at hx; omega) _
  | true =>
    have hx := fits_iff.1 hf
    obtain ⟨X, rfl⟩ : ∃ X : Nat, x = (X : Int) := ⟨x.toNat, by omega⟩
    rw [Int.toNat_natCast]
    cases wide with
    | false => exact pwri_yes1 u l l.length X (X + 1) r a w h rfl hl (by simp at hx; omega) rfl
    | true => exact pwri_yes2 u l l.length X (X + 2) r a w h rfl hl (by simp at hx; omega) rfl
end Go.Proofs.Ythpnmhllgjibgaa.Rw
