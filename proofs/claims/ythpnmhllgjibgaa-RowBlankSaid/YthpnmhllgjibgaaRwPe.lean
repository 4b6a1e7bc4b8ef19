/- Layer 11: the program's Erase, Insert, Delete. -/
import Derived.Test.YthpnmhllgjibgaaRwPd
set_option linter.unusedVariables false
namespace Go.Proofs.Ythpnmhllgjibgaa.Rw
open Go.RowKit

set_option maxRecDepth 100000 in
set_option maxHeartbeats 2000000 in
theorem pera_any (u : Value) (l : List Ce) (x n : Int) (a : Aa) (w : World) (h : Lies w u l) (hl : l.length ≤ 100000) (hn : IntIn n) : Calls Try.prog 17 #[u, .int .i64 x, .int .i64 n, attrV a] w (RowPost w (eraV l x n a)) := by
  rw [← eraW_any]
  obtain ⟨W, hW, hB, hs, hat⟩ := box_at w a
  obtain ⟨hc1, hc2⟩ := col_le l.length x n
  obtain ⟨g, hg⟩ : ∃ g, g = W.heap.size := ⟨_, rfl⟩
  obtain ⟨k, hk⟩ : ∃ k, k = l.length := ⟨_, rfl⟩
  rw [← hk] at hc1 hc2 hl ⊢
  have HC := Lib.hid (st_copied u l W g k (h.below hB) hk hl hg)
  have HCol : Hid (∀ V, Calls Try.prog 28 #[.slice (some ⟨g, 0, none⟩) k k, .int .i64 x, .int .i64 n] V fun e w' => e = .returned (.tuple #[.int .i64 ((begV k x n : Nat) : Int), .int .i64 ((endV k x n : Nat) : Int)]) ∧ V = w') := Lib.hid fun V => columns_any _ k k x n V hl hn
  obtain ⟨X, hX⟩ : ∃ X, X = begV k x n := ⟨_, rfl⟩
  obtain ⟨E, hE⟩ : ∃ E, E = endV k x n := ⟨_, rfl⟩
  rw [← hX, ← hE] at HCol hc1
  rw [← hE] at hc2
  rw [← hX, ← hE]
  obtain ⟨p, hp, hq, hwin⟩ := win_at g k k X E hc1 hc2
  have HL : Hid (k ≤ 100000) := Lib.hid hl
  have HW := Lib.hid hW
  have HB := Lib.hid hB
  have HAt : Hid (∀ V, Below g W V → V.heap[w.heap.size]? = some (attrO a)) := Lib.hid (by rw [hg]; exact hat)
  have HP := Lib.hid hp
  have H1 : Hid (X ≤ E ∧ E ≤ k) := Lib.hid ⟨hc1, hc2⟩
  have HG : Hid (w.heap.size ≤ g) := Lib.hid (by rw [hg]; exact hB.size)
  obtain ⟨B, hBq⟩ : ∃ B, B = w.heap.size := ⟨_, rfl⟩
  rw [← hBq] at HAt
  have HBq := Lib.hid hBq
  clear h hn hW hB hs hat hc1 hc2 hg hk hl hX hE hp hq hBq
  go_enter Try.func17, Try.ntmps17
  go_wp2_with fail
  rw [← HW.out]
  refine (show Calls _ _ _ _ _ from HC.out).mono ?_
  rintro e w1 ⟨rfl, s1⟩
  have S1 := Lib.hid s1
  clear s1 HC
  go_wp2_with fail
  refine (show Calls _ _ _ _ _ from HCol.out _).mono ?_
  rintro e w2 ⟨rfl, rfl⟩
  have K2 := Lib.hid (st_part S1.out HL.out X)
  go_wp2_with fail
  refine (show Calls _ _ _ _ _ from K2.out).mono ?_
  rintro e w2 ⟨rfl, s2⟩
  have S2 := Lib.hid s2
  have K3 := Lib.hid (st_part s2 HL.out E)
  clear s2 K2 S1
  go_wp2_with fail
  refine (show Calls _ _ _ _ _ from K3.out).mono ?_
  rintro e w3 ⟨rfl, s3⟩
  have S3 : Hid (St W g k (cutP l X E) w3) := Lib.hid s3
  clear s3 K3 S2
  have a0 := cell_of (HAt.out _ S3.out.drew.1) 0
  have a1 := cell_of (HAt.out _ S3.out.drew.1) 1
  have a2 := cell_of (HAt.out _ S3.out.drew.1) 2
  have a3 := cell_of (HAt.out _ S3.out.drew.1) 3
  have a4 := cell_of (HAt.out _ S3.out.drew.1) 4
  rw [HBq.out] at a0 a1 a2 a3 a4
  have K4 := Lib.hid (st_erase S3.out.drew HL.out X (E - X) (k - X) (p := p) HP.out (by have := H1.out; omega) a)
  go_upto_region 5 with fail
  go_region_law (go_simp; go_at_call 23; refine (show Calls _ _ _ _ _ from K4.out).mono ?_; rintro e w4 ⟨rfl, s4⟩)
  have S4 := Lib.hid s4
  clear s4 K4 S3 a0 a1 a2 a3 a4
  go_wp2
  go_ret
  exact ⟨_, rfl, own_less S4.out.2 HG.out, HB.out.trans (S4.out.1.mono HG.out)⟩

set_option maxRecDepth 100000 in
set_option maxHeartbeats 2000000 in
theorem pins_any (u : Value) (l : List Ce) (x n : Int) (a : Aa) (w : World) (h : Lies w u l) (hl : l.length ≤ 100000) (hn : IntIn n) : Calls Try.prog 15 #[u, .int .i64 x, .int .i64 n, attrV a] w (RowPost w (insV l x n a)) := by
  rw [← insW_any]
  obtain ⟨W, hW, hB, hs, hat⟩ := box_at w a
  obtain ⟨hc1, hc2⟩ := col_le l.length x n
  obtain ⟨g, hg⟩ : ∃ g, g = W.heap.size := ⟨_, rfl⟩
  obtain ⟨k, hk⟩ : ∃ k, k = l.length := ⟨_, rfl⟩
  rw [← hk] at hc1 hc2 hl ⊢
  have HC := Lib.hid (st_copied u l W g k (h.below hB) hk hl hg)
  have HCol : Hid (∀ V, Calls Try.prog 28 #[.slice (some ⟨g, 0, none⟩) k k, .int .i64 x, .int .i64 n] V fun e w' => e = .returned (.tuple #[.int .i64 ((begV k x n : Nat) : Int), .int .i64 ((endV k x n : Nat) : Int)]) ∧ V = w') := Lib.hid fun V => columns_any _ k k x n V hl hn
  obtain ⟨X, hX⟩ : ∃ X, X = begV k x n := ⟨_, rfl⟩
  obtain ⟨E, hE⟩ : ∃ E, E = endV k x n := ⟨_, rfl⟩
  rw [← hX, ← hE] at HCol hc1
  rw [← hE] at hc2
  rw [← hX, ← hE]
  obtain ⟨p, hp, hq, hwin⟩ := win_at g k k X E hc1 hc2
  obtain ⟨Y, hY⟩ : ∃ Y, Y = k - (E - X) := ⟨_, rfl⟩
  obtain ⟨p1, hp1, hq1, hfr⟩ := from_at g k k E hc2 (Nat.le_refl _)
  obtain ⟨p2, hp2, hq2, hwin2⟩ := win_at g k k X Y (by omega) (by omega)
  have HP1 := Lib.hid hp1
  have HP2 := Lib.hid hp2
  have HQ2 := Lib.hid hq2
  have HY := Lib.hid hY
  have z1 : IntKind.i64.wrap ((E : Int) - (X : Int)) = ((E - X : Nat) : Int) := by rw [IntWalk.i64_in _ (by omega)]; omega
  have z2 : IntKind.i64.wrap ((k : Int) - ((E - X : Nat) : Int)) = (Y : Int) := by rw [IntWalk.i64_in _ (by omega)]; omega
  have HL : Hid (k ≤ 100000) := Lib.hid hl
  have HW := Lib.hid hW
  have HB := Lib.hid hB
  have HAt : Hid (∀ V, Below g W V → V.heap[w.heap.size]? = some (attrO a)) := Lib.hid (by rw [hg]; exact hat)
  have HP := Lib.hid hp
  have H1 : Hid (X ≤ E ∧ E ≤ k) := Lib.hid ⟨hc1, hc2⟩
  have HG : Hid (w.heap.size ≤ g) := Lib.hid (by rw [hg]; exact hB.size)
  obtain ⟨B, hBq⟩ : ∃ B, B = w.heap.size := ⟨_, rfl⟩
  rw [← hBq] at HAt
  have HBq := Lib.hid hBq
  have HK := Lib.hid hk
  clear h hn hW hB hs hat hc1 hc2 hg hk hl hX hE hp hq hBq hp1 hq1 hp2 hq2 hY
  go_enter Try.func15, Try.ntmps15
  go_wp2_with fail
  rw [← HW.out]
  refine (show Calls _ _ _ _ _ from HC.out).mono ?_
  rintro e w1 ⟨rfl, s1⟩
  have S1 := Lib.hid s1
  clear s1 HC
  go_wp2_with fail
  refine (show Calls _ _ _ _ _ from HCol.out _).mono ?_
  rintro e w2 ⟨rfl, rfl⟩
  have K2 := Lib.hid (st_part S1.out HL.out X)
  go_wp2_with fail
  refine (show Calls _ _ _ _ _ from K2.out).mono ?_
  rintro e w2 ⟨rfl, s2⟩
  have S2 := Lib.hid s2
  have K3 := Lib.hid (st_part s2 HL.out Y)
  clear s2 K2 S1
  go_wp2_with fail
  refine (show Calls _ _ _ _ _ from K3.out).mono ?_
  rintro e w3 ⟨rfl, s3⟩
  have S3 : Hid (St W g k (cutP l X Y) w3) := Lib.hid s3
  clear s3 K3 S2
  have LY := Lib.hid (S3.out.drew.win (x := X) (y := Y) (by have := HY.out; have := H1.out; omega) (by have := HY.out; omega) HL.out HP2.out HQ2.out)
  go_upto_region 6 with fail
  go_region_law (refine step_copy_rows (dp := p1) (dn := k - E) (dc := k - E) (sp := p2) (sn := Y - X) (sc := k - X) rfl (.tmp 36) (.tmp 40) rfl S3.out.drew.2 S3.out.drew.len H1.out.2 (by simp [Act.eval, Act.put]) (by simp [Act.eval, Act.put]) rfl HP1.out LY.out g W S3.out.drew.1 (Nat.le_refl _) ?_; intro w4 o4 b4)
  have S4 : Hid (St W g k (copyV (cutP l X Y) E (((cutP l X Y).take Y).drop X)) w4) := Lib.hid ⟨b4, o4.out⟩
  clear o4 b4 LY S3
  have a0 := cell_of (HAt.out _ S4.out.drew.1) 0
  have a1 := cell_of (HAt.out _ S4.out.drew.1) 1
  have a2 := cell_of (HAt.out _ S4.out.drew.1) 2
  have a3 := cell_of (HAt.out _ S4.out.drew.1) 3
  have a4 := cell_of (HAt.out _ S4.out.drew.1) 4
  rw [HBq.out] at a0 a1 a2 a3 a4
  have K4 := Lib.hid (st_erase S4.out.drew HL.out X (E - X) (k - X) (p := p) HP.out (by have := H1.out; omega) a)
  go_upto_region 7 with fail
  go_region_law (go_simp; go_at_call 23; refine (show Calls _ _ _ _ _ from K4.out).mono ?_; rintro e w5 ⟨rfl, s5⟩)
  have S5 : Hid (St W g k (insW l X E a) w5) := Lib.hid (by unfold insW; rw [← HK.out, ← HY.out]; exact s5)
  clear s5 K4 S4 a0 a1 a2 a3 a4
  go_wp2
  go_ret
  exact ⟨_, rfl, own_less S5.out.2 HG.out, HB.out.trans (S5.out.1.mono HG.out)⟩

set_option maxRecDepth 100000 in
set_option maxHeartbeats 2000000 in
theorem pdel_any (u : Value) (l : List Ce) (x n : Int) (a : Aa) (w : World) (h : Lies w u l) (hl : l.length ≤ 100000) (hn : IntIn n) : Calls Try.prog 16 #[u, .int .i64 x, .int .i64 n, attrV a] w (RowPost w (delV l x n a)) := by
  rw [← delW_any]
  obtain ⟨W, hW, hB, hs, hat⟩ := box_at w a
  obtain ⟨hc1, hc2⟩ := col_le l.length x n
  obtain ⟨g, hg⟩ : ∃ g, g = W.heap.size := ⟨_, rfl⟩
  obtain ⟨k, hk⟩ : ∃ k, k = l.length := ⟨_, rfl⟩
  rw [← hk] at hc1 hc2 hl ⊢
  have HC := Lib.hid (st_copied u l W g k (h.below hB) hk hl hg)
  have HCol : Hid (∀ V, Calls Try.prog 28 #[.slice (some ⟨g, 0, none⟩) k k, .int .i64 x, .int .i64 n] V fun e w' => e = .returned (.tuple #[.int .i64 ((begV k x n : Nat) : Int), .int .i64 ((endV k x n : Nat) : Int)]) ∧ V = w') := Lib.hid fun V => columns_any _ k k x n V hl hn
  obtain ⟨X, hX⟩ : ∃ X, X = begV k x n := ⟨_, rfl⟩
  obtain ⟨E, hE⟩ : ∃ E, E = endV k x n := ⟨_, rfl⟩
  rw [← hX, ← hE] at HCol hc1
  rw [← hE] at hc2
  rw [← hX, ← hE]
  obtain ⟨p, hp, hq, hfr0⟩ := from_at g k k X (by omega) (Nat.le_refl _)
  obtain ⟨M, hM⟩ : ∃ M, M = X + (k - E) := ⟨_, rfl⟩
  obtain ⟨p1, hp1, hq1, hfr⟩ := from_at g k k E hc2 (Nat.le_refl _)
  obtain ⟨p2, hp2, hq2, hfr2⟩ := from_at g k k M (by omega) (Nat.le_refl _)
  obtain ⟨N, hN⟩ : ∃ N, N = k - E := ⟨_, rfl⟩
  have HN : Hid (Nat.min (k - E) (k - X) = N) := Lib.hid (by show min _ _ = _; omega)
  have HP1 := Lib.hid hp1
  have HP2 := Lib.hid hp2
  have HQ1 := Lib.hid hq1
  have HM := Lib.hid hM
  have z1 : IntKind.i64.wrap ((X : Int) + (N : Int)) = (M : Int) := by rw [IntWalk.i64_in _ (by omega)]; omega
  have HL : Hid (k ≤ 100000) := Lib.hid hl
  have HW := Lib.hid hW
  have HB := Lib.hid hB
  have HAt : Hid (∀ V, Below g W V → V.heap[w.heap.size]? = some (attrO a)) := Lib.hid (by rw [hg]; exact hat)
  have HP := Lib.hid hp
  have H1 : Hid (X ≤ E ∧ E ≤ k) := Lib.hid ⟨hc1, hc2⟩
  have HG : Hid (w.heap.size ≤ g) := Lib.hid (by rw [hg]; exact hB.size)
  obtain ⟨B, hBq⟩ : ∃ B, B = w.heap.size := ⟨_, rfl⟩
  rw [← hBq] at HAt
  have HBq := Lib.hid hBq
  have HK := Lib.hid hk
  clear h hn hW hB hs hat hc1 hc2 hg hk hl hX hE hp hq hBq hp1 hq1 hp2 hq2 hM hN
  go_enter Try.func16, Try.ntmps16
  go_wp2_with fail
  rw [← HW.out]
  refine (show Calls _ _ _ _ _ from HC.out).mono ?_
  rintro e w1 ⟨rfl, s1⟩
  have S1 := Lib.hid s1
  clear s1 HC
  go_wp2_with fail
  refine (show Calls _ _ _ _ _ from HCol.out _).mono ?_
  rintro e w2 ⟨rfl, rfl⟩
  have K2 := Lib.hid (st_part S1.out HL.out X)
  go_wp2_with fail
  refine (show Calls _ _ _ _ _ from K2.out).mono ?_
  rintro e w2 ⟨rfl, s2⟩
  have S2 := Lib.hid s2
  have K3 := Lib.hid (st_part s2 HL.out E)
  clear s2 K2 S1
  go_wp2_with fail
  refine (show Calls _ _ _ _ _ from K3.out).mono ?_
  rintro e w3 ⟨rfl, s3⟩
  have S3 : Hid (St W g k (cutP l X E) w3) := Lib.hid s3
  clear s3 K3 S2
  have LY := Lib.hid (S3.out.drew.rest H1.out.2 HL.out HP1.out HQ1.out)
  go_upto_region 5 with fail
  go_region_law (refine step_copy_rows (dp := p) (dn := k - X) (dc := k - X) (sp := p1) (sn := k - E) (sc := k - E) rfl (.tmp 30) (.tmp 33) rfl S3.out.drew.2 S3.out.drew.len (Nat.le_trans H1.out.1 H1.out.2) (by simp [Act.eval, Act.put]) (by simp [Act.eval, Act.put]) rfl HP.out LY.out g W S3.out.drew.1 (Nat.le_refl _) ?_; intro w4 o4 b4; rw [HN.out])
  have S4 : Hid (St W g k (copyV (cutP l X E) X ((cutP l X E).drop E)) w4) := Lib.hid ⟨b4, o4.out⟩
  clear o4 b4 LY S3
  have a0 := cell_of (HAt.out _ S4.out.drew.1) 0
  have a1 := cell_of (HAt.out _ S4.out.drew.1) 1
  have a2 := cell_of (HAt.out _ S4.out.drew.1) 2
  have a3 := cell_of (HAt.out _ S4.out.drew.1) 3
  have a4 := cell_of (HAt.out _ S4.out.drew.1) 4
  rw [HBq.out] at a0 a1 a2 a3 a4
  have K4 := Lib.hid (st_erase S4.out.drew HL.out M (k - M) (k - M) (p := p2) HP2.out (by have := H1.out; have := HM.out; omega) a)
  go_upto_region 6 with fail
  go_region_law (go_simp; go_at_call 23; refine (show Calls _ _ _ _ _ from K4.out).mono ?_; rintro e w5 ⟨rfl, s5⟩)
  have S5 : Hid (St W g k (delW l X E a) w5) := Lib.hid (by unfold delW; rw [← HK.out, ← HM.out]; exact s5)
  clear s5 K4 S4 a0 a1 a2 a3 a4
  go_wp2
  go_ret
  exact ⟨_, rfl, own_less S5.out.2 HG.out, HB.out.trans (S5.out.1.mono HG.out)⟩

end Go.Proofs.Ythpnmhllgjibgaa.Rw
