/- Layer 7: ParamsKnown's walk (written by gen_pao.py). -/
import Derived.Test.YtjeonnlcajlghaaPaN
namespace Go.Proofs.Ytjeonnlcajlghaa
open Go.RowKit Par

def knA : List (List Nat) := [[1], [1], [1], [1], [1], [1], [1], [1], [1], [1], [1], [1], [1], [1], [1], [1]]
def knB : List (List Nat) := [[1, 1, 1, 1, 1, 1, 1, 1], [3]]
theorem kn_a : listP (runP none (Lib.repeatL [49, 59] 20 ++ [50])) = knA := by decide +kernel
theorem kn_b : listP (runP none (Lib.repeatL [49, 58] 20 ++ [50, 59, 51])) = knB := by decide +kernel

theorem rep_known (s : ByteArray) (l : List UInt8) (hl : s.data.toList = l) (h2 : l.length = 2) (w : World) :
    Calls Try.prog 9 #[.string s, .int .i64 20] w fun e w' => ∃ X : ByteArray, e = .returned (.string X) ∧ X.data.toList = Lib.repeatL l 20 ∧ X.size = 40 ∧ Below w.heap.size w w' := by
  have hs : s.size = 2 := by rw [← h2, ← hl]; rfl
  refine (Try.strings_Repeat s 20 w (by omega) (by omega)).mono ?_
  rintro e w' ⟨rfl, hb⟩
  rw [hl]
  refine ⟨_, rfl, by simp, ?_, hb⟩
  show (Lib.repeatL l 20).toArray.size = 40
  rw [List.size_toArray, Lib.repeatL_length, h2]

/-- Two tables that are kept. -/
structure KT (w0 w : World) (ga gb : Nat) : Prop where
  a : Tab w w.heap.size (some ⟨ga, 0, none⟩) knA
  b : Tab w w.heap.size (some ⟨gb, 0, none⟩) knB
  old : Below w0.heap.size w0 w
theorem KT.below {w0 w w' : World} {ga gb : Nat} (h : KT w0 w ga gb) (hb : Below w.heap.size w w') : KT w0 w' ga gb :=
  ⟨(h.a.below hb).more hb.size, (h.b.below hb).more hb.size, h.old.trans (hb.mono h.old.size)⟩
theorem KT.drewN {w0 w : World} {ga gb : Nat} (h : KT w0 w ga gb) (j : Nat) : KT w0 (w.drewN j) ga gb := h.below (below_drew (Below.refl _ _) j)

theorem kn1 : listP (runP none []) = [] := rfl
theorem kn2 : listP (runP none [51, 56, 59, 53, 59, 50, 48, 48]) = [[38], [5], [200]] := by decide +kernel
theorem kn3 : listP (runP none [59, 59]) = [[0], [0], [0]] := by decide +kernel
theorem kn4 : listP (runP none [57, 57, 57, 57, 57]) = [[9999]] := by decide +kernel

/-- A cell of a table. -/
theorem Tab.row {w : World} {B g : Nat} {l : List (List Nat)} (h : Tab w B (some ⟨g, 0, none⟩) l) (r n : Nat) (hr : r < l.length) (hn : (l.getD r []).length = n) : ∃ A' C, w.cell? ⟨g, r, none⟩ = some (.slice A' n C) ∧ ∀ c, c < n → ∃ a', A' = some a' ∧ w.cell? (a'.add c) = some (.int .i64 ((l.getD r []).getD c 0 : Nat)) := by
  subst hn
  obtain ⟨a, A1, C1, e, _, ca, _, hx⟩ := Grid.at_ h hr
  obtain rfl := Option.some.inj e
  rw [add_zero] at ca
  exact ⟨A1, C1, ca, fun c hc => by obtain ⟨a', e1, _, e2⟩ := hx c hc; exact ⟨a', e1, e2⟩⟩

set_option maxRecDepth 100000 in
set_option maxHeartbeats 3200000 in
theorem lawKnown_any (w : World) : Calls Try.prog 3 #[] w fun e w' => e = .returned (.bool true) ∧ Below w.heap.size w w' := by
  go_enter Try.func3, Try.ntmps3
  go_wp2_with fail
  refine (rep_known _ [49, 59] rfl rfl w).mono ?_
  rintro e w1 ⟨X, rfl, hX, hXs, hb⟩
  have B1 := Lib.hid hb
  have nx : ¬ 9223372036854775807 < X.size + 1 := by omega
  have HX : Hid (Lib.repeatL [49, 59] 20 ++ [50] = (X ++ ⟨#[50]⟩).data.toList) := Lib.hid (by rw [← hX]; simp [ByteArray.data_append])
  have HZ : Hid (X.size + 1 ≤ 1000000) := Lib.hid (by omega)
  clear hb hX hXs
  go_wp2_with fail
  refine (mine_list B1.out B1.out.size _ _ HX.out ?z).mono ?_
  case z => rw [ByteArray.size_append]; exact HZ.out
  rintro e w2 ⟨rfl, hp, _⟩
  have M2 := Lib.hid hp
  clear hp B1
  go_wp2_with fail
  refine (mine_all M2.out knA 16 kn_a rfl).mono ?_
  rintro e w3 ⟨rfl, ht, hp, _⟩
  have TA3 := Lib.hid ht
  have O3 := Lib.hid hp.old
  obtain ⟨ga, hga⟩ : ∃ ga, ga = w2.heap.size := ⟨_, rfl⟩
  rw [← hga] at TA3 ⊢
  clear hga ht hp M2 nx HX HZ
  go_wp2_with fail
  refine (rep_known _ [49, 58] rfl rfl w3).mono ?_
  rintro e w4 ⟨Y, rfl, hX, hXs, hb⟩
  have B4 := Lib.hid (O3.out.trans (hb.mono O3.out.size))
  have TA4 := Lib.hid ((TA3.out.below hb).more hb.size)
  have nx : ¬ 9223372036854775807 < Y.size + 3 := by omega
  have HX : Hid (Lib.repeatL [49, 58] 20 ++ [50, 59, 51] = (Y ++ ⟨#[50, 59, 51]⟩).data.toList) := Lib.hid (by rw [← hX]; simp [ByteArray.data_append])
  have HZ : Hid (Y.size + 3 ≤ 1000000) := Lib.hid (by omega)
  clear hb hX hXs TA3 O3
  go_wp2_with fail
  refine (mine_list B4.out B4.out.size _ _ HX.out ?z2).mono ?_
  case z2 => rw [ByteArray.size_append]; exact HZ.out
  rintro e w5 ⟨rfl, hp, hb⟩
  have M5 := Lib.hid hp
  have TA5 := Lib.hid ((TA4.out.below hb).more hb.size)
  clear hp hb B4 TA4
  go_wp2_with fail
  refine (mine_all M5.out knB 2 kn_b rfl).mono ?_
  rintro e w6 ⟨rfl, ht, hp, hb⟩
  have K6 : Hid (KT w w6 ga w5.heap.size) := Lib.hid ⟨(TA5.out.below hb).more hb.size, ht, hp.old⟩
  obtain ⟨gb, hgb⟩ : ∃ gb, gb = w5.heap.size := ⟨_, rfl⟩
  rw [← hgb] at K6 ⊢
  clear hgb ht hp hb M5 TA5 nx HX HZ
  go_wp2_with fail
  refine (byte_nil 49 w6).mono ?_
  rintro e w' ⟨rfl, rfl⟩
  go_wp2_with fail
  refine (clear_nil w6).mono ?_
  rintro e w' ⟨rfl, rfl⟩
  go_wp2_with fail
  refine (awake_any w6).mono ?_
  rintro e w7 ⟨rfl, hb⟩
  have K7 := Lib.hid (K6.out.below hb)
  clear hb K6
  go_wp2_with fail
  refine (mine_list K7.out.old K7.out.old.size _ [] rfl (by decide)).mono ?_
  rintro e w8 ⟨rfl, hp, hb⟩
  have M8 := Lib.hid hp
  have K8 := Lib.hid (K7.out.below hb)
  clear hp hb K7
  go_wp2_with fail
  refine (mine_all M8.out [] 0 kn1 rfl).mono ?_
  rintro e w9 ⟨rfl, ht, hp, hb⟩
  have K9 := Lib.hid (K8.out.below hb)
  clear ht hp hb M8 K8
  go_wp2_with fail
  refine (mine_list K9.out.old K9.out.old.size _ [51, 56, 59, 53, 59, 50, 48, 48] rfl (by decide)).mono ?_
  rintro e w10 ⟨rfl, hp, hb⟩
  have M10 := Lib.hid hp
  have K10 := Lib.hid (K9.out.below hb)
  clear hp hb K9
  go_wp2_with fail
  refine (mine_all M10.out [[38], [5], [200]] 3 kn2 rfl).mono ?_
  rintro e w11 ⟨rfl, ht, hp, hb⟩
  have Bb := litT_below w11 [[38], [5], [200]]
  have K11 := Lib.hid ((K10.out.below hb).below Bb)
  have T11 := Lib.hid (ht.below Bb)
  have L11 := Lib.hid (litT_tab w11 [[38], [5], [200]] (by decide))
  clear ht hp hb Bb M10 K10
  go_wp2_with fail
  refine (same_is (w := litT w11 [[38], [5], [200]]) (n := 3) (m := 3) _ _ T11.out L11.out rfl rfl (by decide) (by decide)).mono ?_
  rintro e w12 ⟨rfl, j, rfl⟩
  have K12 := Lib.hid (K11.out.drewN j)
  clear K11 T11 L11
  generalize (litT w11 [[38], [5], [200]]).drewN j = w12 at *
  go_wp2_with fail
  refine (mine_list K12.out.old K12.out.old.size _ [59, 59] rfl (by decide)).mono ?_
  rintro e w13 ⟨rfl, hp, hb⟩
  have M13 := Lib.hid hp
  have K13 := Lib.hid (K12.out.below hb)
  clear hp hb K12
  go_wp2_with fail
  refine (mine_all M13.out [[0], [0], [0]] 3 kn3 rfl).mono ?_
  rintro e w14 ⟨rfl, ht, hp, hb⟩
  have Bb := litT_below w14 [[0], [0], [0]]
  have K14 := Lib.hid ((K13.out.below hb).below Bb)
  have T14 := Lib.hid (ht.below Bb)
  have L14 := Lib.hid (litT_tab w14 [[0], [0], [0]] (by decide))
  clear ht hp hb Bb M13 K13
  go_wp2_with fail
  refine (same_is (w := litT w14 [[0], [0], [0]]) (n := 3) (m := 3) _ _ T14.out L14.out rfl rfl (by decide) (by decide)).mono ?_
  rintro e w15 ⟨rfl, j, rfl⟩
  have K15 := Lib.hid (K14.out.drewN j)
  clear K14 T14 L14
  generalize (litT w14 [[0], [0], [0]]).drewN j = w15 at *
  go_wp2_with fail
  refine (mine_list K15.out.old K15.out.old.size _ [57, 57, 57, 57, 57] rfl (by decide)).mono ?_
  rintro e w16 ⟨rfl, hp, hb⟩
  have M16 := Lib.hid hp
  have K16 := Lib.hid (K15.out.below hb)
  clear hp hb K15
  go_wp2_with fail
  refine (mine_all M16.out [[9999]] 1 kn4 rfl).mono ?_
  rintro e w17 ⟨rfl, ht, hp, hb⟩
  have Bb := litT_below w17 [[9999]]
  have K17 := Lib.hid ((K16.out.below hb).below Bb)
  have T17 := Lib.hid (ht.below Bb)
  have L17 := Lib.hid (litT_tab w17 [[9999]] (by decide))
  clear ht hp hb Bb M16 K16
  go_wp2_with fail
  refine (same_is (w := litT w17 [[9999]]) (n := 1) (m := 1) _ _ T17.out L17.out rfl rfl (by decide) (by decide)).mono ?_
  rintro e w18 ⟨rfl, j, rfl⟩
  have K18 := Lib.hid (K17.out.drewN j)
  clear K17 T17 L17
  generalize (litT w17 [[9999]]).drewN j = w18 at *
  obtain ⟨A1, C1, ca, hx⟩ := Tab.row K18.out.a 15 1 (by decide) rfl
  obtain ⟨a1, rfl, cx⟩ := hx 0 (by decide)
  have hz1 : a1.add 0 = a1 := by unfold Addr.add; rfl
  rw [hz1] at cx
  have cx : w18.cell? a1 = some (.int .i64 1) := cx
  obtain ⟨A2, C2, cb, _⟩ := Tab.row K18.out.b 0 8 (by decide) rfl
  obtain ⟨A3, C3, cc, hy⟩ := Tab.row K18.out.b 1 1 (by decide) rfl
  obtain ⟨a3, rfl, cy⟩ := hy 0 (by decide)
  have hz3 : a3.add 0 = a3 := by unfold Addr.add; rfl
  rw [hz3] at cy
  have cy : w18.cell? a3 = some (.int .i64 3) := cy
  clear hx hy hz1 hz3
  go_wp2_with fail
  refine (all_nil w18).mono ?_
  rintro e w' ⟨rfl, rfl⟩
  have Bb := litT_below w18 [[0], [7]]
  have K19 := Lib.hid (K18.out.below Bb)
  have L19 := Lib.hid (litT_tab w18 [[0], [7]] (by decide))
  clear Bb K18
  go_wp2_with fail
  refine (one_is (w := litT w18 [[0], [7]]) (n := 2) (y := 1) _ _ _ L19.out rfl (by decide +kernel)).mono ?_
  rintro e w19 ⟨rfl, j, rfl⟩
  go_wp2
  go_ret
  exact ⟨rfl, below_drew K19.out.old _⟩
end Go.Proofs.Ytjeonnlcajlghaa
