/- Layer 14: BackStill's walk. -/
import Derived.Test.YtpanhkhiomgclaaBaQa
import Derived.RangeFuncCalls
set_option linter.unusedVariables false
namespace Go.Proofs.Ytpanhkhiomgclaa.Ba
open Go.RowKit Go.Shelf
attribute [local go_sem] Oper.semAt_some

/-- A back, and the box of the variable that holds it. -/
def BoxB (w V : World) (p Bx M G : Nat) (L : List Int) : Prop := MineB w V (.pointer (some ⟨p, 0, none⟩)) M G L ∧ Boxed V Bx 24 (.pointer (some ⟨p, 0, none⟩)) ∧ ¬ BkOwn V (.pointer (some ⟨p, 0, none⟩)) Bx
namespace BoxB
variable {w V U : World} {p Bx M G G' : Nat} {L L' : List Int}
theorem below (h : BoxB w V p Bx M G L) : Below w.heap.size w V := h.1.1
theorem old (h : BoxB w V p Bx M G L) (hb : Below V.heap.size V U) : BoxB w U p Bx M G L := by
  have hk := h.1.2.1.keep (fun k hk => hb.block k (h.1.2.1.lt k hk)) hb.size
  exact ⟨h.1.old hb, (hb.block Bx h.2.1.lt).trans h.2.1, fun ho => h.2.2 (hk.2 Bx ho)⟩
theorem turn (h : BoxB w V p Bx M G L) (hm : MineB w U (.pointer (some ⟨p, 0, none⟩)) M G' L') (ht : TurnB (.pointer (some ⟨p, 0, none⟩)) V U) : BoxB w U p Bx M G' L' := by
  refine ⟨hm, (ht.block Bx h.2.1.lt h.2.2).trans h.2.1, fun ho => ?_⟩
  rcases ht.own Bx ho with h3 | h3
  · exact h.2.2 h3
  · have := h.2.1.lt; omega
end BoxB
/-- What a region reads where the back is put to: the variable's box. -/
def SBox (w V : World) (p Bx : Nat) : Prop := Below w.heap.size w V ∧ V.cell? ⟨Bx, 0, none⟩ = some (.pointer (some ⟨p, 0, none⟩))
theorem BoxB.sbox {w V : World} {p Bx M G : Nat} {L : List Int} (h : BoxB w V p Bx M G L) : SBox w V p Bx := ⟨h.below, h.2.1.cell⟩
theorem boxb_new {w V : World} {p M G : Nat} {L : List Int} (h : MineB w V (.pointer (some ⟨p, 0, none⟩)) M G L) : BoxB w (V.alloc (.cells #[.pointer (some ⟨p, 0, none⟩)] 24)) p V.heap.size M G L := by
  have hb : Below V.heap.size V (V.alloc (.cells #[.pointer (some ⟨p, 0, none⟩)] 24)) := (Below.refl _ _).alloc (Nat.le_refl _) _
  have hk := h.2.1.keep (fun k hk => hb.block k (h.2.1.lt k hk)) hb.size
  exact ⟨h.old hb, Boxed.new V _ _, fun ho => absurd (h.2.1.lt _ (hk.2 _ ho)) (Nat.lt_irrefl _)⟩
theorem boxb_put {w V : World} {p Bx M G : Nat} {L : List Int} (h : BoxB w V p Bx M G L) (x : Int) (hG : G ≤ 1000000) : Calls Try.prog 10 #[.pointer (some ⟨p, 0, none⟩), .int .i64 x] V fun e w' => e = .returned (.bool (putB M L)) ∧ BoxB w w' p Bx M (goneV M L G) (putV M L x) := (mine_put h.1 x hG).mono fun e w' ⟨he, hm, ht⟩ => ⟨he, h.turn hm ht⟩

theorem CoreQ.since {p B M G : Nat} {w w5 W : World} {l L : List Int} {v : Value} (h : CoreQ p B M w5 l v G L W) (hw : Below w.heap.size w w5) (hno : ∀ k, BkOwn w5 (ptrV p) k → w.heap.size ≤ k) (hB : w.heap.size ≤ B) : Below w.heap.size w W := by
  obtain ⟨-, -, -, -, hs⟩ := h
  exact hw.trans ⟨hs.os, hs.tape, hs.output, hs.size, fun k hk => hs.block k (Nat.lt_of_lt_of_le hk hw.size) (by omega) (fun ho => by have := hno k ho; omega)⟩

set_option maxRecDepth 100000 in
set_option maxHeartbeats 4000000 in
theorem still_no {w : World} {A1 : Option Addr} {n1 c1 : Nat} (m a b c d : Int) (h : m < 0 ∨ m > 500 ∨ n1 > 60) : Calls Try.prog 6 #[.int .i64 m, .slice A1 n1 c1, .int .u8 a, .int .u8 b, .int .u8 c, .int .u8 d] w fun e w' => e = .returned (.bool true) ∧ Below w.heap.size w w' := by
  obtain ⟨W0, hW0⟩ : ∃ W0, ((w.alloc (.cells #[.int .u8 a] 5)).alloc (.cells #[.int .u8 b] 5)).alloc (.cells #[.int .u8 c] 5) = W0 := ⟨_, rfl⟩
  have hb : Below w.heap.size w W0 := by rw [← hW0]; exact (((Below.refl _ _).alloc (Nat.le_refl _) _).alloc (by simp) _).alloc (by simp; omega) _
  have HW := Lib.hid (wakes_any W0)
  have HE := Lib.hid hW0
  have HB := Lib.hid hb
  have hh : decide (m < 0) = true ∨ decide (m < 0) = false ∧ (decide (m > 500) = true ∨ decide (m > 500) = false ∧ decide ((n1 : Int) > 60) = true) := by
    by_cases a1 : m < 0
    · exact Or.inl (by simpa using a1)
    · refine Or.inr ⟨by simpa using a1, ?_⟩
      by_cases a2 : m > 500
      · exact Or.inl (by simpa using a2)
      · exact Or.inr ⟨by simpa using a2, by simp; omega⟩
  clear h hb hW0
  rcases hh with g1 | ⟨g1, g2 | ⟨g2, g3⟩⟩
  all_goals
    refine (callsIn_wide (n := 3)).1 ?_
    refine callsIn_of_wp_marks Try.func6 rfl trivial ?_ rfl
    simp only [Try.ntmps6, List.size_toArray, List.length_cons, List.length_nil, Nat.reduceAdd, Nat.reduceSub, Array.replicate_succ, Array.replicate_zero, List.push_toArray, List.append_toArray, List.nil_append, List.cons_append]
    gi_wp2
    rw [HE.out]
    refine ⟨trivial, ?_⟩
    refine (callsIn_wide.2 HW.out).mono ?_
    rintro e w1 ⟨rfl, hb1⟩
    gi_wp2
    exact ⟨_, results_tmp rfl _ _ _, rfl, HB.out.trans (hb1.mono HB.out.size)⟩

set_option maxRecDepth 100000 in
set_option maxHeartbeats 8000000 in
theorem still_yes {w : World} {A1 : Option Addr} {n1 c1 : Nat} {L1 : List Int} (H1 : LiesI w (.slice A1 n1 c1) L1) (M : Nat) (a b c d : Nat) (hM : M ≤ 500) (h1 : n1 ≤ 60) (ha : a < 256) (hb : b < 256) (hc : c < 256) (hd : d < 256) : Calls Try.prog 6 #[.int .i64 (M : Int), .slice A1 n1 c1, .int .u8 (a : Int), .int .u8 (b : Int), .int .u8 (c : Int), .int .u8 (d : Int)] w fun e w' => e = .returned (.bool true) ∧ Below w.heap.size w w' := by
  obtain ⟨W0, hW0⟩ : ∃ W0, ((w.alloc (.cells #[.int .u8 (a : Int)] 5)).alloc (.cells #[.int .u8 (b : Int)] 5)).alloc (.cells #[.int .u8 (c : Int)] 5) = W0 := ⟨_, rfl⟩
  have hbw : Below w.heap.size w W0 := by rw [← hW0]; exact (((Below.refl _ _).alloc (Nat.le_refl _) _).alloc (by simp) _).alloc (by simp; omega) _
  have hsz : W0.heap.size = w.heap.size + 3 := by rw [← hW0]; simp
  have x8 : Boxed W0 w.heap.size 5 (.int .u8 (a : Int)) := by rw [← hW0]; exact ((Boxed.new w _ _).alloc _).alloc _
  have x9 : Boxed W0 (w.heap.size + 1) 5 (.int .u8 (b : Int)) := by
    rw [← hW0]
    have := Boxed.new (w.alloc (.cells #[.int .u8 (a : Int)] 5)) 5 (.int .u8 (b : Int))
    rw [World.size_alloc] at this
    exact this.alloc _
  have x10 : Boxed W0 (w.heap.size + 2) 5 (.int .u8 (c : Int)) := by
    rw [← hW0]
    have := Boxed.new ((w.alloc (.cells #[.int .u8 (a : Int)] 5)).alloc (.cells #[.int .u8 (b : Int)] 5)) 5 (.int .u8 (c : Int))
    rw [World.size_alloc, World.size_alloc] at this
    exact this
  have g1 : decide ((M : Int) < 0) = false := by simp
  have g2 : decide ((M : Int) > 500) = false := by simp; omega
  have g3 : decide ((n1 : Int) > 60) = false := by simp; omega
  have K0 := Lib.hid (new_any (M : Int) W0 (in_small (by omega) (by omega)))
  have HM : Hid (newB (M : Int) = true) := Lib.hid (by unfold newB; simp; omega)
  have HE := Lib.hid hW0
  have HBw := Lib.hid hbw
  have HA := Lib.hid (H1.below hbw)
  have HX := Lib.hid (And.intro x8 (And.intro x9 x10))
  have HS := Lib.hid hsz
  clear hW0 hbw hsz x8 x9 x10 H1
  refine (callsIn_wide (n := 3)).1 ?_
  refine callsIn_of_wp_marks Try.func6 rfl trivial ?_ rfl
  simp only [Try.ntmps6, List.size_toArray, List.length_cons, List.length_nil, Nat.reduceAdd, Nat.reduceSub, Array.replicate_succ, Array.replicate_zero, List.push_toArray, List.append_toArray, List.nil_append, List.cons_append]
  gi_wp2
  rw [HE.out]
  refine ⟨trivial, ?_⟩
  refine (callsIn_wide.2 K0.out).mono ?_
  intro e w1 hp
  obtain ⟨s, rfl, hm⟩ := mine_new (w := W0) HM.out (Below.refl _ _) hp
  obtain ⟨p, rfl⟩ := hm.ptr
  rw [Int.toNat_natCast] at hm
  have H := Lib.hid hm
  clear hm hp K0 HM g1 g2 g3 HE
  gi_wp2
  have HI := Lib.hid (boxb_new H.out)
  obtain ⟨Bx, hBx⟩ : ∃ Bx, Bx = w1.heap.size := ⟨_, rfl⟩
  rw [← hBx] at HI
  rw [← hBx]
  have HB0 : Hid (W0.heap.size ≤ Bx) := Lib.hid (by rw [hBx]; exact H.out.below.size)
  obtain ⟨W1, hW1⟩ : ∃ W1, w1.alloc (.cells #[.pointer (some ⟨p, 0, none⟩)] 24) = W1 := ⟨_, rfl⟩
  rw [hW1] at HI ⊢
  clear H hBx hW1
  gi_loopw [15] (fun i wr => ∃ (k : Nat), k ≤ n1 ∧ i = .int .i64 k ∧ Hid (BoxB W0 wr p Bx M (k - M) (lastsV M (L1.take k)))) (fun i _ => n1 - (RowKit.intOf i).toNat)
  case atStart => exact ⟨0, Nat.zero_le _, rfl, Lib.hid (by simpa [lastsV] using HI.out)⟩
  case round =>
    obtain ⟨k, hk, rfl, HP⟩ := hrel
    by_cases hlt : k < n1
    · have glt : decide ((k : Int) < (n1 : Int)) = true := by simp; omega
      obtain ⟨b1, o1, rfl, hb1, q1⟩ := HA.out.at_ hlt
      have q1V : ∀ V, Below W0.heap.size W0 V → V.cell? ⟨b1, o1 + k, none⟩ = some (.int .i64 (L1.getD k 0)) := fun V hV => (hV.cell (p := ⟨b1, o1 + k, none⟩) hb1).trans q1
      have i1 := idx_int b1 o1 n1 c1 k hlt
      have hst := lasts_step M L1 k 0 (by rw [← HA.out.len.1]; exact hlt)
      have HPd := HP.out.old (below_drew (Below.refl _ _) 1)
      have K1 := boxb_put HPd (L1.getD k 0) (by omega)
      have e0 : goneV M (lastsV M (L1.take k)) (k - M) = k + 1 - M := by have := hst.2.2; rwa [Nat.zero_add, Nat.zero_add] at this
      rw [hst.1, e0] at K1
      have K1 := Lib.hid K1
      have kd : BoxB W0 _ p Bx M (k - M) (lastsV M (L1.take k)) := HPd
      have bxc : ∀ V, SBox W0 V p Bx → V.cell? ⟨Bx, 0, none⟩ = some (.pointer (some ⟨p, 0, none⟩)) := fun V hV => hV.2
      have q1W : ∀ V, SBox W0 V p Bx → V.cell? ⟨b1, o1 + k, none⟩ = some (.int .i64 (L1.getD k 0)) := fun V hV => q1V V hV.1
      have kr : SBox W0 wr.drew p Bx := HPd.sbox
      generalize L1.getD k 0 = X at *
      clear q1 hb1 hst e0 kd HPd q1V
      gi_wp2
      refine wpIn_wide.2 ?_
      go_region_held3 (fun V => SBox W0 V p Bx) (assumption)
        (first | (go_at_call 10; (refine (show Calls _ _ _ _ _ from K1.out).mono ?_); rintro e y1 ⟨rfl, d1⟩; have e1 := d1.sbox))
      have HP2 := Lib.hid d1
      clear d1 e1 kr bxc q1W K1
      gi_wp2
      go_roundw
      case rel => exact ⟨k + 1, by omega, by go_num, HP2⟩
      case measure => simp [RowKit.intOf]; omega
    · have hkn : k = n1 := by omega
      subst hkn
      have glt : decide ((k : Int) < (k : Int)) = false := by simp
      have hbx := HP.out.2.1.cell
      have hP0 := HP.out
      rw [List.take_of_length_le (by rw [← HA.out.len.1]; exact Nat.le_refl _)] at hP0
      obtain ⟨Z, hZ⟩ : ∃ Z, Z = lastsV M L1 := ⟨_, rfl⟩
      obtain ⟨G, hG⟩ : ∃ G, G = k - M := ⟨_, rfl⟩
      rw [← hZ, ← hG] at hP0
      have HI := Lib.hid hP0
      have HG6 : Hid (G ≤ 60) := Lib.hid (by omega)
      have hZl : Z.length ≤ 500 := by have := hP0.1.cap; omega
      have K1 : Hid (Calls Try.prog 18 #[.pointer (some ⟨p, 0, none⟩), .int .i64 1000] wr fun e w' => ∃ A c, e = .returned (.slice A Z.length c) ∧ OwnI w' wr.heap.size (.slice A Z.length c) Z ∧ Below wr.heap.size wr w') := Lib.hid ((mine_last hP0.1 1000 (in_small (by decide) (by decide))).mono fun e w' ⟨A, c, he, ho, _, hb⟩ => by
        rw [last_all Z 1000 (by omega)] at he ho
        exact ⟨A, c, he, ho, hb⟩)
      have HZl := Lib.hid hZl
      clear hP0 HP hZ hG hZl
      gi_wp2
      refine ⟨trivial, ?_⟩
      refine (callsIn_wide.2 K1.out).mono ?_
      rintro e w2 ⟨Aw, cw, rfl, ho, hb⟩
      have HWn := Lib.hid ho
      have HI2 := Lib.hid (HI.out.old hb)
      have hbx := HI2.out.2.1.cell
      have hsw : W0.heap.size ≤ wr.heap.size := HI.out.below.size
      have HWs := Lib.hid hsw
      have HWant2 : Hid (∀ r, (Value.slice Aw Z.length cw).ownBlock = some r → r < w2.heap.size ∧ ¬ BkOwn w2 (ptrV p) r) := Lib.hid fun r e => ⟨(ownI_ge ho r e).2.1, fun hbo => by
        have h1 := (HI.out.1.2.1.keep (fun k hk => hb.block k (HI.out.1.2.1.lt k hk)) hb.size).2 r hbo
        have h2 := HI.out.1.2.1.lt r h1
        have h3 := (ownI_ge ho r e).1
        omega⟩
      obtain ⟨N, hN⟩ : ∃ N : Nat, 1 + (d : Int) % 70 = (N : Int) := ⟨1 + d % 70, by omega⟩
      have hN1 : 1 ≤ N ∧ N ≤ 70 := by omega
      obtain ⟨W3, hW3⟩ : ∃ W3, (w2.alloc (.cells #[.int .i64 (N : Int)] 3)).alloc (.cells #[.slice none 0 0] 22) = W3 := ⟨_, rfl⟩
      have hb3 : Below w2.heap.size w2 W3 := by rw [← hW3]; exact ((Below.refl _ _).alloc (Nat.le_refl _) _).alloc (by simp) _
      have hs3 : W3.heap.size = w2.heap.size + 2 := by rw [← hW3]; simp
      have xn : Boxed W3 w2.heap.size 3 (.int .i64 (N : Int)) := by rw [← hW3]; exact (Boxed.new w2 _ _).alloc _
      have xg : Boxed W3 (w2.heap.size + 1) 22 (.slice none 0 0) := by
        rw [← hW3]
        have := Boxed.new (w2.alloc (.cells #[.int .i64 (N : Int)] 3)) 22 (.slice none 0 0)
        rw [World.size_alloc] at this
        exact this
      have HI3 := Lib.hid (HI2.out.old hb3)
      have hbx3 : ((w2.alloc (.cells #[.int .i64 (N : Int)] 3)).alloc (.cells #[.slice none 0 0] 22)).cell? ⟨Bx, 0, none⟩ = some (.pointer (some ⟨p, 0, none⟩)) := by rw [hW3]; exact HI3.out.2.1.cell
      have HW3 := Lib.hid hW3
      have HXn := Lib.hid (And.intro xn (And.intro xg hs3))
      have HN := Lib.hid hN1
      have HWn3 := Lib.hid (ownI_below HWn.out hb3)
      have HNo3 : Hid (∀ k, BkOwn W3 (ptrV p) k → k < w2.heap.size ∧ Bx < w2.heap.size ∧ BkOwn w2 (ptrV p) k) := Lib.hid fun k ho => ⟨HI2.out.1.2.1.lt k ((HI2.out.1.2.1.keep (fun k hk => hb3.block k (HI2.out.1.2.1.lt k hk)) hb3.size).2 k ho), HI2.out.2.1.lt, (HI2.out.1.2.1.keep (fun k hk => hb3.block k (HI2.out.1.2.1.lt k hk)) hb3.size).2 k ho⟩
      have HSx : Hid (wr.heap.size ≤ w2.heap.size) := Lib.hid hb.size
      clear HI ho hb K1 hsw hW3 hb3 hs3 xn xg hN1 HI2 HWn
      gi_wp2
      rw [HW3.out]
      clear hbx hbx3 HW3
      refine ⟨trivial, ?_⟩
      refine (callsIn_wide.2 (All_any HI3.out.1.2.1)).mono ?_
      rintro e w4 ⟨lb1, rfl, hb4, -⟩
      have HI4 := Lib.hid (HI3.out.old hb4)
      have hbx4 := HI4.out.2.1.cell
      have hq : ∀ (lb : Array Value) (W : World), (binOp .eql 46 (.func (.func 31) #[] lb) .nilFunc).run Try.prog W = .ok (.bool false) W := fun lb W => by rfl
      have xn4 : Boxed w4 w2.heap.size 3 (.int .i64 (N : Int)) := (hb4.block _ (by have := HXn.out.2.2; omega)).trans HXn.out.1
      have xg4 : Boxed w4 (w2.heap.size + 1) 22 (.slice none 0 0) := (hb4.block _ (by have := HXn.out.2.2; omega)).trans HXn.out.2.1
      have hz4 : w2.heap.size + 2 ≤ w4.heap.size := by have := HXn.out.2.2; have := hb4.size; omega
      have HXn4 := Lib.hid (And.intro xn4 (And.intro xg4 hz4))
      have HWn4 := Lib.hid (ownI_below HWn3.out hb4)
      have HNo4 : Hid (∀ k, BkOwn w4 (ptrV p) k → k < w2.heap.size ∧ Bx < w2.heap.size ∧ BkOwn w2 (ptrV p) k) := Lib.hid fun k ho => HNo3.out k ((HI3.out.1.2.1.keep (fun k hk => hb4.block k (HI3.out.1.2.1.lt k hk)) hb4.size).2 k ho)
      clear hb4 HI3 HXn xn4 xg4 hz4 HWn3
      gi_wp2
      refine ⟨trivial, ?_⟩
      refine (callsIn_wide.2 (All_any HI4.out.1.2.1)).mono ?_
      rintro e w5 ⟨lb, rfl, hb5, hseq⟩
      have HI5 := Lib.hid (HI4.out.old hb5)
      have xn5 : Boxed w5 w2.heap.size 3 (.int .i64 (N : Int)) := (hb5.block _ (by have := HXn4.out.2.2; omega)).trans HXn4.out.1
      have xg5 : Boxed w5 (w2.heap.size + 1) 22 (.slice none 0 0) := (hb5.block _ (by have := HXn4.out.2.2; omega)).trans HXn4.out.2.1
      have hz5 : w2.heap.size + 2 ≤ w5.heap.size := by have := HXn4.out.2.2; have := hb5.size; omega
      have HWn5 := Lib.hid (ownI_below HWn4.out hb5)
      have HNo5 : ∀ k, BkOwn w5 (ptrV p) k → k < w2.heap.size ∧ Bx < w2.heap.size ∧ BkOwn w2 (ptrV p) k := fun k ho => HNo4.out k ((HI4.out.1.2.1.keep (fun k hk => hb5.block k (HI4.out.1.2.1.lt k hk)) hb5.size).2 k ho)
      have hplt : p < w5.heap.size := HI5.out.1.2.1.lt p HI5.out.1.2.1.own_ptr
      have hBxl : Bx < w2.heap.size := (HNo5 p HI5.out.1.2.1.own_ptr).2.1
      have HOw : Hid (∀ k, BkOwn w5 (ptrV p) k → W0.heap.size ≤ k) := Lib.hid HI5.out.1.2.2
      have HWant : Hid (∃ Sw, OwnI w5 Sw (.slice Aw Z.length cw) Z ∧ ∀ r, (Value.slice Aw Z.length cw).ownBlock = some r → r < w2.heap.size ∧ ¬ BkOwn w5 (ptrV p) r) := Lib.hid ⟨_, HWn5.out, fun r e => ⟨(HWant2.out r e).1, fun ho => (HWant2.out r e).2 (HNo5 r ho).2.2⟩⟩
      obtain ⟨Bg, hBg⟩ : ∃ Bg, Bg = w2.heap.size + 1 := ⟨_, rfl⟩
      have hBe : w2.heap.size + 1 = Bg := hBg.symm
      rw [hBe] at xg5
      have hB5 : Bg < w5.heap.size := by omega
      have hBn5 : ¬ BkOwn w5 (ptrV p) Bg := fun ho => by have := (HNo5 _ ho).1; omega
      have hW05 := HI5.out.below
      have hS0 := HS.out
      have hP8 : ∀ j, j < W0.heap.size → ¬ BkOwn w5 (ptrV p) j := fun j hj ho => by have := HI5.out.1.2.2 j ho; omega
      have hxx := HX.out
      have b8 : Boxed w5 w.heap.size 5 (.int .u8 (a : Int)) := (hW05.block _ (by omega)).trans hxx.1
      have b9 : Boxed w5 (w.heap.size + 1) 5 (.int .u8 (b : Int)) := (hW05.block _ (by omega)).trans hxx.2.1
      have b10 : Boxed w5 (w.heap.size + 2) 5 (.int .u8 (c : Int)) := (hW05.block _ (by omega)).trans hxx.2.2
      have hw05 : W0.heap.size ≤ Bx := HB0.out
      have HF : Hid (Bg = w2.heap.size + 1 ∧ Bg < w5.heap.size ∧ ¬ BkOwn w5 (ptrV p) Bg ∧ p < w5.heap.size ∧ (Boxed w5 w2.heap.size 3 (.int .i64 (N : Int)) ∧ w2.heap.size ≠ Bg ∧ ¬ BkOwn w5 (ptrV p) w2.heap.size) ∧ (Boxed w5 Bx 24 (ptrV p) ∧ Bx ≠ Bg ∧ ¬ BkOwn w5 (ptrV p) Bx) ∧ (Boxed w5 w.heap.size 5 (.int .u8 (a : Int)) ∧ w.heap.size ≠ Bg ∧ ¬ BkOwn w5 (ptrV p) w.heap.size) ∧ (Boxed w5 (w.heap.size + 1) 5 (.int .u8 (b : Int)) ∧ w.heap.size + 1 ≠ Bg ∧ ¬ BkOwn w5 (ptrV p) (w.heap.size + 1)) ∧ (Boxed w5 (w.heap.size + 2) 5 (.int .u8 (c : Int)) ∧ w.heap.size + 2 ≠ Bg ∧ ¬ BkOwn w5 (ptrV p) (w.heap.size + 2))) := Lib.hid
        ⟨hBg, hB5, hBn5, hplt, ⟨xn5, by omega, fun ho => by have := (HNo5 _ ho).1; omega⟩, ⟨HI5.out.2.1, by omega, HI5.out.2.2⟩, ⟨b8, by omega, hP8 _ (by omega)⟩, ⟨b9, by omega, hP8 _ (by omega)⟩, ⟨b10, by omega, hP8 _ (by omega)⟩⟩
      have hs2 := hseq (MineQ p Bg) (mineQ_ok hB5 hplt) (by
        rintro W hW k (⟨v, hv, hk⟩ | hk)
        · have hb : W.heap[Bg]? = w5.heap[Bg]? := hW.block _ hB5
          have e : v = .slice none 0 0 := by
            have := (show _ = _ from hv).symm.trans (hb.trans xg5)
            simpa using this
          subst e
          rcases hk with hk | hk
          · have := HXn4.out.2.2; omega
          · simp [Value.ownBlock] at hk
        · have h1 := bk_own (hW.block p hplt) hk
          have h2 := (HI4.out.1.2.1.keep (fun k hk => hb5.block k (HI4.out.1.2.1.lt k hk)) hb5.size).2 k h1
          exact HI4.out.1.2.1.lt k h2)
      have HC5 : Hid (CoreQ p Bg M w5 [] (.slice none 0 0) G Z w5) := Lib.hid ⟨xg5, ownI_none _ _, fun r e => by simp [Value.ownBlock] at e, HI5.out.1.2.1, rfl, rfl, rfl, Nat.le_refl _, fun _ _ _ _ => rfl, fun k ho => Or.inl ho⟩
      have HI5b := Lib.hid HI5.out.below
      have HWw : Hid (w.heap.size ≤ w2.heap.size) := Lib.hid (Nat.le_trans HBw.out.size (Nat.le_trans HB0.out (Nat.le_of_lt hBxl)))
      clear hb5 hseq HNo5 hplt hBxl hBg xg5 hB5 hBn5 hW05 hS0 hP8 hxx b8 b9 b10 hw05 xn5 hz5 HI4 HXn4 HWn4 HNo4 HNo3 HI5
      gi_wp2
      try rw [hBe]
      clear hBe
      obtain ⟨i0, hi, hz0, hz1, hz2⟩ := info_parts info_int
      obtain ⟨Q, hQ⟩ : ∃ Q : Nat, (b : Int) % 30 = (Q : Int) := ⟨b % 30, by omega⟩
      obtain ⟨R, hR⟩ : ∃ R : Nat, (c : Int) % 30 = (R : Int) := ⟨c % 30, by omega⟩
      have hQ30 : Q < 30 := by omega
      have hR30 : R < 30 := by omega
      refine wpIn_rangeFunc_ownG rfl (by decide) (gf := 31) (lb := lb) rfl trivial (enters_of Try.func31 (by kernel_rfl) rfl)
        hs2 KpM.trans (fun W l o o' hl h hc _ => KpM.put (mineQ_ok HF.out.2.1 HF.out.2.2.2.1) W l o o' hl h hc) (Below.refl _ _) (fun _ => rfl)
        (fun pre W => (∃ v G L, CoreQ p Bg M w5 (valV pre) v G L W ∧ G ≤ 60 + 30 * pre.length) ∧ pre.length < N)
        (fun cd pre W => cd = .exit 2 ∧ pre.length = N ∧ ∃ v G L, CoreQ p Bg M w5 (valV pre) v G L W)
        (fun pre W W' row h hg hrow => by
          obtain ⟨⟨v, G, L, h1, h2⟩, h3⟩ := h
          exact ⟨⟨v, G, L, h1.grown HF.out.2.2.2.1 hg hrow, h2⟩, h3⟩)
        (fun cd pre W W' row h hg hrow => by
          obtain ⟨h1, h2, v, G, L, h3⟩ := h
          exact ⟨h1, h2, v, G, L, h3.grown HF.out.2.2.2.1 hg hrow⟩)
        ⟨⟨_, G, Z, HC5.out, by have := HG6.out; omega⟩, HN.out.1⟩
        (fun x => { tmps := #[.int .i64 (M : Int), .slice A1 k c1, .int .u8 (a : Int), .int .u8 (b : Int), .int .u8 (c : Int), .int .u8 (d : Int), undef, undef, .pointer (some ⟨w.heap.size, 0, none⟩), .pointer (some ⟨w.heap.size + 1, 0, none⟩), .pointer (some ⟨w.heap.size + 1 + 1, 0, none⟩), undef, .bool false, .pointer (some ⟨Bx, 0, none⟩), .int .i64 0, .int .i64 (k : Int), .slice Aw Z.length cw, .pointer (some ⟨w2.heap.size, 0, none⟩), .pointer (some ⟨Bg, 0, none⟩), .int .i64 (x.1 : Int), .int .i64 x.2, undef, undef, .int .i64 (M : Int), .bool false, .bool false, .int .i64 (M : Int), .bool false, .bool false, .bool false, .slice A1 k c1, .int .i64 (k : Int), .bool false, .bool false, undef, .tuple #[.pointer (some ⟨p, 0, none⟩), .int .i64 0], .int .i64 (M : Int), .tuple #[.pointer (some ⟨p, 0, none⟩), .int .i64 0], .pointer (some ⟨p, 0, none⟩), .int .i64 0, .int .i64 0, .bool false, .bool false, .pointer (some ⟨p, 0, none⟩), .bool false, .bool false, .int .i64 (k : Int), .slice A1 k c1, .int .i64 (k : Int), .bool false, u50, u51, u52, u53, u54, u55, u56, u57, .pointer (some ⟨p, 0, none⟩), .slice Aw Z.length cw, .int .u8 (d : Int), .int .u8 ((d : Int) % 70), .int .i64 ((d : Int) % 70), .int .i64 (N : Int), .pointer (some ⟨p, 0, none⟩), .func (.func 31) #[] lb1, .bool false, .pointer (some ⟨p, 0, none⟩), .func (.func 31) #[] lb, .int .i64 (x.1 : Int), .int .i64 x.2, undef, undef, undef, undef, undef, undef, undef, undef, undef, undef, undef, undef, undef, undef, undef, undef, undef, undef, undef, undef, undef, undef, undef, undef, undef, undef, undef, undef, undef, undef, undef, undef, undef, undef, undef, undef, undef, undef, undef, undef, undef, undef, undef, undef, undef, undef], defers := [] }) ?assign ?body ?done ?stop
      case assign =>
        intro l x W K hK
        have hz : (#[(69 : Nat), 70].zip #[Value.int .i64 (x.1 : Int), .int .i64 x.2]) = #[((69 : Nat), Value.int .i64 (x.1 : Int)), (70, .int .i64 x.2)] := by simp
        simp only [hz, List.foldl_toArray', List.foldl_cons, List.foldl_nil, List.setIfInBounds_toArray, List.set_cons_zero, List.set_cons_succ]
        gi_wp2
        exact hK
      case body =>
        rintro l pre ⟨i, y⟩ W ⟨⟨v, G0, L0, hC, hG0⟩, hlN⟩ hlt
        dsimp only
        have HC := Lib.hid hC
        have HSt : Hid (StepQ p Bg W W) := Lib.hid (StepQ.refl p Bg W)
        have h8 := (hC.2.2.2.2.boxed HF.out.2.2.2.2.2.2.1.1 HF.out.2.2.2.2.2.2.1.2.1 HF.out.2.2.2.2.2.2.1.2.2).cell
        clear hs2
        by_cases hia : (i : Int) = (a : Int) % 50
        · have gi : ((i : Int) == (a : Int) % 50) = true := by simpa using hia
          have HG0 : Hid (G0 ≤ 60 + 30 * pre.length + 0) := Lib.hid (by omega)
          clear hia hG0 hC
          gi_wp2
          gi_loopw [21] (fun ix wr => ∃ (j G : Nat) (L : List Int), j ≤ Q ∧ ix = .int .i64 j ∧ Hid (CoreQ p Bg M w5 (valV pre) v G L wr ∧ StepQ p Bg W wr ∧ G ≤ 60 + 30 * pre.length + j)) (fun ix _ => Q - (RowKit.intOf ix).toNat)
          case atStart => exact ⟨0, G0, L0, Nat.zero_le _, rfl, Lib.hid ⟨HC.out, HSt.out, HG0.out⟩⟩
          case round =>
            obtain ⟨j, G1, L1', hj, rfl, HD⟩ := hrel
            rename_i wr
            have hb9 := (HD.out.1.2.2.2.2.boxed HF.out.2.2.2.2.2.2.2.1.1 HF.out.2.2.2.2.2.2.2.1.2.1 HF.out.2.2.2.2.2.2.2.1.2.2).cell
            have hbx := (HD.out.1.2.2.2.2.boxed HF.out.2.2.2.2.2.1.1 HF.out.2.2.2.2.2.1.2.1 HF.out.2.2.2.2.2.1.2.2).cell
            by_cases hlt2 : j < Q
            · have glt2 : decide ((j : Int) < (Q : Int)) = true := by simp; omega
              have hG6 : G1 ≤ 1000000 := by have := HD.out.2.2; have := HN.out; omega
              have hgo : goneV M L1' G1 ≤ 60 + 30 * pre.length + (j + 1) := by unfold goneV; have := HD.out.2.2; split <;> omega
              have hS : Hid (∀ x, Calls Try.prog 10 #[.pointer (some ⟨p, 0, none⟩), .int .i64 x] wr fun e w' => e = .returned (.bool (putB M L1')) ∧ ∃ L2, CoreQ p Bg M w5 (valV pre) v (goneV M L1' G1) L2 w' ∧ StepQ p Bg W w') := Lib.hid fun x => (put_any HD.out.1.2.2.2.1 x hG6).mono fun e w' ⟨he, hk, ht⟩ => by
                have h2 := HD.out.1.turn HF.out.2.1 HF.out.2.2.1 ht hk
                exact ⟨he, _, h2.1, HD.out.2.1.trans h2.2⟩
              have HGo := Lib.hid hgo
              clear hG6 hgo
              gi_wp2
              refine ⟨trivial, ?_⟩
              refine (CallsIn.inRound l (callsIn_wide.2 (hS.out _))).mono ?_
              rintro e w6 ⟨rfl, L2, hc6, hs6⟩
              have HD2 := Lib.hid (And.intro hc6 (And.intro hs6 HGo.out))
              clear hc6 hs6 hS HD hb9 hbx
              gi_wp2
              go_roundw
              case rel => exact ⟨j + 1, _, L2, by omega, by go_num, HD2⟩
              case measure => simp [RowKit.intOf]; omega
            · have hjQ : j = Q := by omega
              subst hjQ
              have glt2 : decide ((j : Int) < (j : Int)) = false := by simp
              gi_wp2
              gi_loopw [22] (fun ix wu => ∃ (j2 : Nat) (L : List Int), j2 ≤ R ∧ ix = .int .i64 j2 ∧ Hid (CoreQ p Bg M w5 (valV pre) v G1 L wu ∧ StepQ p Bg W wu)) (fun ix _ => R - (RowKit.intOf ix).toNat)
              case atStart => exact ⟨0, L1', Nat.zero_le _, rfl, Lib.hid ⟨HD.out.1, HD.out.2.1⟩⟩
              case round =>
                obtain ⟨j2, L3, hj2, rfl, HE⟩ := hrel
                clear hQ
                have hb10 := (HE.out.1.2.2.2.2.boxed HF.out.2.2.2.2.2.2.2.2.1 HF.out.2.2.2.2.2.2.2.2.2.1 HF.out.2.2.2.2.2.2.2.2.2.2).cell
                have hbx2 := (HE.out.1.2.2.2.2.boxed HF.out.2.2.2.2.2.1.1 HF.out.2.2.2.2.2.1.2.1 HF.out.2.2.2.2.2.1.2.2).cell
                by_cases hlt3 : j2 < R
                · have glt3 : decide ((j2 : Int) < (R : Int)) = true := by simp; omega
                  have hS : Hid (Calls Try.prog 12 #[.pointer (some ⟨p, 0, none⟩)] wr fun e w' => e = .returned (.tuple #[.int .i64 (popX L3), .bool (someB L3)]) ∧ ∃ L2, CoreQ p Bg M w5 (valV pre) v G1 L2 w' ∧ StepQ p Bg W w') := Lib.hid ((pop_any HE.out.1.2.2.2.1).mono fun e w' ⟨he, hk, ht⟩ => by
                    have h2 := HE.out.1.turn HF.out.2.1 HF.out.2.2.1 ht hk
                    exact ⟨he, _, h2.1, HE.out.2.trans h2.2⟩)
                  clear HD
                  gi_wp2
                  refine ⟨trivial, ?_⟩
                  refine (CallsIn.inRound l (callsIn_wide.2 hS.out)).mono ?_
                  rintro e w6 ⟨rfl, L2, hc6, hs6⟩
                  have HE2 := Lib.hid (And.intro hc6 hs6)
                  clear hc6 hs6 hS HE hb10 hbx2
                  gi_wp2
                  go_roundw
                  case rel => exact ⟨j2 + 1, L2, by omega, by go_num, HE2⟩
                  case measure => simp [RowKit.intOf]; omega
                · have hjR : j2 = R := by omega
                  subst hjR
                  have glt3 : decide ((j2 : Int) < (j2 : Int)) = false := by simp
                  have HGb : Hid (G1 ≤ 60 + 30 * pre.length + 30) := Lib.hid (by have := HD.out.2.2; omega)
                  have HC := Lib.hid HE.out.1
                  have HSt := Lib.hid HE.out.2
                  clear HD hbx2 hbx hb9 h8
                  obtain ⟨hv, hr, -, -, hst⟩ := HC.out
                  have hc := hv.cell
                  have hf := hv.frozen
                  have hmc : wr.cell? ⟨w2.heap.size, 0, none⟩ = some (.int .i64 (N : Int)) := (hst.boxed HF.out.2.2.2.2.1.1 HF.out.2.2.2.2.1.2.1 HF.out.2.2.2.2.1.2.2).cell
                  obtain ⟨q, hq⟩ : ∃ q, q = (valV pre).length := ⟨_, rfl⟩
                  have hqp : q = pre.length := by rw [hq, val_len]
                  have hrow : wr.ownsRow w5.heap.size 3 1 v q (intsC (valV pre)) := by rw [hq]; exact hr
                  have HWz : Hid (w5.heap.size ≤ wr.heap.size) := Lib.hid hst.size
                  have HMB : Hid (w2.heap.size < Bg) := Lib.hid (by have := HF.out.1; omega)
                  have hne : w2.heap.size ≠ Bg := Nat.ne_of_lt HMB.out
                  have hne2 : Bg ≠ w2.heap.size := Nat.ne_of_gt HMB.out
                  have HQ := Lib.hid (And.intro hq hqp)
                  have hN70 : N ≤ 70 := HN.out.2
                  have hq70 : q < 70 := by omega
                  have HSt' := HSt
                  by_cases hm3 : q + 1 = N
                  · have gx : (((q + 1 : Nat) : Int) == (N : Int)) = true := by rw [hm3]; simp
                    have Hm3 := Lib.hid hm3
                    clear hm3 hq hqp hr hst hlN hlt hv
                    gi_wp2_with (gi_at_builtin; refine wpListIn_append_at _ rfl _ _ 22 rfl w5.heap.size 3 i0 (.int .i64 0) 1 8 Try.underlying22 hi hz0 hz1 hz2 rfl (by decide) _ _ _ rfl (hrow.alloc _) ⟨wr.heap.size, 0, none⟩ 1 1 [.int .i64 y] rfl rfl (cell_one_new _ _ _) (by simp [Value.oneCell']) (by unfold maxLen; omega) (by omega) (by have := HWz.out; simp; omega) ?_; intro v' w8 hown' hgrow hat; obtain ⟨g', cap', rfl⟩ := ownsRow_succ hown'; have hap := HC.out.app HF.out.2.1 HF.out.2.2.1 (y := y) (by unfold OwnI; rw [List.length_append, List.length_singleton, ← HQ.out.1, ints_append]; exact hown') hgrow hat; have hc1 := hap.1.cell; have hf1 := hap.1.frozen; have hmc1 := (hap.2.1.cell (p := ⟨w2.heap.size, 0, none⟩) HMB.out).trans hmc; have HRs := Lib.hid hap.2.2; clear hown' hgrow hat hap)
                    have hst2 := HSt.out.trans HRs.out.2
                    exact ⟨hst2.1.from _, rfl, by rw [List.length_append, List.length_singleton]; have := Hm3.out; have := HQ.out.2; omega, _, _, _, by rw [val_step]; exact HRs.out.1⟩
                  · have gx : (((q + 1 : Nat) : Int) == (N : Int)) = false := by simp; omega
                    have Hm3 : Hid (q + 1 < N) := Lib.hid (by omega)
                    clear hm3 hq hqp hr hst hlN hlt hv
                    gi_wp2_with (gi_at_builtin; refine wpListIn_append_at _ rfl _ _ 22 rfl w5.heap.size 3 i0 (.int .i64 0) 1 8 Try.underlying22 hi hz0 hz1 hz2 rfl (by decide) _ _ _ rfl (hrow.alloc _) ⟨wr.heap.size, 0, none⟩ 1 1 [.int .i64 y] rfl rfl (cell_one_new _ _ _) (by simp [Value.oneCell']) (by unfold maxLen; omega) (by omega) (by have := HWz.out; simp; omega) ?_; intro v' w8 hown' hgrow hat; obtain ⟨g', cap', rfl⟩ := ownsRow_succ hown'; have hap := HC.out.app HF.out.2.1 HF.out.2.2.1 (y := y) (by unfold OwnI; rw [List.length_append, List.length_singleton, ← HQ.out.1, ints_append]; exact hown') hgrow hat; have hc1 := hap.1.cell; have hf1 := hap.1.frozen; have hmc1 := (hap.2.1.cell (p := ⟨w2.heap.size, 0, none⟩) HMB.out).trans hmc; have HRs := Lib.hid hap.2.2; clear hown' hgrow hat hap)
                    have hst2 := HSt.out.trans HRs.out.2
                    exact ⟨hst2.1.from _, hst2.2, ⟨_, _, _, by rw [val_step]; exact HRs.out.1, by rw [List.length_append, List.length_singleton]; have := HGb.out; omega⟩, by rw [List.length_append, List.length_singleton]; have := Hm3.out; have := HQ.out.2; omega⟩
        · have gi : ((i : Int) == (a : Int) % 50) = false := by simpa using hia
          have HGb : Hid (G0 ≤ 60 + 30 * pre.length + 30) := Lib.hid (by omega)
          clear hia hG0 hC
          obtain ⟨hv, hr, -, -, hst⟩ := HC.out
          have hc := hv.cell
          have hf := hv.frozen
          have hmc : W.cell? ⟨w2.heap.size, 0, none⟩ = some (.int .i64 (N : Int)) := (hst.boxed HF.out.2.2.2.2.1.1 HF.out.2.2.2.2.1.2.1 HF.out.2.2.2.2.1.2.2).cell
          obtain ⟨q, hq⟩ : ∃ q, q = (valV pre).length := ⟨_, rfl⟩
          have hqp : q = pre.length := by rw [hq, val_len]
          have hrow : W.ownsRow w5.heap.size 3 1 v q (intsC (valV pre)) := by rw [hq]; exact hr
          have HWz : Hid (w5.heap.size ≤ W.heap.size) := Lib.hid hst.size
          have HMB : Hid (w2.heap.size < Bg) := Lib.hid (by have := HF.out.1; omega)
          have hne : w2.heap.size ≠ Bg := Nat.ne_of_lt HMB.out
          have hne2 : Bg ≠ w2.heap.size := Nat.ne_of_gt HMB.out
          have HQ := Lib.hid (And.intro hq hqp)
          have hN70 : N ≤ 70 := HN.out.2
          have hq70 : q < 70 := by omega
          have HSt' := HSt
          by_cases hm3 : q + 1 = N
          · have gx : (((q + 1 : Nat) : Int) == (N : Int)) = true := by rw [hm3]; simp
            have Hm3 := Lib.hid hm3
            clear hm3 hq hqp hr hst hlN hlt hv
            gi_wp2_with (gi_at_builtin; refine wpListIn_append_at _ rfl _ _ 22 rfl w5.heap.size 3 i0 (.int .i64 0) 1 8 Try.underlying22 hi hz0 hz1 hz2 rfl (by decide) _ _ _ rfl (hrow.alloc _) ⟨W.heap.size, 0, none⟩ 1 1 [.int .i64 y] rfl rfl (cell_one_new _ _ _) (by simp [Value.oneCell']) (by unfold maxLen; omega) (by omega) (by have := HWz.out; simp; omega) ?_; intro v' w8 hown' hgrow hat; obtain ⟨g', cap', rfl⟩ := ownsRow_succ hown'; have hap := HC.out.app HF.out.2.1 HF.out.2.2.1 (y := y) (by unfold OwnI; rw [List.length_append, List.length_singleton, ← HQ.out.1, ints_append]; exact hown') hgrow hat; have hc1 := hap.1.cell; have hf1 := hap.1.frozen; have hmc1 := (hap.2.1.cell (p := ⟨w2.heap.size, 0, none⟩) HMB.out).trans hmc; have HRs := Lib.hid hap.2.2; clear hown' hgrow hat hap)
            have hst2 := HSt.out.trans HRs.out.2
            exact ⟨hst2.1.from _, rfl, by rw [List.length_append, List.length_singleton]; have := Hm3.out; have := HQ.out.2; omega, _, _, _, by rw [val_step]; exact HRs.out.1⟩
          · have gx : (((q + 1 : Nat) : Int) == (N : Int)) = false := by simp; omega
            have Hm3 : Hid (q + 1 < N) := Lib.hid (by omega)
            clear hm3 hq hqp hr hst hlN hlt hv
            gi_wp2_with (gi_at_builtin; refine wpListIn_append_at _ rfl _ _ 22 rfl w5.heap.size 3 i0 (.int .i64 0) 1 8 Try.underlying22 hi hz0 hz1 hz2 rfl (by decide) _ _ _ rfl (hrow.alloc _) ⟨W.heap.size, 0, none⟩ 1 1 [.int .i64 y] rfl rfl (cell_one_new _ _ _) (by simp [Value.oneCell']) (by unfold maxLen; omega) (by omega) (by have := HWz.out; simp; omega) ?_; intro v' w8 hown' hgrow hat; obtain ⟨g', cap', rfl⟩ := ownsRow_succ hown'; have hap := HC.out.app HF.out.2.1 HF.out.2.2.1 (y := y) (by unfold OwnI; rw [List.length_append, List.length_singleton, ← HQ.out.1, ints_append]; exact hown') hgrow hat; have hc1 := hap.1.cell; have hf1 := hap.1.frozen; have hmc1 := (hap.2.1.cell (p := ⟨w2.heap.size, 0, none⟩) HMB.out).trans hmc; have HRs := Lib.hid hap.2.2; clear hown' hgrow hat hap)
            have hst2 := HSt.out.trans HRs.out.2
            exact ⟨hst2.1.from _, hst2.2, ⟨_, _, _, by rw [val_step]; exact HRs.out.1, by rw [List.length_append, List.length_singleton]; have := HGb.out; omega⟩, by rw [List.length_append, List.length_singleton]; have := Hm3.out; have := HQ.out.2; omega⟩
      case done =>
        rintro D ys W hD rfl ⟨⟨v, G1, L1', hC, hG1⟩, hlN⟩ hK
        rw [pairs_val] at hC
        rw [pairs_len] at hlN
        obtain ⟨Sw, hwo, hwr⟩ := HWant.out
        have hwant : LiesI W (.slice Aw Z.length cw) Z := ownI_lies (ownI_keep hwo fun r e => hC.2.2.2.2.block r (ownI_ge hwo r e).2.1 (by have := (hwr r e).1; have := HF.out.1; omega) (hwr r e).2)
        have gw : decide ((Z.length : Int) > (N : Int)) = false := by simp; omega
        have gw' : decide (N < Z.length) = false := by simp; omega
        have hz5 : Z.length ≤ 500 := HZl.out
        clear hG1 hlN hwr hwo
        have K1 : Hid (Calls Try.prog 17 #[v, .slice Aw Z.length cw] W fun e w' => e = .returned (.bool true) ∧ Below W.heap.size W w') := Lib.hid ((same_any (ownI_lies hC.2.1) hwant (by omega)).mono fun e w' ⟨he, hb⟩ => ⟨by rw [he, decide_eq_true rfl], hb⟩)
        have HBt : Hid (Below w.heap.size w W) := Lib.hid (hC.since (HBw.out.trans (HI5b.out.mono HBw.out.size)) (fun k ho => Nat.le_trans HBw.out.size (HOw.out k ho)) (by have := HF.out.1; have := HWw.out; omega))
        have hv := hC.1
        have hcv := hv.cell
        have HKD := Lib.hid hK
        have hmc : W.cell? ⟨w2.heap.size, 0, none⟩ = some (.int .i64 (N : Int)) := (hC.2.2.2.2.boxed HF.out.2.2.2.2.1.1 HF.out.2.2.2.2.1.2.1 HF.out.2.2.2.2.1.2.2).cell
        have HDl : Hid (D < W.heap.size ∧ w.heap.size ≤ W.heap.size ∧ w.heap.size ≤ D) := Lib.hid ⟨blk_lt hK, HBt.out.size, by have := HBw.out.size; have := HI5b.out.size; omega⟩
        obtain ⟨Av, cv, rfl⟩ := ownI_slice hC.2.1
        generalize Z.length = qv at *
        clear hC hv hK hs2 hwant hD HC5
        gi_wp2
        refine ⟨trivial, ?_⟩
        refine (callsIn_wide.2 K1.out).mono ?_
        rintro e w7 ⟨rfl, hb7⟩
        have K2 := Lib.hid (wakes_any w7)
        have HB7 := Lib.hid hb7
        clear hb7 K1
        gi_wp2
        refine ⟨trivial, ?_⟩
        refine (callsIn_wide.2 K2.out).mono ?_
        rintro e w8 ⟨rfl, hb8⟩
        have HB8 : Hid (Below W.heap.size W w8) := Lib.hid (HB7.out.trans (hb8.mono HB7.out.size))
        clear hb8 K2 HB7
        gi_wp2
        have HK8 : w8.heap[D]? = some (.deferred (some [])) := (HB8.out.block D HDl.out.1).trans HKD.out
        refine ⟨by simp, .inl ⟨_, _, rfl, run_takeDeferred HK8, ?_⟩⟩
        exact ⟨_, results_tmp rfl _ _ _, rfl, (HBt.out.trans (HB8.out.mono HDl.out.2.1)).trans ((Below.refl w.heap.size w8).grown (grownBy_putObj' w8 D _) (by have := HB8.out.size; have := HDl.out; omega) (fun k e => by cases e; exact HDl.out.2.2))⟩
      case stop =>
        rintro D cd pre W hD hp ⟨rfl, hlen, v, G1, L1', hC⟩ hK
        have hpz : valV pre = Z.take N := by rw [(pre_of hp).1, hlen]
        have hple := hp.length_le
        rw [pairs_len, hlen] at hple
        rw [hpz] at hC
        obtain ⟨Sw, hwo, hwr⟩ := HWant.out
        have hwant : LiesI W (.slice Aw Z.length cw) Z := ownI_lies (ownI_keep hwo fun r e => hC.2.2.2.2.block r (ownI_ge hwo r e).2.1 (by have := (hwr r e).1; have := HF.out.1; omega) (hwr r e).2)
        have hz5 : Z.length ≤ 500 := HZl.out
        have hN1 := HN.out.1
        clear hwr hwo hp hpz
        by_cases hzn : N < Z.length
        · have gw : decide ((Z.length : Int) > (N : Int)) = true := by simp; omega
          have gw' : decide (N < Z.length) = true := by simp; omega
          obtain ⟨sl, hlt⟩ := to_ints hwant N (by omega) (by omega)
          have hl5 : (Z.take N).length ≤ 100000 := by rw [List.length_take]; omega
          clear hzn hple hlen
          have K1 : Hid (Calls Try.prog 17 #[v, .slice Aw N cw] W fun e w' => e = .returned (.bool true) ∧ Below W.heap.size W w') := Lib.hid ((same_any (ownI_lies hC.2.1) hlt (by exact hl5)).mono fun e w' ⟨he, hb⟩ => ⟨by rw [he, decide_eq_true rfl], hb⟩)
          have HBt : Hid (Below w.heap.size w W) := Lib.hid (hC.since (HBw.out.trans (HI5b.out.mono HBw.out.size)) (fun k ho => Nat.le_trans HBw.out.size (HOw.out k ho)) (by have := HF.out.1; have := HWw.out; omega))
          have hv := hC.1
          have hcv := hv.cell
          have HKD := Lib.hid hK
          have hmc : W.cell? ⟨w2.heap.size, 0, none⟩ = some (.int .i64 (N : Int)) := (hC.2.2.2.2.boxed HF.out.2.2.2.2.1.1 HF.out.2.2.2.2.1.2.1 HF.out.2.2.2.2.1.2.2).cell
          have HDl : Hid (D < W.heap.size ∧ w.heap.size ≤ W.heap.size ∧ w.heap.size ≤ D) := Lib.hid ⟨blk_lt hK, HBt.out.size, by have := HBw.out.size; have := HI5b.out.size; omega⟩
          obtain ⟨Av, cv, rfl⟩ := ownI_slice hC.2.1
          generalize (Z.take N).length = qv at *
          clear hC hv hK hs2 hwant hD HC5 hlt hl5
          gi_wp2
          refine ⟨trivial, ?_⟩
          refine (callsIn_wide.2 K1.out).mono ?_
          rintro e w7 ⟨rfl, hb7⟩
          have K2 := Lib.hid (wakes_any w7)
          have HB7 := Lib.hid hb7
          clear hb7 K1
          gi_wp2
          refine ⟨trivial, ?_⟩
          refine (callsIn_wide.2 K2.out).mono ?_
          rintro e w8 ⟨rfl, hb8⟩
          have HB8 : Hid (Below W.heap.size W w8) := Lib.hid (HB7.out.trans (hb8.mono HB7.out.size))
          clear hb8 K2 HB7
          gi_wp2
          have HK8 : w8.heap[D]? = some (.deferred (some [])) := (HB8.out.block D HDl.out.1).trans HKD.out
          refine ⟨by simp, .inl ⟨_, _, rfl, run_takeDeferred HK8, ?_⟩⟩
          exact ⟨_, results_tmp rfl _ _ _, rfl, (HBt.out.trans (HB8.out.mono HDl.out.2.1)).trans ((Below.refl w.heap.size w8).grown (grownBy_putObj' w8 D _) (by have := HB8.out.size; have := HDl.out; omega) (fun k e => by cases e; exact HDl.out.2.2))⟩
        · have gw : decide ((Z.length : Int) > (N : Int)) = false := by simp; omega
          have gw' : decide (N < Z.length) = false := by simp; omega
          have hte : Z.take N = Z := List.take_of_length_le (by omega)
          rw [hte] at hC
          clear hzn hple hlen hte
          have K1 : Hid (Calls Try.prog 17 #[v, .slice Aw Z.length cw] W fun e w' => e = .returned (.bool true) ∧ Below W.heap.size W w') := Lib.hid ((same_any (ownI_lies hC.2.1) hwant (by omega)).mono fun e w' ⟨he, hb⟩ => ⟨by rw [he, decide_eq_true rfl], hb⟩)
          have HBt : Hid (Below w.heap.size w W) := Lib.hid (hC.since (HBw.out.trans (HI5b.out.mono HBw.out.size)) (fun k ho => Nat.le_trans HBw.out.size (HOw.out k ho)) (by have := HF.out.1; have := HWw.out; omega))
          have hv := hC.1
          have hcv := hv.cell
          have HKD := Lib.hid hK
          have hmc : W.cell? ⟨w2.heap.size, 0, none⟩ = some (.int .i64 (N : Int)) := (hC.2.2.2.2.boxed HF.out.2.2.2.2.1.1 HF.out.2.2.2.2.1.2.1 HF.out.2.2.2.2.1.2.2).cell
          have HDl : Hid (D < W.heap.size ∧ w.heap.size ≤ W.heap.size ∧ w.heap.size ≤ D) := Lib.hid ⟨blk_lt hK, HBt.out.size, by have := HBw.out.size; have := HI5b.out.size; omega⟩
          obtain ⟨Av, cv, rfl⟩ := ownI_slice hC.2.1
          generalize Z.length = qv at *
          clear hC hv hK hs2 hwant hD HC5
          gi_wp2
          refine ⟨trivial, ?_⟩
          refine (callsIn_wide.2 K1.out).mono ?_
          rintro e w7 ⟨rfl, hb7⟩
          have K2 := Lib.hid (wakes_any w7)
          have HB7 := Lib.hid hb7
          clear hb7 K1
          gi_wp2
          refine ⟨trivial, ?_⟩
          refine (callsIn_wide.2 K2.out).mono ?_
          rintro e w8 ⟨rfl, hb8⟩
          have HB8 : Hid (Below W.heap.size W w8) := Lib.hid (HB7.out.trans (hb8.mono HB7.out.size))
          clear hb8 K2 HB7
          gi_wp2
          have HK8 : w8.heap[D]? = some (.deferred (some [])) := (HB8.out.block D HDl.out.1).trans HKD.out
          refine ⟨by simp, .inl ⟨_, _, rfl, run_takeDeferred HK8, ?_⟩⟩
          exact ⟨_, results_tmp rfl _ _ _, rfl, (HBt.out.trans (HB8.out.mono HDl.out.2.1)).trans ((Below.refl w.heap.size w8).grown (grownBy_putObj' w8 D _) (by have := HB8.out.size; have := HDl.out; omega) (fun k e => by cases e; exact HDl.out.2.2))⟩
end Go.Proofs.Ytpanhkhiomgclaa.Ba
