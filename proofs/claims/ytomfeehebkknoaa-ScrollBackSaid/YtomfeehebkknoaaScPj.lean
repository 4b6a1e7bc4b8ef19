/- Layer 13: the program's Insert, Delete, Fresh. -/
import Derived.Test.YtomfeehebkknoaaScPi
set_option linter.unusedVariables false
namespace Go.Proofs.Ytomfeehebkknoaa.Rw
open Go.RowKit

theorem down_zero (ls : Ls) (t b : Int) (f : List Ce) : downO ls t b 0 f = ls := by
  unfold downO
  have : okB ls.length t b 0 = false := by unfold okB; simp
  rw [this]
  rfl
theorem up_zero (ls : Ls) (t b : Int) (f : List Ce) : upO ls t b 0 f = ls := by
  unfold upO
  have : okB ls.length t b 0 = false := by unfold okB; simp
  rw [this]
  rfl
theorem TwoPost.box {w W : World} {l1 l2 : Ls} {e : Ending} {w' : World} (h : TwoPost W l1 l2 e w') (hb : Below w.heap.size w W) : ∃ o g, e = .returned (.tuple #[o, g]) ∧ OnePost w l1 (.returned o) w' := by
  obtain ⟨o, g, F1, F2, rfl, h1, h2, -, -, h3, -, h4⟩ := h
  exact ⟨o, g, rfl, o, F1, rfl, h1, h2, fun b hF => ⟨Nat.le_trans hb.size (h3 b hF).1, (h3 b hF).2.1⟩, hb.trans (h4.mono hb.size)⟩

section
variable {F : Nat → Prop} {w : World} {v : Value} {ls : Ls} (h : TabAt F w v ls) (hl : ls.length ≤ 100000) (hw : wideL ls)
include h hl hw
set_option maxRecDepth 100000 in
set_option maxHeartbeats 4000000 in
theorem ins_any (y t b n wd : Int) (a : Aa) (hy : IntIn y) (ht : IntIn t) (hb : IntIn b) (hn : IntIn n) (hwd : IntIn wd) : Calls Try.prog 12 #[v, .int .i64 y, .int .i64 t, .int .i64 b, .int .i64 n, .int .i64 wd, attrV a] w (OnePost w (insO ls y t b n (freshC wd a))) := by
  obtain ⟨A, c, rfl, -⟩ := id h
  obtain ⟨W, hW, hB, hs, hat⟩ := box_at w a
  have hat1 := hat W (Below.refl _ _)
  have KD := fun (n : Int) (hn : IntIn n) => down_any (h.below hB) hl hw y b n wd a hy hb hn hwd
  have KW := Lib.hid (within_any A ls.length c y t b W)
  have HW := Lib.hid hW
  have HB := Lib.hid hB
  obtain ⟨B, hBq⟩ : ∃ B, B = w.heap.size := ⟨_, rfl⟩
  rw [← hBq] at hat1
  have HBq := Lib.hid hBq
  have a0 := cell_of hat1 0
  have a1 := cell_of hat1 1
  have a2 := cell_of hat1 2
  have a3 := cell_of hat1 3
  have a4 := cell_of hat1 4
  unfold insO
  cases hi : inB ls.length y t b with
  | true =>
    rw [hi] at KW
    rw [if_pos rfl]
    have K := Lib.hid (KD n hn)
    clear KD h hl hw hW hB hs hat hat1 hBq hi hy ht hb hn hwd
    generalize downO ls y b n (freshC wd a) = LD at *
    generalize ls.length = n0 at *
    go_enter Try.func12, Try.ntmps12
    go_upto_region 1 with fail
    change Code.wp _ _ _ _ (w.alloc (attrO a))
    rw [← HW.out, ← HBq.out]
    go_wp2_with fail
    refine (show Calls _ _ _ _ _ from KW.out).mono ?_
    rintro e w1 ⟨rfl, rfl⟩
    clear KW
    go_wp2_with fail
    refine (show Calls _ _ _ _ _ from K.out).mono ?_
    intro e w2 hp
    obtain ⟨o, g, rfl, ho⟩ := hp.box HB.out
    have HO := Lib.hid ho
    clear hp ho K a0 a1 a2 a3 a4
    go_wp2
    go_ret
    exact HO.out
  | false =>
    rw [hi] at KW
    rw [if_neg (by decide)]
    have K := KD 0 (by unfold IntIn; decide)
    rw [down_zero] at K
    have K := Lib.hid K
    clear KD h hl hw hW hB hs hat hat1 hBq hi hy ht hb hn hwd
    generalize downG ls y b 0 = LG at *
    obtain ⟨n0, hn0⟩ : ∃ n0, n0 = ls.length := ⟨_, rfl⟩
    rw [← hn0] at K KW ⊢
    clear hn0
    go_enter Try.func12, Try.ntmps12
    go_upto_region 1 with fail
    change Code.wp _ _ _ _ (w.alloc (attrO a))
    rw [← HW.out, ← HBq.out]
    go_wp2_with fail
    refine (show Calls _ _ _ _ _ from KW.out).mono ?_
    rintro e w1 ⟨rfl, rfl⟩
    clear KW
    go_wp2_with fail
    refine (show Calls _ _ _ _ _ from K.out).mono ?_
    intro e w2 hp
    obtain ⟨o, g, rfl, ho⟩ := hp.box HB.out
    have HO := Lib.hid ho
    clear hp ho K a0 a1 a2 a3 a4
    go_wp2
    go_ret
    exact HO.out
set_option maxRecDepth 100000 in
set_option maxHeartbeats 4000000 in
theorem del_any (y t b n wd : Int) (a : Aa) (hy : IntIn y) (ht : IntIn t) (hb : IntIn b) (hn : IntIn n) (hwd : IntIn wd) : Calls Try.prog 13 #[v, .int .i64 y, .int .i64 t, .int .i64 b, .int .i64 n, .int .i64 wd, attrV a] w (OnePost w (delO ls y t b n (freshC wd a))) := by
  obtain ⟨A, c, rfl, -⟩ := id h
  obtain ⟨W, hW, hB, hs, hat⟩ := box_at w a
  have hat1 := hat W (Below.refl _ _)
  have KD := fun (n : Int) (hn : IntIn n) => up_any (h.below hB) hl hw y b n wd a hy hb hn hwd
  have KW := Lib.hid (within_any A ls.length c y t b W)
  have HW := Lib.hid hW
  have HB := Lib.hid hB
  obtain ⟨B, hBq⟩ : ∃ B, B = w.heap.size := ⟨_, rfl⟩
  rw [← hBq] at hat1
  have HBq := Lib.hid hBq
  have a0 := cell_of hat1 0
  have a1 := cell_of hat1 1
  have a2 := cell_of hat1 2
  have a3 := cell_of hat1 3
  have a4 := cell_of hat1 4
  unfold delO
  cases hi : inB ls.length y t b with
  | true =>
    rw [hi] at KW
    rw [if_pos rfl]
    have K := Lib.hid (KD n hn)
    clear KD h hl hw hW hB hs hat hat1 hBq hi hy ht hb hn hwd
    generalize upO ls y b n (freshC wd a) = LD at *
    generalize ls.length = n0 at *
    go_enter Try.func13, Try.ntmps13
    go_upto_region 1 with fail
    change Code.wp _ _ _ _ (w.alloc (attrO a))
    rw [← HW.out, ← HBq.out]
    go_wp2_with fail
    refine (show Calls _ _ _ _ _ from KW.out).mono ?_
    rintro e w1 ⟨rfl, rfl⟩
    clear KW
    go_wp2_with fail
    refine (show Calls _ _ _ _ _ from K.out).mono ?_
    intro e w2 hp
    obtain ⟨o, g, rfl, ho⟩ := hp.box HB.out
    have HO := Lib.hid ho
    clear hp ho K a0 a1 a2 a3 a4
    go_wp2
    go_ret
    exact HO.out
  | false =>
    rw [hi] at KW
    rw [if_neg (by decide)]
    have K := KD 0 (by unfold IntIn; decide)
    rw [up_zero] at K
    have K := Lib.hid K
    clear KD h hl hw hW hB hs hat hat1 hBq hi hy ht hb hn hwd
    generalize upG ls y b 0 = LG at *
    obtain ⟨n0, hn0⟩ : ∃ n0, n0 = ls.length := ⟨_, rfl⟩
    rw [← hn0] at K KW ⊢
    clear hn0
    go_enter Try.func13, Try.ntmps13
    go_upto_region 1 with fail
    change Code.wp _ _ _ _ (w.alloc (attrO a))
    rw [← HW.out, ← HBq.out]
    go_wp2_with fail
    refine (show Calls _ _ _ _ _ from KW.out).mono ?_
    rintro e w1 ⟨rfl, rfl⟩
    clear KW
    go_wp2_with fail
    refine (show Calls _ _ _ _ _ from K.out).mono ?_
    intro e w2 hp
    obtain ⟨o, g, rfl, ho⟩ := hp.box HB.out
    have HO := Lib.hid ho
    clear hp ho K a0 a1 a2 a3 a4
    go_wp2
    go_ret
    exact HO.out
end
theorem fresh_any (h wd : Int) (a : Aa) (w : World) (hh : IntIn h) (hwd : IntIn wd) : Calls Try.prog 11 #[.int .i64 h, .int .i64 wd, attrV a] w (OnePost w (freshT h wd a)) := by
  refine (freshP_any h wd a w).mono ?_
  rintro e w' ⟨v, us, rfl, ho, hb⟩
  have h2 := ho.at_ (F := fun b => w.heap.size ≤ b ∧ b < w'.heap.size) fun b h h' => ⟨h, h'⟩
  exact ⟨v, _, rfl, h2.1, h2.2, fun b hF => hF, hb⟩
end Go.Proofs.Ytomfeehebkknoaa.Rw
