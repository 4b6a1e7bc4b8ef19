/- Layer 4: IdsApart's walk. -/
import Derived.Test.YtbknfbobidgkkaaDoorIdP
import Derived.Test.YtbknfbobidgkkaaDoorIdO
import Derived.LoopTactic
namespace Go.Proofs.YtbknfbobidgkkaaDoor
open Go.RowKit Ids Lat

theorem u8_bounds {a : Int} (h : (Lit.int .u8 a).wf = true) : 0 ≤ a ∧ a ≤ 255 := by
  simp [Lit.wf] at h
  exact h

theorem bneT' {a b : Int} (h : a ≠ b) : (a != b) = true := by simpa using h

theorem rank_u8 (r : Int) (_ : 0 ≤ r) (_ : r ≤ 255) (w : World) : Calls Tryd.prog 14 #[.int .i64 (1 + r % 64), .int .i64 0] w (RankGood w (1 + r % 64).toNat) := by
  have h := rank_good (1 + r % 64).toNat w (by omega) (by omega)
  rw [show (((1 + r % 64).toNat : Nat) : Int) = 1 + r % 64 by omega] at h
  exact h

/-- An int that came in. -/
theorem IntsIn.at_ {w : World} {B n : Nat} {A : Option Addr} {X : Nat → Int} (h : IntsIn w B A n X) {k : Nat} (hk : k < n) : ∃ b o, A = some ⟨b, o, none⟩ ∧ b < B ∧ w.cell? ⟨b, o + k, none⟩ = some (.int .i64 (X k)) := by
  obtain ⟨b, o, e, hb, hr⟩ := h (by omega)
  exact ⟨b, o, e, hb, (hr k hk).1⟩

theorem IntsIn.cell {w : World} {B n b o : Nat} {X : Nat → Int} (h : IntsIn w B (some ⟨b, o, none⟩) n X) {k : Nat} (hk : k < n) {x : Int} (hx : X k = x) : w.cell? ⟨b, o + k, none⟩ = some (.int .i64 x) := by
  obtain ⟨b', o', e, _, hr⟩ := h (by omega)
  injection e with e
  injection e with e1 e2
  subst e1 e2
  rw [← hx]
  exact (hr k hk).1

/-- What holds at a round's head. -/
def ApartRel (w : World) (len d c n : Nat) (label : Int) (i : Value) (wr : World) : Prop :=
  ∃ (k : Nat) (T S : Nat → Nat), k ≤ len ∧ i = .int .i64 k ∧ (∀ i, T i ≤ k) ∧ (∀ i, S i ≤ k) ∧ alike n T S label ∧ TwoI w wr w.heap.size d c n T S

set_option maxRecDepth 100000 in
set_option maxHeartbeats 4000000 in
theorem apart_walk (r : Int) (len cap : Nat) (A : Option Addr) (X : Nat → Int) (label : Int) (w : World) (hr : (Lit.int .u8 r).wf = true) (hA : IntsIn w w.heap.size A len X) (hlen : len ≤ 9223372036854775807) (_ : (Lit.int .i64 label).wf = true) (hV : Vars w) :
    Calls Tryd.prog 8 #[.int .u8 r, .slice A len cap, .int .i64 label] w fun e w' => e = .returned (.bool true) ∧ Below w.heap.size w w' := by
  obtain ⟨r0, r1⟩ := u8_bounds hr
  have HA := Lib.hid hA
  have HAw := Lib.hid (awake_any w hV)
  have HR := Lib.hid (rank_u8 r r0 r1)
  clear hr hA hV
  by_cases hl : 500 < len
  · have h1 : decide ((500 : Int) < len) = true := by simp; omega
    clear hl
    go_enter Tryd.func8, Tryd.ntmps8
    go_wp2_with fail
    refine HAw.out.mono ?_
    rintro e w1 ⟨rfl, hb⟩
    have B1 := Lib.hid hb
    clear hb
    go_wp2
    go_ret
    exact ⟨rfl, B1.out⟩
  have h1 : decide ((500 : Int) < len) = false := by simp; omega
  have HL := Lib.hid hl
  clear hl
  go_enter Tryd.func8, Tryd.ntmps8
  go_wp2_with fail
  refine HAw.out.mono ?_
  rintro e w1 ⟨rfl, hb⟩
  have B1 := Lib.hid hb
  clear hb HAw
  go_wp2_with fail
  refine (HR.out _).mono ?_
  generalize hn : (1 + r % 64).toNat = n
  have HN := Lib.hid hn
  clear hn HR
  rintro e w2 ⟨lb, rfl, hlb, hI, hb⟩
  have HI := Lib.hid hI
  have B2 := Lib.hid (B1.out.trans (hb.mono B1.out.size))
  clear hlb hI hb B1
  go_wp2_with fail
  refine (new_any lb n _ _ HI.out).mono ?_
  rintro e w3 ⟨d, g, rfl, hd, hg, hI, hb⟩
  have HM : Hid (MineI w w3 w.heap.size d n (fun _ => 0)) := Lib.hid ⟨⟨g, hI, Nat.le_trans B2.out.size hg⟩, Nat.le_trans B2.out.size hd, B2.out.trans (hb.mono B2.out.size), Nat.le_trans B2.out.size hb.size⟩
  have HI3 := Lib.hid (HI.out.below hb (Nat.le_refl _))
  clear hd hg hI hb HI B2
  go_wp2_with fail
  refine (two_new HI3.out HM.out).mono ?_
  rintro e w4 ⟨c, rfl, hT⟩
  have HT := Lib.hid hT
  clear hT HI3 HM
  go_wp2_with fail
  go_loopw [11] (fun i wr => ApartRel w len d c n label i wr) (fun i _ => len - (intOf i).toNat)
  case atStart => exact ⟨0, _, _, Nat.zero_le _, rfl, fun _ => Nat.le_refl _, fun _ => Nat.le_refl _, fun _ => rfl, HT.out⟩
  case round =>
    obtain ⟨k, T, S, hk, rfl, hT, hS, hU, hP⟩ := hrel
    clear HT
    have KT := Lib.hid hT
    have KS := Lib.hid hS
    have KU := Lib.hid hU
    have HP := Lib.hid hP
    have hints := HA.out.below hP.old
    clear hT hS hU hP
    by_cases hlt : k < len
    · obtain ⟨b, o, rfl, -, x0⟩ := hints.at_ hlt
      generalize hx : X k = x at x0
      have HX := Lib.hid hx
      have HB1 := Lib.hid (show k ≤ 1000000 by have := HL.out; omega)
      clear hints hx
      by_cases he : x = label
      · subst he
        have H1 := Lib.hid (two_left x HP.out (fun i => Nat.le_trans (KT.out i) HB1.out) rfl rfl)
        go_wp2_with fail
        refine H1.out.mono ?_
        rintro e w5 ⟨rfl, hP⟩
        have H2 := Lib.hid (two_right x hP (fun i => Nat.le_trans (KS.out i) HB1.out) (alike_ans KU.out).symm rfl)
        have hints := HA.out.below hP.old
        clear hP H1 x0
        have x0 := hints.cell hlt HX.out
        clear hints
        go_wp2_with fail
        refine H2.out.mono ?_
        rintro e w6 ⟨rfl, hP⟩
        have HP2 := Lib.hid hP
        clear hP H2 x0
        go_wp2_with fail
        go_roundw
        case rel => exact ⟨k + 1, _, _, by omega, by go_num, moreA_le KT.out, moreA_le KS.out, alike_both KU.out, HP2.out⟩
        case measure => simp [intOf]; omega
      · have he' := bneT' he
        have HE := Lib.hid he
        clear he
        have H1 := Lib.hid (two_left x HP.out (fun i => Nat.le_trans (KT.out i) HB1.out) rfl rfl)
        go_wp2_with fail
        refine H1.out.mono ?_
        rintro e w5 ⟨rfl, hP⟩
        have HP2 := Lib.hid hP
        have hints := HA.out.below hP.old
        clear hP H1 x0
        have x0 := hints.cell hlt HX.out
        clear hints
        go_wp2_with fail
        go_roundw
        case rel => exact ⟨k + 1, _, _, by omega, by go_num, moreA_le KT.out, fun i => Nat.le_trans (KS.out i) (Nat.le_succ k), alike_other KU.out HE.out, HP2.out⟩
        case measure => simp [intOf]; omega
    · clear hints
      go_wp2_with fail
      refine (two_given label HP.out rfl).mono ?_
      rintro e w5 ⟨rfl, rfl⟩
      go_wp2_with fail
      refine (two_given' label HP.out (alike_ans KU.out).symm).mono ?_
      rintro e w5 ⟨rfl, rfl⟩
      go_wp2_with fail
      go_ret
      exact ⟨rfl, HP.out.old⟩

end Go.Proofs.YtbknfbobidgkkaaDoor
