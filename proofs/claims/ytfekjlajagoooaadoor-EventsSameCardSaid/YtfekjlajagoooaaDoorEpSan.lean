/- Layer 8: EventsSame's walk where all fields are alike; the law (written by gen_epsan.py). -/
import Derived.Test.YtfekjlajagoooaaDoorEpSam
set_option linter.unusedVariables false
namespace Go.Proofs.YtfekjlajagoooaaDoor
open Go.RowKit Ev

def AllB (b : Bool) (n : Nat) (L M : Nat → Nat) (T U : Nat → Nat → Int) (k : Nat) : Prop := gridB n L M T U 0 = if b then gridB n L M T U k else false
def RowAB (b : Bool) (n : Nat) (f g : Nat → Int) (k : Nat) : Prop := rowB n f g 0 = if b then rowB n f g k else false

set_option maxRecDepth 100000 in
set_option maxHeartbeats 4000000 in
theorem esame_all (k1 r1 f1 : Int) (m1 x1 : ByteArray) (A1 : Option Addr) (n1 c1 : Nat) (L : Nat → Nat) (T : Nat → Nat → Int) (A2 : Option Addr) (c2 : Nat) (M : Nat → Nat) (U : Nat → Nat → Int) (w : World) (g1 : GridW w A1 n1 L T) (g2 : GridW w A2 n1 M U) (hn1 : n1 ≤ 9223372036854775807) (hT : D5.Tabs w) (h0 : n1 ≤ 100) (ez : decide (3000 < wrap64 (wrap64 (wrap64 ((m1.size : Int) + (m1.size : Int)) + (x1.size : Int)) + (x1.size : Int))) = false) : Calls Tryd.prog 6 #[.agg #[.int .i64 k1, .int .i32 r1, .int .u8 f1, .string m1, .slice A1 n1 c1, .string x1], .agg #[.int .i64 k1, .int .i32 r1, .int .u8 f1, .string m1, .slice A2 n1 c2, .string x1]] w fun e w' => e = .returned (.bool true) ∧ Below w.heap.size w w' := by
  have e1 : decide ((n1 : Int) > 100) = false := by simp; omega
  have e1' : decide ((100 : Int) < n1) = false := by simp; omega
  have em := str_eq m1
  have ex := str_eq x1
  have HA := Lib.hid (TwoE.start (k1 := k1) (r1 := r1) (f1 := f1) (m1 := m1) (x1 := x1) (c1 := c1) (k2 := k1) (r2 := r1) (f2 := f1) (m2 := m1) (x2 := x1) (c2 := c2) g1 g2 hn1 hn1 hT).awake
  clear g1 g2 hT
  clear h0
  go_enter Tryd.func6, Tryd.ntmps6
  go_wp2_with fail
  refine (show Calls _ _ _ _ _ from HA.out).mono ?_
  rintro e w1 ⟨rfl, h1⟩
  have H1 := Lib.hid h1
  obtain ⟨a0, a1, a2, a3, a4, a5⟩ := in_open h1.ba
  obtain ⟨b0, b1, b2, b3, b4, b5⟩ := in_open h1.bb
  clear h1 HA
  clear a0 a1 a2 a3 a4 a5 b0 b1 b2 b3 b4 b5
  have HSV : Hid (∀ b, gridB n1 L M T U 0 = b → sameV k1 k1 r1 r1 f1 f1 m1 m1 x1 x1 (gridsB n1 n1 L M T U) = b) := Lib.hid fun b h => by rw [show gridsB n1 n1 L M T U = b by simpa [gridsB] using h]; simp [sameV]
  have HSW : Hid (∀ b, gridB n1 L M T U 0 = b → sameV k1 k1 r1 r1 f1 f1 m1 m1 x1 x1 (gridsB n1 n1 M L U T) = b) := Lib.hid fun b h => by rw [gridsB_sym, show gridsB n1 n1 L M T U = b by simpa [gridsB] using h]; simp [sameV]
  obtain ⟨a0, a1, a2, a3, a4, a5⟩ := in_open H1.out.ba
  obtain ⟨b0, b1, b2, b3, b4, b5⟩ := in_open H1.out.bb
  go_wp2
  clear a0 a1 a2 a3 a4 a5 b0 b1 b2 b3 b4 b5
  go_loopw [5, 6] (fun al i wr => ∃ (k : Nat) (b : Bool), k ≤ n1 ∧ al = .bool b ∧ i = .int .i64 k ∧ Hid (TwoE w wr k1 r1 f1 m1 x1 A1 n1 c1 L T k1 r1 f1 m1 x1 A2 n1 c2 M U) ∧ Hid (AllB b n1 L M T U k)) (fun _ i _ => n1 - (RowKit.intOf i).toNat)
  case atStart => exact ⟨0, true, Nat.zero_le _, rfl, rfl, H1, Lib.hid rfl⟩
  case round =>
    obtain ⟨k, b, hk, rfl, rfl, HX, HAl⟩ := hrel
    clear H1
    have H1 := HX
    by_cases hlt : k < n1
    case neg =>
      obtain rfl : k = n1 := by omega
      cases b with
      | false =>
        have hv : gridB k L M T U 0 = false := HAl.out

        obtain ⟨a0, a1, a2, a3, a4, a5⟩ := in_open HX.out.ba
        obtain ⟨b0, b1, b2, b3, b4, b5⟩ := in_open HX.out.bb
        have HSab := Lib.hid (HX.out.ab false (HSV.out _ hv))
        clear H1
        go_wp2_with fail
        refine (show Calls _ _ _ _ _ from HSab.out).mono ?_
        rintro e v1 ⟨rfl, hv1⟩
        have HV1 := Lib.hid hv1
        clear a0 a1 a2 a3 a4 a5 b0 b1 b2 b3 b4 b5 HSab
        obtain ⟨a0, a1, a2, a3, a4, a5⟩ := in_open hv1.ba
        obtain ⟨b0, b1, b2, b3, b4, b5⟩ := in_open hv1.bb
        have HSba := Lib.hid (hv1.ba_ false (HSW.out _ hv))
        clear hv1
        go_wp2_with fail
        refine (show Calls _ _ _ _ _ from HSba.out).mono ?_
        rintro e v2 ⟨rfl, hv2⟩
        have HV2 := Lib.hid hv2
        clear a0 a1 a2 a3 a4 a5 b0 b1 b2 b3 b4 b5 HSba HV1
        obtain ⟨a0, a1, a2, a3, a4, a5⟩ := in_open hv2.ba
        have HSaa := Lib.hid hv2.aa
        clear hv2
        go_wp2_with fail
        refine (show Calls _ _ _ _ _ from HSaa.out).mono ?_
        rintro e v3 ⟨rfl, hv3⟩
        have HV3 := Lib.hid hv3.old
        clear hv3 HSaa a0 a1 a2 a3 a4 a5 HV2
        go_wp2
        go_ret
        exact ⟨rfl, HV3.out⟩

      | true =>
        have hv : gridB k L M T U 0 = true := by have h := HAl.out; unfold AllB at h; rw [h, if_pos rfl, gridB_end (by omega)]

        obtain ⟨a0, a1, a2, a3, a4, a5⟩ := in_open HX.out.ba
        obtain ⟨b0, b1, b2, b3, b4, b5⟩ := in_open HX.out.bb
        have HSab := Lib.hid (HX.out.ab true (HSV.out _ hv))
        clear H1
        go_wp2_with fail
        refine (show Calls _ _ _ _ _ from HSab.out).mono ?_
        rintro e v1 ⟨rfl, hv1⟩
        have HV1 := Lib.hid hv1
        clear a0 a1 a2 a3 a4 a5 b0 b1 b2 b3 b4 b5 HSab
        obtain ⟨a0, a1, a2, a3, a4, a5⟩ := in_open hv1.ba
        obtain ⟨b0, b1, b2, b3, b4, b5⟩ := in_open hv1.bb
        have HSba := Lib.hid (hv1.ba_ true (HSW.out _ hv))
        clear hv1
        go_wp2_with fail
        refine (show Calls _ _ _ _ _ from HSba.out).mono ?_
        rintro e v2 ⟨rfl, hv2⟩
        have HV2 := Lib.hid hv2
        clear a0 a1 a2 a3 a4 a5 b0 b1 b2 b3 b4 b5 HSba HV1
        obtain ⟨a0, a1, a2, a3, a4, a5⟩ := in_open hv2.ba
        have HSaa := Lib.hid hv2.aa
        clear hv2
        go_wp2_with fail
        refine (show Calls _ _ _ _ _ from HSaa.out).mono ?_
        rintro e v3 ⟨rfl, hv3⟩
        have HV3 := Lib.hid hv3.old
        clear hv3 HSaa a0 a1 a2 a3 a4 a5 HV2
        go_wp2
        go_ret
        exact ⟨rfl, HV3.out⟩

    cases b with
    | false =>
      have hv : gridB n1 L M T U 0 = false := HAl.out

      obtain ⟨a0, a1, a2, a3, a4, a5⟩ := in_open HX.out.ba
      obtain ⟨b0, b1, b2, b3, b4, b5⟩ := in_open HX.out.bb
      have HSab := Lib.hid (HX.out.ab false (HSV.out _ hv))
      clear H1
      go_wp2_with fail
      refine (show Calls _ _ _ _ _ from HSab.out).mono ?_
      rintro e v1 ⟨rfl, hv1⟩
      have HV1 := Lib.hid hv1
      clear a0 a1 a2 a3 a4 a5 b0 b1 b2 b3 b4 b5 HSab
      obtain ⟨a0, a1, a2, a3, a4, a5⟩ := in_open hv1.ba
      obtain ⟨b0, b1, b2, b3, b4, b5⟩ := in_open hv1.bb
      have HSba := Lib.hid (hv1.ba_ false (HSW.out _ hv))
      clear hv1
      go_wp2_with fail
      refine (show Calls _ _ _ _ _ from HSba.out).mono ?_
      rintro e v2 ⟨rfl, hv2⟩
      have HV2 := Lib.hid hv2
      clear a0 a1 a2 a3 a4 a5 b0 b1 b2 b3 b4 b5 HSba HV1
      obtain ⟨a0, a1, a2, a3, a4, a5⟩ := in_open hv2.ba
      have HSaa := Lib.hid hv2.aa
      clear hv2
      go_wp2_with fail
      refine (show Calls _ _ _ _ _ from HSaa.out).mono ?_
      rintro e v3 ⟨rfl, hv3⟩
      have HV3 := Lib.hid hv3.old
      clear hv3 HSaa a0 a1 a2 a3 a4 a5 HV2
      go_wp2
      go_ret
      exact ⟨rfl, HV3.out⟩

    | true =>
      obtain ⟨a0, a1, a2, a3, a4, a5⟩ := in_open HX.out.ba
      obtain ⟨b0, b1, b2, b3, b4, b5⟩ := in_open HX.out.bb
      obtain ⟨p, A3, C3, rfl, cp, l1, r1w⟩ := HX.out.g1 k hlt
      obtain ⟨q, A4, C4, rfl, cq, l2, r2w⟩ := HX.out.g2 k hlt
      have HR := Lib.hid (And.intro r1w r2w)
      obtain ⟨l, hl⟩ : ∃ l, l = L k := ⟨_, rfl⟩
      obtain ⟨m, hm⟩ : ∃ m, m = M k := ⟨_, rfl⟩
      have HLM := Lib.hid (And.intro hl hm)
      rw [← hl] at cp l1
      rw [← hm] at cq l2
      clear r1w r2w hl hm a0 a1 a2 a3 a5 b0 b1 b2 b3 b5 H1
      by_cases hl1 : l ≤ 100
      case neg =>
        have z1 : decide ((l : Int) > 100) = true := by simp; omega
        have z1' : decide ((100 : Int) < l) = true := by simp; omega
        go_wp2
        go_ret
        exact ⟨rfl, HX.out.old⟩
      by_cases hl2 : m ≤ 100
      case neg =>
        have z1 : decide ((l : Int) > 100) = false := by simp; omega
        have z1' : decide ((100 : Int) < l) = false := by simp; omega
        have z2 : decide ((m : Int) > 100) = true := by simp; omega
        have z2' : decide ((100 : Int) < m) = true := by simp; omega
        go_wp2
        go_ret
        exact ⟨rfl, HX.out.old⟩
      have z1 : decide ((l : Int) > 100) = false := by simp; omega
      have z1' : decide ((100 : Int) < l) = false := by simp; omega
      have z2 : decide ((m : Int) > 100) = false := by simp; omega
      have z2' : decide ((100 : Int) < m) = false := by simp; omega
      have a4' : ∀ i : Nat, (wr.drewN i).cell? ⟨w.heap.size, 4, none⟩ = some (.slice (some p) n1 c1) := fun _ => a4
      have b4' : ∀ i : Nat, (wr.drewN i).cell? ⟨w.heap.size + 1, 4, none⟩ = some (.slice (some q) n1 c2) := fun _ => b4
      have cp' : ∀ i : Nat, (wr.drewN i).cell? (p.add k) = some (.slice A3 l C3) := fun _ => cp
      have cq' : ∀ i : Nat, (wr.drewN i).cell? (q.add k) = some (.slice A4 m C4) := fun _ => cq
      clear hl1 hl2
      by_cases hlm : l = m
      case neg =>
        have d1 : ((l : Int) == (m : Int)) = false := by simp; omega
        have HV : Hid (AllB false n1 L M T U (k + 1)) := Lib.hid (by
          have h := HAl.out
          unfold AllB at h ⊢
          rw [h, if_pos rfl, gridB_no hlt (by rw [← HLM.out.1, ← HLM.out.2]; simp [rowsB, hlm])]
          rfl)
        go_wp2
        try (go_quiet (fail); go_wp2)
        go_loopw [5, 7] (fun al t w2 => ∃ j : Nat, al = .bool false ∧ t = .int .i64 0 ∧ w2 = wr.drewN j) (fun _ _ _ => 0)
        case atStart => first | exact ⟨_, rfl, rfl, rfl⟩ | exact ⟨0, rfl, rfl, rfl⟩
        case round =>
          obtain ⟨j, rfl, rfl, rfl⟩ := hrel
          have HXj := Lib.hid (HX.out.below (below_drew (Below.refl _ _) j))
          by_cases hz : l = 0
          · subst hz
            go_wp2
            go_roundw
            case rel => exact ⟨k + 1, false, by omega, rfl, by go_num, HXj, HV⟩
            case measure => simp [RowKit.intOf]; omega
          · have z3 : decide (0 < l) = true := by simp; omega
            have z4 : decide ((0 : Int) < l) = true := by simp; omega
            go_wp2
            go_roundw
            case rel => exact ⟨k + 1, false, by omega, rfl, by go_num, HXj, HV⟩
            case measure => simp [RowKit.intOf]; omega
      subst hlm
      have d1 : ((l : Int) == (l : Int)) = true := by simp
      go_wp2
      try (go_quiet (fail); go_wp2)
      go_loopw [5, 7] (fun al t w2 => ∃ (s j : Nat) (bb : Bool), s ≤ l ∧ al = .bool bb ∧ t = .int .i64 s ∧ w2 = wr.drewN j ∧ Hid (RowAB bb l (T k) (U k) s)) (fun _ t _ => l - (RowKit.intOf t).toNat)
      case atStart => first | exact ⟨0, _, true, Nat.zero_le _, rfl, rfl, rfl, Lib.hid rfl⟩ | exact ⟨0, 0, true, Nat.zero_le _, rfl, rfl, rfl, Lib.hid rfl⟩
      case round =>
        obtain ⟨s, j, bb, hsl, rfl, rfl, rfl, HRow⟩ := hrel
        have HXj := Lib.hid (HX.out.below (below_drew (Below.refl _ _) j))
        by_cases hst : s < l
        case neg =>
          obtain rfl : s = l := by omega
          cases bb with
          | false =>
            have HV : Hid (AllB false n1 L M T U (k + 1)) := Lib.hid (by
              have h := HAl.out
              have h2 := HRow.out
              unfold AllB at h ⊢
              unfold RowAB at h2
              rw [h, if_pos rfl, gridB_no hlt (by rw [← HLM.out.1, ← HLM.out.2]; unfold rowsB; rw [if_pos rfl, h2]; rfl)]
              rfl)
            go_wp2
            go_roundw
            case rel => exact ⟨k + 1, false, by omega, rfl, by go_num, HXj, HV⟩
            case measure => simp [RowKit.intOf]; omega
          | true =>
            have HV : Hid (AllB true n1 L M T U (k + 1)) := Lib.hid (by
              have h := HAl.out
              have h2 := HRow.out
              unfold AllB at h ⊢
              unfold RowAB at h2
              rw [if_pos rfl] at h2
              rw [h, if_pos rfl, gridB_go hlt (by rw [← HLM.out.1, ← HLM.out.2]; unfold rowsB; rw [if_pos rfl, h2, rowB_end (by omega)])]
              rfl)
            go_wp2
            go_roundw
            case rel => exact ⟨k + 1, true, by omega, rfl, by go_num, HXj, HV⟩
            case measure => simp [RowKit.intOf]; omega
        cases bb with
        | false =>
          have HV : Hid (AllB false n1 L M T U (k + 1)) := Lib.hid (by
            have h := HAl.out
            have h2 := HRow.out
            unfold AllB at h ⊢
            unfold RowAB at h2
            rw [h, if_pos rfl, gridB_no hlt (by rw [← HLM.out.1, ← HLM.out.2]; unfold rowsB; rw [if_pos rfl, h2]; rfl)]
            rfl)
          go_wp2
          go_roundw
          case rel => exact ⟨k + 1, false, by omega, rfl, by go_num, HXj, HV⟩
          case measure => simp [RowKit.intOf]; omega
        | true =>
          obtain ⟨pa, rfl, ca⟩ := HR.out.1 s (by rw [← HLM.out.1]; exact hst)
          obtain ⟨pb, rfl, cb⟩ := HR.out.2 s (by rw [← HLM.out.2]; exact hst)
          obtain ⟨xa, hxa⟩ : ∃ x, x = T k s := ⟨_, rfl⟩
          obtain ⟨xb, hxb⟩ : ∃ x, x = U k s := ⟨_, rfl⟩
          rw [← hxa] at ca
          rw [← hxb] at cb
          have ca' : ∀ i : Nat, (wr.drewN i).cell? (pa.add s) = some (.int .i64 xa) := fun _ => ca
          have cb' : ∀ i : Nat, (wr.drewN i).cell? (pb.add s) = some (.int .i64 xb) := fun _ => cb
          by_cases hx : xa = xb
          · have dx : (xa == xb) = true := by simpa using hx
            have HRn : Hid (RowAB true l (T k) (U k) (s + 1)) := Lib.hid (by
              have h2 := HRow.out
              unfold RowAB at h2 ⊢
              rw [h2, if_pos rfl, rowB_go hst (by rw [← hxa, ← hxb]; exact hx)]
              rfl)
            subst hx
            clear hxa hxb HRow ca cb dx
            go_wp2
            try (go_quiet (fail); go_wp2)
            go_roundw
            case rel => first | exact ⟨s + 1, _, true, by omega, rfl, by go_num, rfl, HRn⟩ | exact ⟨s + 1, _, true, by omega, by simp, by go_num, rfl, HRn⟩
            case measure => simp [RowKit.intOf]; omega
          · have dx : (xa == xb) = false := by simpa using hx
            have HRn : Hid (RowAB false l (T k) (U k) (s + 1)) := Lib.hid (by
              have h2 := HRow.out
              unfold RowAB at h2 ⊢
              rw [h2, if_pos rfl, rowB_no hst (by rw [← hxa, ← hxb]; exact hx)]
              rfl)
            clear hxa hxb HRow ca cb hx
            go_wp2
            try (go_quiet (fail); go_wp2)
            go_roundw
            case rel => first | exact ⟨s + 1, _, false, by omega, rfl, by go_num, rfl, HRn⟩ | exact ⟨s + 1, _, false, by omega, by simp, by go_num, rfl, HRn⟩
            case measure => simp [RowKit.intOf]; omega

theorem esame_walk (k1 r1 f1 : Int) (m1 x1 : ByteArray) (A1 : Option Addr) (n1 c1 : Nat) (L : Nat → Nat) (T : Nat → Nat → Int) (k2 r2 f2 : Int) (m2 x2 : ByteArray) (A2 : Option Addr) (n2 c2 : Nat) (M : Nat → Nat) (U : Nat → Nat → Int) (w : World)
    (_ : m1.size ≤ 9223372036854775807) (_ : x1.size ≤ 9223372036854775807) (hn1 : n1 ≤ 9223372036854775807) (g1 : GridW w A1 n1 L T) (_ : m2.size ≤ 9223372036854775807) (_ : x2.size ≤ 9223372036854775807) (hn2 : n2 ≤ 9223372036854775807) (g2 : GridW w A2 n2 M U) (hT : D5.Tabs w) :
    Calls Tryd.prog 6 #[.agg #[.int .i64 k1, .int .i32 r1, .int .u8 f1, .string m1, .slice A1 n1 c1, .string x1], .agg #[.int .i64 k2, .int .i32 r2, .int .u8 f2, .string m2, .slice A2 n2 c2, .string x2]] w fun e w' => e = .returned (.bool true) ∧ Below w.heap.size w w' := by
  by_cases h1 : n1 ≤ 100
  case neg => exact esame_n1 k1 r1 f1 m1 x1 A1 n1 c1 L T k2 r2 f2 m2 x2 A2 n2 c2 M U w g1 g2 hn1 hn2 hT (by omega)
  by_cases h2 : n2 ≤ 100
  case neg => exact esame_n2 k1 r1 f1 m1 x1 A1 n1 c1 L T k2 r2 f2 m2 x2 A2 n2 c2 M U w g1 g2 hn1 hn2 hT h1 (by omega)
  cases ez : decide (3000 < wrap64 (wrap64 (wrap64 ((m1.size : Int) + (m2.size : Int)) + (x1.size : Int)) + (x2.size : Int))) with
  | true => exact esame_sum k1 r1 f1 m1 x1 A1 n1 c1 L T k2 r2 f2 m2 x2 A2 n2 c2 M U w g1 g2 hn1 hn2 hT h1 h2 ez
  | false =>
    by_cases q0 : k1 = k2
    case neg => exact esame_kind k1 r1 f1 m1 x1 A1 n1 c1 L T k2 r2 f2 m2 x2 A2 n2 c2 M U w g1 g2 hn1 hn2 hT h1 h2 ez q0
    by_cases q1 : r1 = r2
    case neg => exact esame_rune k1 r1 f1 m1 x1 A1 n1 c1 L T k2 r2 f2 m2 x2 A2 n2 c2 M U w g1 g2 hn1 hn2 hT h1 h2 ez q0 q1
    by_cases q2 : f1 = f2
    case neg => exact esame_final k1 r1 f1 m1 x1 A1 n1 c1 L T k2 r2 f2 m2 x2 A2 n2 c2 M U w g1 g2 hn1 hn2 hT h1 h2 ez q0 q1 q2
    by_cases q3 : m1 = m2
    case neg => exact esame_mids k1 r1 f1 m1 x1 A1 n1 c1 L T k2 r2 f2 m2 x2 A2 n2 c2 M U w g1 g2 hn1 hn2 hT h1 h2 ez q0 q1 q2 q3
    by_cases q4 : x1 = x2
    case neg => exact esame_text k1 r1 f1 m1 x1 A1 n1 c1 L T k2 r2 f2 m2 x2 A2 n2 c2 M U w g1 g2 hn1 hn2 hT h1 h2 ez q0 q1 q2 q3 q4
    by_cases q5 : n1 = n2
    case neg => exact esame_len k1 r1 f1 m1 x1 A1 n1 c1 L T k2 r2 f2 m2 x2 A2 n2 c2 M U w g1 g2 hn1 hn2 hT h1 h2 ez q0 q1 q2 q3 q4 q5
    subst q0 q1 q2 q3 q4 q5
    exact esame_all k1 r1 f1 m1 x1 A1 n1 c1 L T A2 c2 M U w g1 g2 hn1 hT h1 ez
end Go.Proofs.YtfekjlajagoooaaDoor
