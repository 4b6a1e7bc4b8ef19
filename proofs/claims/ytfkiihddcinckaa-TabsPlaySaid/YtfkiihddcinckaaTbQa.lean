/- Layer 12: TabsPlay. -/
import Derived.Test.YtfkiihddcinckaaTbQ
set_option linter.unusedVariables false
namespace Go.Proofs.Ytfkiihddcinckaa.Tb
open Go.RowKit

theorem play_more (W0 : Int) (A : Option Addr) (len cap : Nat) (w : World) (hg : 80 < len) : Calls Try.prog 3 #[.int .i64 W0, .slice A len cap] w fun e w' => e = .returned (.bool true) ∧ Below w.heap.size w w' := by
  have HWk : Hid (∀ V, Calls Try.prog 9 #[] V fun e w' => e = .returned (.bool true) ∧ Below V.heap.size V w') := Lib.hid fun V => wakes_any V
  have g1 : decide ((len : Int) > 80) = true := by simp; omega
  clear hg
  go_enter Try.func3, Try.ntmps3
  go_wp2_with fail
  refine (HWk.out _).mono ?_
  rintro e w1 ⟨rfl, b1⟩
  go_wp2
  go_ret
  exact ⟨rfl, b1⟩
/-- The two at first. -/
theorem duo_new {w w1 w2 : World} {s : Value} {F : Nat → Prop} {bs : List Bool} {A : Option Addr} {c : Nat} (hb1 : Below w.heap.size w w1) (hs : IsSt F w1 s bs) (hF : ∀ k, F k → w.heap.size ≤ k) (hb2 : Below w1.heap.size w1 w2) (hl : LiesI w2 (.slice A (stL bs).length c) (stL bs)) (hf : ∀ b, (Value.slice A (stL bs).length c).ownBlock = some b → w1.heap.size ≤ b ∧ b < w2.heap.size) : DuoD w s w2.heap.size bs bs.length (.slice A (stL bs).length c) (stL bs) (w2.alloc (refO bs.length (.slice A (stL bs).length c))) := by
  have hb := (Below.refl w2.heap.size w2).alloc (Nat.le_refl _) (refO bs.length (.slice A (stL bs).length c))
  refine ⟨hb1.trans ((hb2.mono hb1.size).trans (hb.mono (Nat.le_trans hb1.size hb2.size))), ⟨F, st_old (st_old hs hb2) hb, hF, fun h => ?_, fun b hb' h => ?_⟩, heap_new _ _, hl.below hb, Nat.le_trans hb1.size hb2.size, fun e => ?_, fun b hb' => Nat.lt_of_lt_of_le (hf b hb').2 hb.size⟩
  · have := st_lt hs _ h; have := hb2.size; omega
  · have := st_lt hs _ h; have := (hf b hb').1; omega
  · have := (hf _ e).2; omega
/-- Behind an act. -/
def PlayC (w : World) (s : Value) (o P : Nat) (ob : Obj) (s9 s10 : Value) (wc : World) : Prop := ∃ (ok : Bool) (bs : List Bool) (A : Option Addr) (c : Nat), s9 = .bool ok ∧ s10 = .bool ok ∧ DuoP w s o bs bs.length (.slice A (stL bs).length c) (stL bs) P ob wc

set_option maxRecDepth 100000 in
set_option maxHeartbeats 8000000 in
theorem play_some (W0 : Int) (A : Option Addr) (len cap : Nat) (X : Nat → Tc) (w : World) (hA : ActsT w w.heap.size A len X) (hl : len ≤ 80) : Calls Try.prog 3 #[.int .i64 W0, .slice A len cap] w fun e w' => e = .returned (.bool true) ∧ Below w.heap.size w w' := by
  have HWk : Hid (∀ V, Calls Try.prog 9 #[] V fun e w' => e = .returned (.bool true) ∧ Below V.heap.size V w') := Lib.hid fun V => wakes_any V
  have HN := Lib.hid (new_any W0 w)
  have HD := Lib.hid (fun V => d_new W0 V)
  have HA : Hid (∀ V, Below w.heap.size w V → ActsT V w.heap.size A len X) := Lib.hid fun V hV => hA.below hV
  have g1 : decide ((len : Int) > 80) = false := by simp; omega
  clear hA
  go_enter Try.func3, Try.ntmps3
  go_wp2_with fail
  refine (show Calls _ _ _ _ _ from HN.out).mono ?_
  rintro e w1 ⟨s, F, rfl, hs, hF, hb1⟩
  have B1 := Lib.hid (And.intro hs (And.intro hF hb1))
  clear hs hF hb1 HN
  go_wp2_with fail
  refine (HD.out w1).mono ?_
  rintro e w2 ⟨A2, c2, rfl, hl2, hb2, hf2⟩
  have HDuo := Lib.hid (duo_new B1.out.2.2 B1.out.1 B1.out.2.1 hb2 hl2 hf2)
  clear hl2 hb2 hf2 HD B1 g1
  generalize newB W0 = bs0 at *
  generalize hn0 : (stL bs0).length = n0 at *
  have HN0 := Lib.hid hn0
  clear hn0
  obtain ⟨P0, hP0⟩ : ∃ P0, w2.heap.size = P0 := ⟨_, rfl⟩
  rw [hP0] at HDuo
  have HP0 := Lib.hid hP0
  clear hP0
  go_wp2_with fail
  change Code.wp _ _ _ _ (w2.alloc (refO bs0.length (.slice A2 n0 c2)))
  rw [HP0.out]
  rw [← HN0.out] at HDuo ⊢
  generalize w2.alloc (refO bs0.length (.slice A2 (stL bs0).length c2)) = w3 at *
  clear HP0 HN0
  go_loopw [7] (fun i wr => ∃ (k : Nat) (bs : List Bool) (B : Option Addr) (c : Nat), k ≤ len ∧ i = .int .i64 k ∧ Hid (DuoD w s P0 bs bs.length (.slice B (stL bs).length c) (stL bs) wr)) (fun i _ => len - (RowKit.intOf i).toNat)
  case atStart => exact ⟨0, bs0, A2, c2, Nat.zero_le _, rfl, HDuo⟩
  case round =>
    obtain ⟨k, bs, B, c, hk, rfl, HDk⟩ := hrel
    rename_i wr
    by_cases hlk : k < len
    · have glk : decide ((k : Int) < (len : Int)) = true := by simp; omega
      obtain ⟨b, o, e, hb, ⟨gd, gx, gn⟩, q0, q1, q2⟩ := (HA.out wr HDk.out.below).at_ hlk
      subst e
      have i1 := idx_tact b o len cap k hlk
      obtain ⟨a, hc⟩ : ∃ a, X k = a := ⟨_, rfl⟩
      rw [hc] at gd gx gn q0 q1 q2
      obtain ⟨d, ax, an⟩ := a
      dsimp only at gd gx gn q0 q1 q2
      obtain ⟨ob, hob⟩ : ∃ ob : Obj, ob = .cells #[.int .u8 d, .int .i64 ax, .int .i64 an] 31 (0, 0) := ⟨_, rfl⟩
      have HPd := Lib.hid (HDk.out.act ob)
      have HOb := Lib.hid hob
      obtain ⟨P, hP⟩ : ∃ P, wr.heap.size = P := ⟨_, rfl⟩
      have HPe := Lib.hid hP
      rw [hP] at HPd
      clear hc hob hP
      go_upto_block 2 with fail
      change Code.wp _ _ _ _ (wr.alloc (.cells #[.int .u8 d, .int .i64 ax, .int .i64 an] 31 (0, 0)))
      rw [← HOb.out, HPe.out]
      generalize wr.alloc ob = V0 at HPd ⊢
      have HL4 := Lib.hid HPd.out.len
      have HPc : Hid (∀ V : World, V.heap[P]? = some ob → V.cell? ⟨P, 0, none⟩ = some (.int .u8 d) ∧ V.cell? ⟨P, 1, none⟩ = some (.int .i64 ax) ∧ V.cell? ⟨P, 2, none⟩ = some (.int .i64 an)) := Lib.hid fun V hpb => by
        rw [HOb.out] at hpb
        exact ⟨(cell_of hpb 0).trans rfl, (cell_of hpb 1).trans rfl, (cell_of hpb 2).trans rfl⟩
      clear HPe q0 q1 q2
      go_cut [9, 10] (fun s9 s10 wc => PlayC w s P0 P ob s9 s10 wc)
      case first =>
        have p1 := (HPc.out _ HPd.out.pb).2.1
        clear gd gx gn
        by_cases d0 : d = 0
        · have e0 : (d == 0) = true := by simpa using d0
          have H0 := Lib.hid (p_set HPd.out ax)
          clear d0
          as_aux_lemma =>
          go_wp2_with fail
          refine (show Calls _ _ _ _ _ from H0.out).mono ?_
          rintro e U1 ⟨rfl, hd1⟩
          have HD1 := Lib.hid hd1
          have H1 := Lib.hid (d_set hd1 HL4.out.2 ax)
          have m0 := hd1.out.cell0
          have m1 := hd1.out.cell1
          have p1 := (HPc.out _ hd1.pb).2.1
          clear hd1 H0
          go_wp2_with fail
          refine (show Calls _ _ _ _ _ from H1.out).mono ?_
          rintro e U2 ⟨A', c', rfl, hl', hb', hf'⟩
          have HO2 := HD1.out.old hb'
          have r0 := HO2.out.cell0
          have r1 := HO2.out.cell1
          have fr := HO2.out.free
          have HF := Lib.hid (HD1.out.put hb' hl' hf' bs.length)
          clear HO2 hl' hb' hf' H1 m0 m1 p1
          go_wp2
          go_meet
          exact ⟨setOk bs ax, setB bs ax, A', c', rfl, rfl, by rw [set_len]; exact HF.out⟩
        have e0 : (d == 0) = false := by simpa using d0
        by_cases d1 : d = 1
        · have e1 : (d == 1) = true := by simpa using d1
          have H0 := Lib.hid (p_clr HPd.out ax)
          clear d1
          as_aux_lemma =>
          go_wp2_with fail
          refine (show Calls _ _ _ _ _ from H0.out).mono ?_
          rintro e U1 ⟨rfl, hd1⟩
          have HD1 := Lib.hid hd1
          have H1 := Lib.hid (d_clr hd1 HL4.out.2 ax)
          have m0 := hd1.out.cell0
          have m1 := hd1.out.cell1
          have p1 := (HPc.out _ hd1.pb).2.1
          clear hd1 H0
          go_wp2_with fail
          refine (show Calls _ _ _ _ _ from H1.out).mono ?_
          rintro e U2 ⟨A', c', rfl, hl', hb', hf'⟩
          have HO2 := HD1.out.old hb'
          have r0 := HO2.out.cell0
          have r1 := HO2.out.cell1
          have fr := HO2.out.free
          have HF := Lib.hid (HD1.out.put hb' hl' hf' bs.length)
          clear HO2 hl' hb' hf' H1 m0 m1 p1
          go_wp2
          go_meet
          exact ⟨clrOk bs ax, clrB bs ax, A', c', rfl, rfl, by rw [clr_len]; exact HF.out⟩
        have e1 : (d == 1) = false := by simpa using d1
        by_cases d2 : d = 2
        · have e2 : (d == 2) = true := by simpa using d2
          have H0 := Lib.hid (p_wipe HPd.out)
          clear d2
          as_aux_lemma =>
          go_wp2_with fail
          refine (show Calls _ _ _ _ _ from H0.out).mono ?_
          rintro e U1 ⟨rfl, hd1⟩
          have r1 := hd1.out.cell1
          have fr := hd1.out.free
          have HF := Lib.hid hd1.putL
          clear hd1 H0
          go_wp2
          go_meet
          exact ⟨true, wipeB bs, none, 0, rfl, rfl, by rw [st_wipe, wipe_len]; exact HF.out⟩
        · have e2 : (d == 2) = false := by simpa using d2
          have H0 := Lib.hid (p_size HPd.out ax)
          clear d0 d1 d2
          as_aux_lemma =>
          go_wp2_with fail
          refine (show Calls _ _ _ _ _ from H0.out).mono ?_
          rintro e U1 ⟨rfl, hd1⟩
          have HD1 := Lib.hid hd1
          have H1 := Lib.hid (d_size hd1 HL4.out.2 ax)
          have m0 := hd1.out.cell0
          have m1 := hd1.out.cell1
          have p1 := (HPc.out _ hd1.pb).2.1
          clear hd1 H0
          go_wp2_with fail
          refine (show Calls _ _ _ _ _ from H1.out).mono ?_
          rintro e U2 ⟨A', c', rfl, hl', hb', hf'⟩
          have HO2 := HD1.out.old hb'
          have r0 := HO2.out.cell0
          have r1 := HO2.out.cell1
          have fr := HO2.out.free
          have HF := Lib.hid (HD1.out.put hb' hl' (Or.inr hf') (sizeB bs ax).length)
          clear HO2 hl' hb' hf' H1 m0 m1 p1
          go_wp2
          go_meet
          exact ⟨true, sizeB bs ax, A', c', rfl, rfl, HF.out⟩
      case rest =>
        obtain ⟨ok, bs2, A2', c2', rfl, rfl, hd2⟩ := hcut
        have HD2 := Lib.hid hd2
        have hlen := hd2.len
        have hst4 : (stL bs2).length ≤ 400 := Nat.le_trans (st_len bs2) hlen.2
        have m0 := fun (V : World) (hV : Below wc.heap.size wc V) => (HD2.out.old hV).out.cell0
        have m1 := fun (V : World) (hV : Below wc.heap.size wc V) => (HD2.out.old hV).out.cell1
        have p1 := fun (V : World) (hV : Below wc.heap.size wc V) => (HPc.out V (HD2.out.old hV).pb).2.1
        have p2 := fun (V : World) (hV : Below wc.heap.size wc V) => (HPc.out V (HD2.out.old hV).pb).2.2
        have hd := below_drew (Below.refl wc.heap.size wc) 1
        have KA : Hid (∀ V, Below wc.heap.size wc V → Calls Try.prog 20 #[s, .int .i64 1000] V fun e w' => ∃ u, e = .returned u ∧ LiesI w' u (stL bs2) ∧ Below wc.heap.size wc w') := Lib.hid fun V hV => by
          obtain ⟨F', h1, _⟩ := (HD2.out.old hV).st
          refine (all_any s (stL bs2) 1000 V (by omega) (by omega) (by omega) V.heap.size (by omega) (every_any h1)).mono ?_
          rintro e w' ⟨u, he, ho, hb⟩
          rw [List.take_of_length_le (by omega)] at ho
          exact ⟨u, he, ownI_lies ho, hV.trans (hb.mono hV.size)⟩
        have KS : Hid (∀ V u, Below wc.heap.size wc V → LiesI V u (stL bs2) → Calls Try.prog 19 #[u, .slice A2' (stL bs2).length c2'] V fun e w' => e = .returned (.bool true) ∧ Below wc.heap.size wc w') := Lib.hid fun V u hV hu => by
          refine (same_any u _ (stL bs2) (stL bs2) V hu (HD2.out.old hV).lies (by omega)).mono ?_
          rintro e w' ⟨he, hb⟩
          exact ⟨by rw [he]; simp, hV.trans (hb.mono hV.size)⟩
        obtain ⟨nv, hnv⟩ : ∃ nv : Int, ((nextV bs2 ax an : Nat) : Int) = nv := ⟨_, rfl⟩
        obtain ⟨pv, hpv⟩ : ∃ pv : Int, ((prevV bs2 an ax : Nat) : Int) = pv := ⟨_, rfl⟩
        have KN : Hid (∀ V, Below wc.heap.size wc V → Calls Try.prog 21 #[s, .int .i64 ax, .int .i64 an] V fun e w' => e = .returned (.int .i64 nv) ∧ Below wc.heap.size wc w') := Lib.hid fun V hV => by
          obtain ⟨F', h1, _⟩ := (HD2.out.old hV).st
          rw [← hnv]
          exact (next_any h1 ax an gx gn).mono fun e w' ⟨he, hb⟩ => ⟨he, hV.trans (hb.mono hV.size)⟩
        have KP : Hid (∀ V, Below wc.heap.size wc V → Calls Try.prog 23 #[s, .int .i64 an, .int .i64 ax] V fun e w' => e = .returned (.int .i64 pv) ∧ Below wc.heap.size wc w') := Lib.hid fun V hV => by
          obtain ⟨F', h1, _⟩ := (HD2.out.old hV).st
          rw [← hpv]
          exact (prev_any h1 an ax gn gx).mono fun e w' ⟨he, hb⟩ => ⟨he, hV.trans (hb.mono hV.size)⟩
        have KRN : Hid (∀ V, Below wc.heap.size wc V → Calls Try.prog 22 #[refV bs2.length (.slice A2' (stL bs2).length c2'), .int .i64 ax, .int .i64 an] V fun e w' => e = .returned (.int .i64 nv) ∧ Below wc.heap.size wc w') := Lib.hid fun V hV => by
          rw [← hnv, ← next_st]
          exact (rnext_any bs2.length _ (stL bs2) ax an V (HD2.out.old hV).lies (by omega) (by omega) gn).mono fun e w' ⟨he, hb⟩ => ⟨he, hV.trans (hb.mono hV.size)⟩
        have KRP : Hid (∀ V, Below wc.heap.size wc V → Calls Try.prog 24 #[refV bs2.length (.slice A2' (stL bs2).length c2'), .int .i64 an, .int .i64 ax] V fun e w' => e = .returned (.int .i64 pv) ∧ Below wc.heap.size wc w') := Lib.hid fun V hV => by
          rw [← hpv, ← prev_st]
          exact (rprev_any bs2.length _ (stL bs2) an ax V (HD2.out.old hV).lies (by omega) gx).mono fun e w' ⟨he, hb⟩ => ⟨he, hV.trans (hb.mono hV.size)⟩
        have n0 : (ok != ok) = false := by simp
        have n1 : (nv != nv) = false := by simp
        have n2 : (pv != pv) = false := by simp
        clear hnv hpv hd2 gd gx gn hlen hst4 HDk HPc HOb HPd HL4
        as_aux_lemma =>
        go_wp2_with fail
        go_region_held3 (fun V => Below wc.heap.size wc V) (assumption)
          (first | (go_at_call 20; (with_reducible refine (KA.out _ (by assumption)).mono ?_); rintro e v1 ⟨u, rfl, hlu, qv1⟩) | (go_at_call 19; (with_reducible refine (KS.out _ _ (by assumption) (by assumption)).mono ?_); rintro e v2 ⟨rfl, qv2⟩) | (go_at_call 21; (with_reducible refine (KN.out _ (by assumption)).mono ?_); rintro e v3 ⟨rfl, qv3⟩) | (go_at_call 22; (with_reducible refine (KRN.out _ (by assumption)).mono ?_); rintro e v4 ⟨rfl, qv4⟩) | (go_at_call 23; (with_reducible refine (KP.out _ (by assumption)).mono ?_); rintro e v5 ⟨rfl, qv5⟩) | (go_at_call 24; (with_reducible refine (KRP.out _ (by assumption)).mono ?_); rintro e v6 ⟨rfl, qv6⟩))
        all_goals
          have B3 := Lib.hid (show Below wc.heap.size wc _ by assumption)
        go_wp2
        go_roundw
        case rel => exact ⟨k + 1, bs2, A2', c2', by omega, by go_num, Lib.hid (HD2.out.out.old B3.out)⟩
        case measure => simp [RowKit.intOf]; omega
    · have glk : decide ((k : Int) < (len : Int)) = false := by simp; omega
      have K9 := Lib.hid (HWk.out wr)
      go_wp2_with fail
      refine (show Calls _ _ _ _ _ from K9.out).mono ?_
      rintro e w9 ⟨rfl, hb9⟩
      have B9 : Hid (Below w.heap.size w w9) := Lib.hid (HDk.out.below.trans (hb9.mono HDk.out.below.size))
      clear K9 hb9
      go_wp2
      go_ret
      exact ⟨rfl, B9.out⟩
end Go.Proofs.Ytfkiihddcinckaa.Tb
