/- Layer 8: the program's step, way by way (written by gen_eph.py). -/
import Derived.Test.YtkenaccnmmmooaaDoorEpG
import Derived.Test.YtkenaccnmmmooaaDoorE6StC
set_option linter.unusedVariables false
namespace Go.Proofs.YtkenaccnmmmooaaDoor
open Go.RowKit Ev

theorem str_any {w : World} {a : Nat} {q : Q} {L : List EV} (h : IsP w a q L) (hs : q.st = 10 ∨ q.st = 12) (x : Nat) (hx : ¬ (x = 24 ∨ x = 26)) : Calls Tryd.prog 32 #[.pointer (some ⟨a, 0, none⟩)] w (PStep w a q (L ++ strE q x)) := by
  unfold strE
  rw [if_neg hx]
  by_cases h12 : q.st = 12
  · rw [if_pos h12]
    by_cases ht : q.text.length ≤ 1024
    · rw [if_pos ht]; exact pstr_osc h h12 ht
    · rw [if_neg ht, List.append_nil]; exact pstr_osc_long h h12 (by omega)
  · have h10 : q.st = 10 := by omega
    rw [if_neg h12]
    by_cases ht : q.text.length ≤ 256
    · by_cases hm : q.mids.length ≤ 2
      · rw [if_pos ⟨ht, hm⟩]; exact pstr_dcs h h10 ht hm
      · rw [if_neg (fun e => hm e.2), List.append_nil]; exact pstr_dcs_many h h10 ht (by omega)
    · rw [if_neg (fun e => ht e.1), List.append_nil]; exact pstr_dcs_long h h10 (by omega)

theorem act_any {w : World} {a : Nat} {q : Q} {L : List EV} (h : IsP w a q L) (hT : D5.Tabs w) (b : UInt8) (act : Nat) (ha : act < 9) (hm : q.mids.length ≤ 1000000) (ht : q.text.length ≤ 1000000) :
    Calls Tryd.prog 35 #[.pointer (some ⟨a, 0, none⟩), .int .i64 (act : Int), .int .u8 (b.toNat : Int)] w (PStep w a (doE act q b).2 (L ++ (doE act q b).1)) := by
  have : act = 0 ∨ act = 1 ∨ act = 2 ∨ act = 3 ∨ act = 4 ∨ act = 5 ∨ act = 6 ∨ act = 7 ∨ act = 8 := by omega
  rcases this with rfl | rfl | rfl | rfl | rfl | rfl | rfl | rfl | rfl
  · rw [show doE 0 q b = ([], q) from rfl, List.append_nil]; exact act_0 h b
  · exact act_1 h hT b
  · exact act_2 h b
  · rw [show doE 3 q b = ([], { q with mids := q.mids ++ [b] }) from rfl, List.append_nil]; exact act_3 h b hm
  · rw [show doE 4 q b = ([], { q with list := q.list ++ [b] }) from rfl, List.append_nil]; exact act_4 h b
  · exact act_5 h b
  · by_cases h2 : q.mids.length ≤ 2
    · rw [show doE 6 q b = ([⟨4, 0, b.toNat, q.mids, P7.Par.parsV q.list, []⟩], q) by unfold doE; simp [h2]]; exact act_6 h b h2
    · rw [show doE 6 q b = ([], q) by unfold doE; simp [h2], List.append_nil]; exact act_6no h b (by omega)
  · rw [show doE 7 q b = ([], { q with final := b.toNat }) from rfl, List.append_nil]; exact act_7 h b
  · rw [show doE 8 q b = ([], { q with text := q.text ++ [b] }) from rfl, List.append_nil]; exact act_8 h b ht

set_option maxRecDepth 100000 in
theorem ends_grid : ∀ s : Nat, s < 14 → ∀ n : Nat, n < 14 → S6.Sta.endB (s : Int) (n : Int) = endsN s n := by decide +kernel
set_option maxRecDepth 100000 in
theorem clears_grid : ∀ s : Nat, s < 14 → ∀ n : Nat, n < 14 → S6.Sta.clearB (s : Int) (n : Int) = clearsN s n := by decide +kernel
theorem pnext_is (s : Nat) (hs : s < 14) (b : UInt8) (act n : Nat) (ha : actN s b.toNat = act) (hn : toN s b.toNat = n) (w : World) :
    Calls Tryd.prog 29 #[.int .i64 (s : Int), .int .u8 (b.toNat : Int)] w fun e w' => e = .returned (.tuple #[.int .i64 (act : Int), .int .i64 (n : Int)]) ∧ Below w.heap.size w w' := by
  have h := S6.next_any (s : Int) (b.toNat : Int) w
  rw [(grid_st s hs b.toNat b.toNat_lt).2.2, ha, hn] at h
  exact h
theorem pends_is (s n : Nat) (hs : s < 14) (hn : n < 14) (e : Bool) (he : endsN s n = e) (w : World) : Calls Tryd.prog 31 #[.int .i64 (s : Int), .int .i64 (n : Int)] w fun x w' => x = .returned (.bool e) ∧ w = w' := by
  have h := S6.ends_any (s : Int) (n : Int) w
  rw [ends_grid s hs n hn, he] at h
  exact h
theorem pclears_is (s n : Nat) (hs : s < 14) (hn : n < 14) (e : Bool) (he : clearsN s n = e) (w : World) : Calls Tryd.prog 33 #[.int .i64 (s : Int), .int .i64 (n : Int)] w fun x w' => x = .returned (.bool e) ∧ w = w' := by
  have h := S6.clears_any (s : Int) (n : Int) w
  rw [clears_grid s hs n hn, he] at h
  exact h
theorem pstep_of (q : Q) (b : UInt8) (act n : Nat) (e cl : Bool) (ha : actN q.st b.toNat = act) (hn : toN q.st b.toNat = n) (h1 : act ≠ 1) (he : endsN q.st n = e) (hc : clearsN q.st n = cl) :
    stepE q b = (markE q ++ (if e then strE q b.toNat else []) ++ (doE act (if cl then ⟨q.st, [], [], [], q.final, []⟩ else ⟨q.st, [], q.list, q.mids, q.final, q.text⟩) b).1, { (doE act (if cl then ⟨q.st, [], [], [], q.final, []⟩ else ⟨q.st, [], q.list, q.mids, q.final, q.text⟩) b).2 with st := n }) := by
  unfold stepE readyE
  simp only [ha, hn, he, hc, h1, if_false]
theorem pstep_one (q : Q) (b : UInt8) (n : Nat) (ha : actN q.st b.toNat = 1) (hn : toN q.st b.toNat = n) (he : endsN q.st n = false) (hc : clearsN q.st n = false) :
    stepE q b = ((doE 1 q b).1, { (doE 1 q b).2 with st := n }) := by
  unfold stepE readyE
  simp only [ha, hn, he, hc]
  simp
theorem stirs_tabs {w w' : World} {a : Nat} (hT : D5.Tabs w) (hs : Stirs a 0 1183 w w') (hne : a ≠ 2 ∧ a ≠ 3) : D5.Tabs w' := hT.stirs (hs.wider (o' := 0) (n' := 1183) (by omega) (by omega)) hne

set_option maxRecDepth 100000 in
theorem step_one {w : World} {a : Nat} {q : Q} {L : List EV} (h : IsP w a q L) (hT : D5.Tabs w) (b : UInt8) (hm : q.mids.length ≤ 1000000) (ht : q.text.length ≤ 1000000) (n : Nat) (ha : actN q.st b.toNat = 1) (hn : toN q.st b.toNat = n) (hn14 : n < 14) (he : endsN q.st n = false) (hcl : clearsN q.st n = false) :
    Calls Tryd.prog 22 #[.pointer (some ⟨a, 0, none⟩), .int .u8 (b.toNat : Int)] w (PStep w a (stepE q b).2 (L ++ (stepE q b).1)) := by
  have HNx := Lib.hid (pnext_is q.st h.stb b 1 n ha hn w)
  have HEn := fun W => Lib.hid (pends_is q.st n h.stb hn14 false he W)
  have HCl := fun W => Lib.hid (pclears_is q.st n h.stb hn14 false hcl W)
  have HNE := Lib.hid h.ne
  have HN14 := Lib.hid hn14
  have E := Lib.hid (pstep_one q b n ha hn he hcl)
  have hR1 : q.mids.length ≤ 1000000 ∧ q.text.length ≤ 1000000 := ⟨hm, ht⟩
  obtain ⟨R, hR⟩ : ∃ R : Q, R = q := ⟨_, rfl⟩
  have HA := fun (W : World) (L' : List EV) (hI : IsP W a R L') (hTW : D5.Tabs W) => Lib.hid (act_any hI hTW b 1 (by omega) (by rw [hR]; exact hm) (by rw [hR]; exact ht))
  obtain ⟨s, hs⟩ : ∃ s, s = q.st := ⟨_, rfl⟩
  obtain ⟨x, hx⟩ : ∃ x, x = b.toNat := ⟨_, rfl⟩
  have HSt := Lib.hid hs
  have HRR := Lib.hid hR
  have c5 : w.cell? ⟨a, 5, none⟩ = some (.int .i64 s) := by rw [h.st, hs]
  have H0 := Lib.hid h
  have HTb := Lib.hid hT
  rw [← hs] at HNx HEn HCl
  rw [← hx] at HNx HA ⊢
  have HXX := Lib.hid hx
  clear h hT hm ht ha hn hn14 he hcl hs hx hR hR1
  go_enter Tryd.func22, Tryd.ntmps22
  go_wp2_with fail
  refine (show Calls _ _ _ _ _ from HNx.out).mono ?_
  rintro e w1 ⟨rfl, hb1⟩
  have H1 := Lib.hid (H0.out.below hb1)
  have S1 : Hid (Stirs a 0 1183 w w1) := Lib.hid (stirs_below hb1 H0.out.lt)
  have T1 : Hid (D5.Tabs w1) := Lib.hid (stirs_tabs HTb.out S1.out HNE.out)
  clear hb1 HNx H0 HTb c5
  have c5 : w1.cell? ⟨a, 5, none⟩ = some (.int .i64 s) := by rw [H1.out.st, HSt.out]
  go_wp2_with fail
  refine (show Calls _ _ _ _ _ from (HEn _).out).mono ?_
  rintro e w9 ⟨rfl, rfl⟩
  clear HEn
  go_wp2_with fail
  refine (show Calls _ _ _ _ _ from (HCl _).out).mono ?_
  rintro e w9 ⟨rfl, rfl⟩
  clear HCl c5
  have HX := Lib.hid ((HA w1 _ (by rw [HRR.out]; exact H1.out) T1.out).out)
  go_wp2_with fail
  refine (show Calls _ _ _ _ _ from HX.out).mono ?_
  rintro e w8 ⟨rfl, hp, hst⟩
  have HP : Hid (PStep w a (stepE q b).2 (L ++ (stepE q b).1) (.returned (.tuple #[])) (w8.setCell ⟨a, 5, none⟩ (.int .i64 n))) := Lib.hid (by
    rw [E.out]
    refine ⟨rfl, ?_, (S1.out.trans hst).set _ _ (by omega)⟩
    have hf := hp.setSt (n := n) HN14.out
    rw [HRR.out] at hf
    simpa [List.append_assoc] using hf)
  obtain ⟨u5, k5⟩ := hp.some_cell (i := 5) (by omega)
  have f5 := hp.free 5
  clear HX hp hst HA H1 S1 T1
  go_wp2
  go_end0
  exact HP.out

set_option maxRecDepth 100000 in
theorem step_plain {w : World} {a : Nat} {q : Q} {L : List EV} (h : IsP w a q L) (hT : D5.Tabs w) (b : UInt8) (hm : q.mids.length ≤ 1000000) (ht : q.text.length ≤ 1000000) (act n : Nat) (ha : actN q.st b.toNat = act) (hn : toN q.st b.toNat = n) (hact : act < 9) (hn14 : n < 14) (h1 : act ≠ 1) (he : endsN q.st n = false) (hcl : clearsN q.st n = false) :
    Calls Tryd.prog 22 #[.pointer (some ⟨a, 0, none⟩), .int .u8 (b.toNat : Int)] w (PStep w a (stepE q b).2 (L ++ (stepE q b).1)) := by
  have HNx := Lib.hid (pnext_is q.st h.stb b act n ha hn w)
  have HEn := fun W => Lib.hid (pends_is q.st n h.stb hn14 false he W)
  have HCl := fun W => Lib.hid (pclears_is q.st n h.stb hn14 false hcl W)
  have HNE := Lib.hid h.ne
  have HN14 := Lib.hid hn14
  obtain ⟨R, hR⟩ : ∃ R : Q, R = ⟨q.st, [], q.list, q.mids, q.final, q.text⟩ := ⟨_, rfl⟩
  have E : Hid (stepE q b = (markE q ++ [] ++ (doE act R b).1, { (doE act R b).2 with st := n })) := Lib.hid (by
    rw [hR]
    have := pstep_of q b act n false false ha hn h1 he hcl
    simpa using this)
  have d1 : ((act : Int) == 1) = false := by simp; omega
  have d1' : ((act : Int) != 1) = true := by simp; omega
  have HA := fun (W : World) (L' : List EV) (hI : IsP W a R L') (hTW : D5.Tabs W) => Lib.hid (act_any hI hTW b act hact (by rw [hR]; exact hm) (by rw [hR]; exact ht))
  obtain ⟨s, hs⟩ : ∃ s, s = q.st := ⟨_, rfl⟩
  obtain ⟨x, hx⟩ : ∃ x, x = b.toNat := ⟨_, rfl⟩
  have HSt := Lib.hid hs
  have HRR := Lib.hid hR
  have c5 : w.cell? ⟨a, 5, none⟩ = some (.int .i64 s) := by rw [h.st, hs]
  have H0 := Lib.hid h
  have HTb := Lib.hid hT
  rw [← hs] at HNx HEn HCl
  rw [← hx] at HNx HA ⊢
  have HXX := Lib.hid hx
  clear h hT hm ht ha hn hact hn14 h1 he hcl hs hx hR
  go_enter Tryd.func22, Tryd.ntmps22
  go_wp2_with fail
  refine (show Calls _ _ _ _ _ from HNx.out).mono ?_
  rintro e w1 ⟨rfl, hb1⟩
  have H1 := Lib.hid (H0.out.below hb1)
  have S1 : Hid (Stirs a 0 1183 w w1) := Lib.hid (stirs_below hb1 H0.out.lt)
  have T1 : Hid (D5.Tabs w1) := Lib.hid (stirs_tabs HTb.out S1.out HNE.out)
  clear hb1 HNx H0 HTb c5
  have HX := Lib.hid (cut_any H1.out)
  go_wp2_with fail
  refine (show Calls _ _ _ _ _ from HX.out).mono ?_
  rintro e w2 ⟨rfl, hp, hst⟩
  have H2 := Lib.hid hp
  have S2 := Lib.hid (S1.out.trans hst)
  have T2 : Hid (D5.Tabs w2) := Lib.hid (stirs_tabs T1.out hst HNE.out)
  clear HX hp hst H1 S1 T1
  have c5 : w2.cell? ⟨a, 5, none⟩ = some (.int .i64 s) := by rw [H2.out.st, HSt.out]
  go_wp2_with fail
  refine (show Calls _ _ _ _ _ from (HEn _).out).mono ?_
  rintro e w9 ⟨rfl, rfl⟩
  clear HEn
  go_wp2_with fail
  refine (show Calls _ _ _ _ _ from (HCl _).out).mono ?_
  rintro e w9 ⟨rfl, rfl⟩
  clear HCl c5
  have HX := Lib.hid ((HA w2 _ (by rw [HRR.out]; exact H2.out) T2.out).out)
  go_wp2_with fail
  refine (show Calls _ _ _ _ _ from HX.out).mono ?_
  rintro e w8 ⟨rfl, hp, hst⟩
  have HP : Hid (PStep w a (stepE q b).2 (L ++ (stepE q b).1) (.returned (.tuple #[])) (w8.setCell ⟨a, 5, none⟩ (.int .i64 n))) := Lib.hid (by
    rw [E.out]
    refine ⟨rfl, ?_, (S2.out.trans hst).set _ _ (by omega)⟩
    have hf := hp.setSt (n := n) HN14.out
    simpa [List.append_assoc] using hf)
  obtain ⟨u5, k5⟩ := hp.some_cell (i := 5) (by omega)
  have f5 := hp.free 5
  clear HX hp hst HA H2 S2 T2
  go_wp2
  go_end0
  exact HP.out

set_option maxRecDepth 100000 in
theorem step_clears {w : World} {a : Nat} {q : Q} {L : List EV} (h : IsP w a q L) (hT : D5.Tabs w) (b : UInt8) (hm : q.mids.length ≤ 1000000) (ht : q.text.length ≤ 1000000) (act n : Nat) (ha : actN q.st b.toNat = act) (hn : toN q.st b.toNat = n) (hact : act < 9) (hn14 : n < 14) (h1 : act ≠ 1) (he : endsN q.st n = false) (hcl : clearsN q.st n = true) :
    Calls Tryd.prog 22 #[.pointer (some ⟨a, 0, none⟩), .int .u8 (b.toNat : Int)] w (PStep w a (stepE q b).2 (L ++ (stepE q b).1)) := by
  have HNx := Lib.hid (pnext_is q.st h.stb b act n ha hn w)
  have HEn := fun W => Lib.hid (pends_is q.st n h.stb hn14 false he W)
  have HCl := fun W => Lib.hid (pclears_is q.st n h.stb hn14 true hcl W)
  have HNE := Lib.hid h.ne
  have HN14 := Lib.hid hn14
  obtain ⟨R, hR⟩ : ∃ R : Q, R = ⟨q.st, [], [], [], q.final, []⟩ := ⟨_, rfl⟩
  have E : Hid (stepE q b = (markE q ++ [] ++ (doE act R b).1, { (doE act R b).2 with st := n })) := Lib.hid (by
    rw [hR]
    have := pstep_of q b act n false true ha hn h1 he hcl
    simpa using this)
  have d1 : ((act : Int) == 1) = false := by simp; omega
  have d1' : ((act : Int) != 1) = true := by simp; omega
  have HA := fun (W : World) (L' : List EV) (hI : IsP W a R L') (hTW : D5.Tabs W) => Lib.hid (act_any hI hTW b act hact (by rw [hR]; simp) (by rw [hR]; simp))
  obtain ⟨s, hs⟩ : ∃ s, s = q.st := ⟨_, rfl⟩
  obtain ⟨x, hx⟩ : ∃ x, x = b.toNat := ⟨_, rfl⟩
  have HSt := Lib.hid hs
  have HRR := Lib.hid hR
  have c5 : w.cell? ⟨a, 5, none⟩ = some (.int .i64 s) := by rw [h.st, hs]
  have H0 := Lib.hid h
  have HTb := Lib.hid hT
  rw [← hs] at HNx HEn HCl
  rw [← hx] at HNx HA ⊢
  have HXX := Lib.hid hx
  clear h hT hm ht ha hn hact hn14 h1 he hcl hs hx hR
  go_enter Tryd.func22, Tryd.ntmps22
  go_wp2_with fail
  refine (show Calls _ _ _ _ _ from HNx.out).mono ?_
  rintro e w1 ⟨rfl, hb1⟩
  have H1 := Lib.hid (H0.out.below hb1)
  have S1 : Hid (Stirs a 0 1183 w w1) := Lib.hid (stirs_below hb1 H0.out.lt)
  have T1 : Hid (D5.Tabs w1) := Lib.hid (stirs_tabs HTb.out S1.out HNE.out)
  clear hb1 HNx H0 HTb c5
  have HX := Lib.hid (cut_any H1.out)
  go_wp2_with fail
  refine (show Calls _ _ _ _ _ from HX.out).mono ?_
  rintro e w2 ⟨rfl, hp, hst⟩
  have H2 := Lib.hid hp
  have S2 := Lib.hid (S1.out.trans hst)
  have T2 : Hid (D5.Tabs w2) := Lib.hid (stirs_tabs T1.out hst HNE.out)
  clear HX hp hst H1 S1 T1
  have c5 : w2.cell? ⟨a, 5, none⟩ = some (.int .i64 s) := by rw [H2.out.st, HSt.out]
  go_wp2_with fail
  refine (show Calls _ _ _ _ _ from (HEn _).out).mono ?_
  rintro e w9 ⟨rfl, rfl⟩
  clear HEn
  go_wp2_with fail
  refine (show Calls _ _ _ _ _ from (HCl _).out).mono ?_
  rintro e w9 ⟨rfl, rfl⟩
  clear HCl c5
  have HX := Lib.hid (clear_seq H2.out)
  go_wp2_with fail
  refine (show Calls _ _ _ _ _ from HX.out).mono ?_
  rintro e w3 ⟨rfl, hp, hst⟩
  have H3 := Lib.hid hp
  have S3 := Lib.hid (S2.out.trans hst)
  have T3 : Hid (D5.Tabs w3) := Lib.hid (stirs_tabs T2.out hst HNE.out)
  clear HX hp hst H2 S2 T2
  have HX := Lib.hid ((HA w3 _ (by rw [HRR.out]; exact H3.out) T3.out).out)
  go_wp2_with fail
  refine (show Calls _ _ _ _ _ from HX.out).mono ?_
  rintro e w8 ⟨rfl, hp, hst⟩
  have HP : Hid (PStep w a (stepE q b).2 (L ++ (stepE q b).1) (.returned (.tuple #[])) (w8.setCell ⟨a, 5, none⟩ (.int .i64 n))) := Lib.hid (by
    rw [E.out]
    refine ⟨rfl, ?_, (S3.out.trans hst).set _ _ (by omega)⟩
    have hf := hp.setSt (n := n) HN14.out
    simpa [List.append_assoc] using hf)
  obtain ⟨u5, k5⟩ := hp.some_cell (i := 5) (by omega)
  have f5 := hp.free 5
  clear HX hp hst HA H3 S3 T3
  go_wp2
  go_end0
  exact HP.out

set_option maxRecDepth 100000 in
theorem step_e24 {w : World} {a : Nat} {q : Q} {L : List EV} (h : IsP w a q L) (hT : D5.Tabs w) (b : UInt8) (hm : q.mids.length ≤ 1000000) (ht : q.text.length ≤ 1000000) (act n : Nat) (ha : actN q.st b.toNat = act) (hn : toN q.st b.toNat = n) (hact : act < 9) (hn14 : n < 14) (h1 : act ≠ 1) (he : endsN q.st n = true) (hcl : clearsN q.st n = false) (hb : b.toNat = 24) :
    Calls Tryd.prog 22 #[.pointer (some ⟨a, 0, none⟩), .int .u8 (b.toNat : Int)] w (PStep w a (stepE q b).2 (L ++ (stepE q b).1)) := by
  have HNx := Lib.hid (pnext_is q.st h.stb b act n ha hn w)
  have HEn := fun W => Lib.hid (pends_is q.st n h.stb hn14 true he W)
  have HCl := fun W => Lib.hid (pclears_is q.st n h.stb hn14 false hcl W)
  have HNE := Lib.hid h.ne
  have HN14 := Lib.hid hn14
  obtain ⟨R, hR⟩ : ∃ R : Q, R = ⟨q.st, [], q.list, q.mids, q.final, q.text⟩ := ⟨_, rfl⟩
  have E : Hid (stepE q b = (markE q ++ [] ++ (doE act R b).1, { (doE act R b).2 with st := n })) := Lib.hid (by
    rw [hR]
    have := pstep_of q b act n true false ha hn h1 he hcl
    rw [show strE q b.toNat = [] by unfold strE; rw [if_pos (by omega)]] at this
    simpa using this)
  have d1 : ((act : Int) == 1) = false := by simp; omega
  have d1' : ((act : Int) != 1) = true := by simp; omega
  have HA := fun (W : World) (L' : List EV) (hI : IsP W a R L') (hTW : D5.Tabs W) => Lib.hid (act_any hI hTW b act hact (by rw [hR]; exact hm) (by rw [hR]; exact ht))
  obtain ⟨s, hs⟩ : ∃ s, s = q.st := ⟨_, rfl⟩
  obtain ⟨x, hx⟩ : ∃ x, x = b.toNat := ⟨_, rfl⟩
  have HSt := Lib.hid hs
  have HRR := Lib.hid hR
  have c5 : w.cell? ⟨a, 5, none⟩ = some (.int .i64 s) := by rw [h.st, hs]
  have H0 := Lib.hid h
  have HTb := Lib.hid hT
  have hx2 : x = 24 := by omega
  rw [← hs] at HNx HEn HCl
  rw [← hx] at HNx HA ⊢
  have HXX := Lib.hid hx
  clear h hT hm ht ha hn hact hn14 h1 he hcl hb hs hx hR
  subst hx2
  go_enter Tryd.func22, Tryd.ntmps22
  go_wp2_with fail
  refine (show Calls _ _ _ _ _ from HNx.out).mono ?_
  rintro e w1 ⟨rfl, hb1⟩
  have H1 := Lib.hid (H0.out.below hb1)
  have S1 : Hid (Stirs a 0 1183 w w1) := Lib.hid (stirs_below hb1 H0.out.lt)
  have T1 : Hid (D5.Tabs w1) := Lib.hid (stirs_tabs HTb.out S1.out HNE.out)
  clear hb1 HNx H0 HTb c5
  have HX := Lib.hid (cut_any H1.out)
  go_wp2_with fail
  refine (show Calls _ _ _ _ _ from HX.out).mono ?_
  rintro e w2 ⟨rfl, hp, hst⟩
  have H2 := Lib.hid hp
  have S2 := Lib.hid (S1.out.trans hst)
  have T2 : Hid (D5.Tabs w2) := Lib.hid (stirs_tabs T1.out hst HNE.out)
  clear HX hp hst H1 S1 T1
  have c5 : w2.cell? ⟨a, 5, none⟩ = some (.int .i64 s) := by rw [H2.out.st, HSt.out]
  go_wp2_with fail
  refine (show Calls _ _ _ _ _ from (HEn _).out).mono ?_
  rintro e w9 ⟨rfl, rfl⟩
  clear HEn
  go_wp2_with fail
  refine (show Calls _ _ _ _ _ from (HCl _).out).mono ?_
  rintro e w9 ⟨rfl, rfl⟩
  clear HCl c5
  have HX := Lib.hid ((HA w2 _ (by rw [HRR.out]; exact H2.out) T2.out).out)
  go_wp2_with fail
  refine (show Calls _ _ _ _ _ from HX.out).mono ?_
  rintro e w8 ⟨rfl, hp, hst⟩
  have HP : Hid (PStep w a (stepE q b).2 (L ++ (stepE q b).1) (.returned (.tuple #[])) (w8.setCell ⟨a, 5, none⟩ (.int .i64 n))) := Lib.hid (by
    rw [E.out]
    refine ⟨rfl, ?_, (S2.out.trans hst).set _ _ (by omega)⟩
    have hf := hp.setSt (n := n) HN14.out
    simpa [List.append_assoc] using hf)
  obtain ⟨u5, k5⟩ := hp.some_cell (i := 5) (by omega)
  have f5 := hp.free 5
  clear HX hp hst HA H2 S2 T2
  go_wp2
  go_end0
  exact HP.out

set_option maxRecDepth 100000 in
theorem step_e26 {w : World} {a : Nat} {q : Q} {L : List EV} (h : IsP w a q L) (hT : D5.Tabs w) (b : UInt8) (hm : q.mids.length ≤ 1000000) (ht : q.text.length ≤ 1000000) (act n : Nat) (ha : actN q.st b.toNat = act) (hn : toN q.st b.toNat = n) (hact : act < 9) (hn14 : n < 14) (h1 : act ≠ 1) (he : endsN q.st n = true) (hcl : clearsN q.st n = false) (hb : b.toNat = 26) :
    Calls Tryd.prog 22 #[.pointer (some ⟨a, 0, none⟩), .int .u8 (b.toNat : Int)] w (PStep w a (stepE q b).2 (L ++ (stepE q b).1)) := by
  have HNx := Lib.hid (pnext_is q.st h.stb b act n ha hn w)
  have HEn := fun W => Lib.hid (pends_is q.st n h.stb hn14 true he W)
  have HCl := fun W => Lib.hid (pclears_is q.st n h.stb hn14 false hcl W)
  have HNE := Lib.hid h.ne
  have HN14 := Lib.hid hn14
  obtain ⟨R, hR⟩ : ∃ R : Q, R = ⟨q.st, [], q.list, q.mids, q.final, q.text⟩ := ⟨_, rfl⟩
  have E : Hid (stepE q b = (markE q ++ [] ++ (doE act R b).1, { (doE act R b).2 with st := n })) := Lib.hid (by
    rw [hR]
    have := pstep_of q b act n true false ha hn h1 he hcl
    rw [show strE q b.toNat = [] by unfold strE; rw [if_pos (by omega)]] at this
    simpa using this)
  have d1 : ((act : Int) == 1) = false := by simp; omega
  have d1' : ((act : Int) != 1) = true := by simp; omega
  have HA := fun (W : World) (L' : List EV) (hI : IsP W a R L') (hTW : D5.Tabs W) => Lib.hid (act_any hI hTW b act hact (by rw [hR]; exact hm) (by rw [hR]; exact ht))
  obtain ⟨s, hs⟩ : ∃ s, s = q.st := ⟨_, rfl⟩
  obtain ⟨x, hx⟩ : ∃ x, x = b.toNat := ⟨_, rfl⟩
  have HSt := Lib.hid hs
  have HRR := Lib.hid hR
  have c5 : w.cell? ⟨a, 5, none⟩ = some (.int .i64 s) := by rw [h.st, hs]
  have H0 := Lib.hid h
  have HTb := Lib.hid hT
  have hx2 : x = 26 := by omega
  rw [← hs] at HNx HEn HCl
  rw [← hx] at HNx HA ⊢
  have HXX := Lib.hid hx
  clear h hT hm ht ha hn hact hn14 h1 he hcl hb hs hx hR
  subst hx2
  go_enter Tryd.func22, Tryd.ntmps22
  go_wp2_with fail
  refine (show Calls _ _ _ _ _ from HNx.out).mono ?_
  rintro e w1 ⟨rfl, hb1⟩
  have H1 := Lib.hid (H0.out.below hb1)
  have S1 : Hid (Stirs a 0 1183 w w1) := Lib.hid (stirs_below hb1 H0.out.lt)
  have T1 : Hid (D5.Tabs w1) := Lib.hid (stirs_tabs HTb.out S1.out HNE.out)
  clear hb1 HNx H0 HTb c5
  have HX := Lib.hid (cut_any H1.out)
  go_wp2_with fail
  refine (show Calls _ _ _ _ _ from HX.out).mono ?_
  rintro e w2 ⟨rfl, hp, hst⟩
  have H2 := Lib.hid hp
  have S2 := Lib.hid (S1.out.trans hst)
  have T2 : Hid (D5.Tabs w2) := Lib.hid (stirs_tabs T1.out hst HNE.out)
  clear HX hp hst H1 S1 T1
  have c5 : w2.cell? ⟨a, 5, none⟩ = some (.int .i64 s) := by rw [H2.out.st, HSt.out]
  go_wp2_with fail
  refine (show Calls _ _ _ _ _ from (HEn _).out).mono ?_
  rintro e w9 ⟨rfl, rfl⟩
  clear HEn
  go_wp2_with fail
  refine (show Calls _ _ _ _ _ from (HCl _).out).mono ?_
  rintro e w9 ⟨rfl, rfl⟩
  clear HCl c5
  have HX := Lib.hid ((HA w2 _ (by rw [HRR.out]; exact H2.out) T2.out).out)
  go_wp2_with fail
  refine (show Calls _ _ _ _ _ from HX.out).mono ?_
  rintro e w8 ⟨rfl, hp, hst⟩
  have HP : Hid (PStep w a (stepE q b).2 (L ++ (stepE q b).1) (.returned (.tuple #[])) (w8.setCell ⟨a, 5, none⟩ (.int .i64 n))) := Lib.hid (by
    rw [E.out]
    refine ⟨rfl, ?_, (S2.out.trans hst).set _ _ (by omega)⟩
    have hf := hp.setSt (n := n) HN14.out
    simpa [List.append_assoc] using hf)
  obtain ⟨u5, k5⟩ := hp.some_cell (i := 5) (by omega)
  have f5 := hp.free 5
  clear HX hp hst HA H2 S2 T2
  go_wp2
  go_end0
  exact HP.out

set_option maxRecDepth 100000 in
theorem step_e_stay {w : World} {a : Nat} {q : Q} {L : List EV} (h : IsP w a q L) (hT : D5.Tabs w) (b : UInt8) (hm : q.mids.length ≤ 1000000) (ht : q.text.length ≤ 1000000) (act n : Nat) (ha : actN q.st b.toNat = act) (hn : toN q.st b.toNat = n) (hact : act < 9) (hn14 : n < 14) (h1 : act ≠ 1) (he : endsN q.st n = true) (hcl : clearsN q.st n = false) (hb : ¬ (b.toNat = 24 ∨ b.toNat = 26)) :
    Calls Tryd.prog 22 #[.pointer (some ⟨a, 0, none⟩), .int .u8 (b.toNat : Int)] w (PStep w a (stepE q b).2 (L ++ (stepE q b).1)) := by
  have HNx := Lib.hid (pnext_is q.st h.stb b act n ha hn w)
  have HEn := fun W => Lib.hid (pends_is q.st n h.stb hn14 true he W)
  have HCl := fun W => Lib.hid (pclears_is q.st n h.stb hn14 false hcl W)
  have HNE := Lib.hid h.ne
  have HN14 := Lib.hid hn14
  obtain ⟨R, hR⟩ : ∃ R : Q, R = ⟨q.st, [], q.list, q.mids, q.final, q.text⟩ := ⟨_, rfl⟩
  have E : Hid (stepE q b = (markE q ++ strE q b.toNat ++ (doE act R b).1, { (doE act R b).2 with st := n })) := Lib.hid (by
    rw [hR]
    have := pstep_of q b act n true false ha hn h1 he hcl
    simpa using this)
  have d1 : ((act : Int) == 1) = false := by simp; omega
  have d1' : ((act : Int) != 1) = true := by simp; omega
  have HA := fun (W : World) (L' : List EV) (hI : IsP W a R L') (hTW : D5.Tabs W) => Lib.hid (act_any hI hTW b act hact (by rw [hR]; exact hm) (by rw [hR]; exact ht))
  have HS : Hid (q.st = 10 ∨ q.st = 12) := Lib.hid (by simp [endsN] at he; exact he.2)
  have HB := Lib.hid hb
  obtain ⟨s, hs⟩ : ∃ s, s = q.st := ⟨_, rfl⟩
  obtain ⟨x, hx⟩ : ∃ x, x = b.toNat := ⟨_, rfl⟩
  have HSt := Lib.hid hs
  have HRR := Lib.hid hR
  have c5 : w.cell? ⟨a, 5, none⟩ = some (.int .i64 s) := by rw [h.st, hs]
  have H0 := Lib.hid h
  have HTb := Lib.hid hT
  have d24 : ((x : Int) == 24) = false := by simp; omega
  have d24' : ((x : Int) != 24) = true := by simp; omega
  have d26 : ((x : Int) == 26) = false := by simp; omega
  have d26' : ((x : Int) != 26) = true := by simp; omega
  rw [← hx] at HB
  rw [← hs] at HNx HEn HCl
  rw [← hx] at HNx HA ⊢
  have HXX := Lib.hid hx
  clear h hT hm ht ha hn hact hn14 h1 he hcl hb hs hx hR
  go_enter Tryd.func22, Tryd.ntmps22
  go_wp2_with fail
  refine (show Calls _ _ _ _ _ from HNx.out).mono ?_
  rintro e w1 ⟨rfl, hb1⟩
  have H1 := Lib.hid (H0.out.below hb1)
  have S1 : Hid (Stirs a 0 1183 w w1) := Lib.hid (stirs_below hb1 H0.out.lt)
  have T1 : Hid (D5.Tabs w1) := Lib.hid (stirs_tabs HTb.out S1.out HNE.out)
  clear hb1 HNx H0 HTb c5
  have HX := Lib.hid (cut_any H1.out)
  go_wp2_with fail
  refine (show Calls _ _ _ _ _ from HX.out).mono ?_
  rintro e w2 ⟨rfl, hp, hst⟩
  have H2 := Lib.hid hp
  have S2 := Lib.hid (S1.out.trans hst)
  have T2 : Hid (D5.Tabs w2) := Lib.hid (stirs_tabs T1.out hst HNE.out)
  clear HX hp hst H1 S1 T1
  have c5 : w2.cell? ⟨a, 5, none⟩ = some (.int .i64 s) := by rw [H2.out.st, HSt.out]
  go_wp2_with fail
  refine (show Calls _ _ _ _ _ from (HEn _).out).mono ?_
  rintro e w9 ⟨rfl, rfl⟩
  clear HEn
  clear c5
  have HX := Lib.hid (str_any H2.out (by exact HS.out) x HB.out)
  go_wp2_with fail
  refine (show Calls _ _ _ _ _ from HX.out).mono ?_
  rintro e w3 ⟨rfl, hp, hst⟩
  have H3 := Lib.hid hp
  have S3 := Lib.hid (S2.out.trans hst)
  have T3 : Hid (D5.Tabs w3) := Lib.hid (stirs_tabs T2.out hst HNE.out)
  clear HX hp hst H2 S2 T2
  have c5 : w3.cell? ⟨a, 5, none⟩ = some (.int .i64 s) := by rw [H3.out.st, HSt.out]
  go_wp2_with fail
  refine (show Calls _ _ _ _ _ from (HCl _).out).mono ?_
  rintro e w9 ⟨rfl, rfl⟩
  clear HCl c5
  have HX := Lib.hid ((HA w3 _ (by rw [HRR.out]; exact H3.out) T3.out).out)
  go_wp2_with fail
  refine (show Calls _ _ _ _ _ from HX.out).mono ?_
  rintro e w8 ⟨rfl, hp, hst⟩
  have HP : Hid (PStep w a (stepE q b).2 (L ++ (stepE q b).1) (.returned (.tuple #[])) (w8.setCell ⟨a, 5, none⟩ (.int .i64 n))) := Lib.hid (by
    rw [E.out]
    refine ⟨rfl, ?_, (S3.out.trans hst).set _ _ (by omega)⟩
    have hf := hp.setSt (n := n) HN14.out
    rw [HXX.out] at hf
    have hf : IsP _ a _ (L ++ markE q ++ strE q b.toNat ++ (doE act R b).1) := hf
    simpa [List.append_assoc] using hf)
  obtain ⟨u5, k5⟩ := hp.some_cell (i := 5) (by omega)
  have f5 := hp.free 5
  clear HX hp hst HA H3 S3 T3
  go_wp2
  go_end0
  exact HP.out

set_option maxRecDepth 100000 in
theorem step_e_clears {w : World} {a : Nat} {q : Q} {L : List EV} (h : IsP w a q L) (hT : D5.Tabs w) (b : UInt8) (hm : q.mids.length ≤ 1000000) (ht : q.text.length ≤ 1000000) (act n : Nat) (ha : actN q.st b.toNat = act) (hn : toN q.st b.toNat = n) (hact : act < 9) (hn14 : n < 14) (h1 : act ≠ 1) (he : endsN q.st n = true) (hcl : clearsN q.st n = true) (hb : ¬ (b.toNat = 24 ∨ b.toNat = 26)) :
    Calls Tryd.prog 22 #[.pointer (some ⟨a, 0, none⟩), .int .u8 (b.toNat : Int)] w (PStep w a (stepE q b).2 (L ++ (stepE q b).1)) := by
  have HNx := Lib.hid (pnext_is q.st h.stb b act n ha hn w)
  have HEn := fun W => Lib.hid (pends_is q.st n h.stb hn14 true he W)
  have HCl := fun W => Lib.hid (pclears_is q.st n h.stb hn14 true hcl W)
  have HNE := Lib.hid h.ne
  have HN14 := Lib.hid hn14
  obtain ⟨R, hR⟩ : ∃ R : Q, R = ⟨q.st, [], [], [], q.final, []⟩ := ⟨_, rfl⟩
  have E : Hid (stepE q b = (markE q ++ strE q b.toNat ++ (doE act R b).1, { (doE act R b).2 with st := n })) := Lib.hid (by
    rw [hR]
    have := pstep_of q b act n true true ha hn h1 he hcl
    simpa using this)
  have d1 : ((act : Int) == 1) = false := by simp; omega
  have d1' : ((act : Int) != 1) = true := by simp; omega
  have HA := fun (W : World) (L' : List EV) (hI : IsP W a R L') (hTW : D5.Tabs W) => Lib.hid (act_any hI hTW b act hact (by rw [hR]; simp) (by rw [hR]; simp))
  have HS : Hid (q.st = 10 ∨ q.st = 12) := Lib.hid (by simp [endsN] at he; exact he.2)
  have HB := Lib.hid hb
  obtain ⟨s, hs⟩ : ∃ s, s = q.st := ⟨_, rfl⟩
  obtain ⟨x, hx⟩ : ∃ x, x = b.toNat := ⟨_, rfl⟩
  have HSt := Lib.hid hs
  have HRR := Lib.hid hR
  have c5 : w.cell? ⟨a, 5, none⟩ = some (.int .i64 s) := by rw [h.st, hs]
  have H0 := Lib.hid h
  have HTb := Lib.hid hT
  have d24 : ((x : Int) == 24) = false := by simp; omega
  have d24' : ((x : Int) != 24) = true := by simp; omega
  have d26 : ((x : Int) == 26) = false := by simp; omega
  have d26' : ((x : Int) != 26) = true := by simp; omega
  rw [← hx] at HB
  rw [← hs] at HNx HEn HCl
  rw [← hx] at HNx HA ⊢
  have HXX := Lib.hid hx
  clear h hT hm ht ha hn hact hn14 h1 he hcl hb hs hx hR
  go_enter Tryd.func22, Tryd.ntmps22
  go_wp2_with fail
  refine (show Calls _ _ _ _ _ from HNx.out).mono ?_
  rintro e w1 ⟨rfl, hb1⟩
  have H1 := Lib.hid (H0.out.below hb1)
  have S1 : Hid (Stirs a 0 1183 w w1) := Lib.hid (stirs_below hb1 H0.out.lt)
  have T1 : Hid (D5.Tabs w1) := Lib.hid (stirs_tabs HTb.out S1.out HNE.out)
  clear hb1 HNx H0 HTb c5
  have HX := Lib.hid (cut_any H1.out)
  go_wp2_with fail
  refine (show Calls _ _ _ _ _ from HX.out).mono ?_
  rintro e w2 ⟨rfl, hp, hst⟩
  have H2 := Lib.hid hp
  have S2 := Lib.hid (S1.out.trans hst)
  have T2 : Hid (D5.Tabs w2) := Lib.hid (stirs_tabs T1.out hst HNE.out)
  clear HX hp hst H1 S1 T1
  have c5 : w2.cell? ⟨a, 5, none⟩ = some (.int .i64 s) := by rw [H2.out.st, HSt.out]
  go_wp2_with fail
  refine (show Calls _ _ _ _ _ from (HEn _).out).mono ?_
  rintro e w9 ⟨rfl, rfl⟩
  clear HEn
  clear c5
  have HX := Lib.hid (str_any H2.out (by exact HS.out) x HB.out)
  go_wp2_with fail
  refine (show Calls _ _ _ _ _ from HX.out).mono ?_
  rintro e w3 ⟨rfl, hp, hst⟩
  have H3 := Lib.hid hp
  have S3 := Lib.hid (S2.out.trans hst)
  have T3 : Hid (D5.Tabs w3) := Lib.hid (stirs_tabs T2.out hst HNE.out)
  clear HX hp hst H2 S2 T2
  have c5 : w3.cell? ⟨a, 5, none⟩ = some (.int .i64 s) := by rw [H3.out.st, HSt.out]
  go_wp2_with fail
  refine (show Calls _ _ _ _ _ from (HCl _).out).mono ?_
  rintro e w9 ⟨rfl, rfl⟩
  clear HCl c5
  have HX := Lib.hid (clear_seq H3.out)
  go_wp2_with fail
  refine (show Calls _ _ _ _ _ from HX.out).mono ?_
  rintro e w4 ⟨rfl, hp, hst⟩
  have H4 := Lib.hid hp
  have S4 := Lib.hid (S3.out.trans hst)
  have T4 : Hid (D5.Tabs w4) := Lib.hid (stirs_tabs T3.out hst HNE.out)
  clear HX hp hst H3 S3 T3
  have HX := Lib.hid ((HA w4 _ (by rw [HRR.out]; exact H4.out) T4.out).out)
  go_wp2_with fail
  refine (show Calls _ _ _ _ _ from HX.out).mono ?_
  rintro e w8 ⟨rfl, hp, hst⟩
  have HP : Hid (PStep w a (stepE q b).2 (L ++ (stepE q b).1) (.returned (.tuple #[])) (w8.setCell ⟨a, 5, none⟩ (.int .i64 n))) := Lib.hid (by
    rw [E.out]
    refine ⟨rfl, ?_, (S4.out.trans hst).set _ _ (by omega)⟩
    have hf := hp.setSt (n := n) HN14.out
    rw [HXX.out] at hf
    have hf : IsP _ a _ (L ++ markE q ++ strE q b.toNat ++ (doE act R b).1) := hf
    simpa [List.append_assoc] using hf)
  obtain ⟨u5, k5⟩ := hp.some_cell (i := 5) (by omega)
  have f5 := hp.free 5
  clear HX hp hst HA H4 S4 T4
  go_wp2
  go_end0
  exact HP.out

end Go.Proofs.YtkenaccnmmmooaaDoor
