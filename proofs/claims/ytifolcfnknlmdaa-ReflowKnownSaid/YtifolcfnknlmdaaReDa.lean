/- Layer 15: the document's Paragraphs, walked. -/
import Derived.Test.YtifolcfnknlmdaaReD
set_option linter.unusedVariables false
namespace Go.Proofs.Ytifolcfnknlmdaa.Re
open Go.RowKit Go.Proofs.Ytifolcfnknlmdaa.Rw

/-- A slice's length. -/
def sliceLen : Value → Nat
  | .slice _ n _ => n
  | _ => 0
/-- The open paragraph: at line j, with what it has. -/
structure POpen (S n : Nat) (V2 wz : World) (l : List LnC) (ps : List (List Ce)) (fs : List Nat) (j : Nat) (vc : Value) (acc : List Ce) : Prop where
  lt : j < n
  own : OwnC wz S vc acc
  old : Below S V2 wz
  par : paras blC l = ps ++ parasA blC acc (l.drop j)
  sta : startsB 0 l = fs ++ contA j (l.drop j)
  sum : acc.length + sumV (l.drop j) ≤ 100000
set_option maxRecDepth 100000 in
set_option maxHeartbeats 8000000 in
theorem paras_any {F : Nat → Prop} {v : Value} {l : List LnC} {w : World} (h : LinesAt F w v l) (hl : l.length ≤ 100000) (hs : sumV l ≤ 100000) : Calls Try.prog 29 #[v] w (ParasPost w l) := by
  obtain ⟨A, c, rfl, -⟩ := id h
  obtain ⟨n, hn⟩ : ∃ n, n = l.length := ⟨_, rfl⟩
  rw [← hn] at h hl ⊢
  have HL := Lib.hid h
  have HN := Lib.hid hn
  have HS := Lib.hid hs
  clear h hn hs
  go_enter Try.func29, Try.ntmps29
  go_wp2
  go_loopw [4, 5, 6, 7] (fun vo vf i vc wr => ∃ (k : Nat) (us : List Value) (ps : List (List Ce)) (fs : List Nat) (wz : World) (voz vfz : Value), wz = wr ∧ voz = vo ∧ vfz = vf ∧ k ≤ n ∧ i = .int .i64 k ∧ ps.length ≤ k ∧ fs.length ≤ k ∧ Hid (PState w.heap.size wz voz vfz us ps fs) ∧ Hid (Below w.heap.size w wz) ∧ Hid (paras blC l = ps ++ parasA blC [] (l.drop k) ∧ startsB 0 l = fs ++ startsB k (l.drop k))) (fun _ _ i _ _ => n - (RowKit.intOf i).toNat)
  case atStart => exact ⟨0, [], [], [], _, _, _, rfl, rfl, rfl, Nat.zero_le _, rfl, Nat.zero_le _, Nat.zero_le _, Lib.hid (PState.none _ _), Lib.hid (Below.refl _ _), Lib.hid ⟨rfl, rfl⟩⟩
  case round =>
    obtain ⟨k, us, ps, fs, wr, vo, vf, rfl, rfl, rfl, hk, rfl, hpl, hfl, HP, HBw, HX⟩ := hrel
    by_cases hlt : k < n
    · have glt : decide ((k : Int) < (n : Int)) = true := by simp; omega
      -- where it begins
      have hal : Below wr.heap.size wr (wr.alloc (.cells #[.int .i64 (k : Int)] 3)) := (Below.refl _ _).alloc (Nat.le_refl _) _
      have HP1 := Lib.hid (HP.out.below hal)
      have HB1 := Lib.hid (HBw.out.alloc HBw.out.size (.cells #[.int .i64 (k : Int)] 3))
      have H1 := Lib.hid (one_el (T := 3) wr [.int .i64 (k : Int)])
      have hls : (intsOf fs).length ≤ 1000000 := by simp [intsOf]; omega
      clear hal HBw HP
      go_wp2_with (at_builtin; refine append_el elInt _ rfl (.tmp 14) (.tmp 16) rfl w.heap.size _ (intsOf fs) [.int .i64 (k : Int)] ⟨wr.heap.size, 0, none⟩ rfl HP1.out.fst rfl H1.out rfl (by intro u hu; rw [List.mem_singleton] at hu; subst hu; rfl) hls HB1.out.size ?_)
      intro gf cf V2 of2 gr2
      have HP2 : Hid (PState w.heap.size V2 vo (.slice (some ⟨gf, 0, none⟩) ((intsOf fs).length + 1) cf) us ps (fs ++ [k])) := Lib.hid (HP1.out.first (by rw [ints_snoc]; exact of2) gr2)
      have HB2 := Lib.hid (grownG HB1.out gr2 HP1.out.fst HB1.out.size (Nat.le_refl _))
      obtain ⟨S, hS⟩ : ∃ S, S = V2.heap.size := ⟨_, rfl⟩
      have HSz := Lib.hid hS
      have H0 : Hid (POpen S n V2 V2 l ps (fs ++ [k]) k (.slice none 0 0) []) := Lib.hid ⟨hlt, own_none _ _, Below.refl _ _, HX.out.1, by rw [HX.out.2, drop_at (by rw [← HN.out]; exact hlt), starts_cons, List.append_assoc]; rfl, by rw [List.length_nil, Nat.zero_add]; exact Nat.le_trans (sum_drop l k) HS.out⟩
      have hf1 : (fs ++ [k]).length ≤ k + 1 := by rw [List.length_append, List.length_singleton]; omega
      generalize fs ++ [k] = fs1 at *
      generalize Value.slice (some ⟨gf, 0, none⟩) ((intsOf fs).length + 1) cf = vf1 at *
      clear of2 gr2 HP1 HB1 H1 hls HX hfl hS
      go_wp2
      go_loopw [6, 7] (fun i vc wr => ∃ (j : Nat) (acc : List Ce) (wz : World) (vz : Value), wz = wr ∧ vz = vc ∧ i = .int .i64 j ∧ k ≤ j ∧ j < n ∧ Hid (POpen S n V2 wz l ps fs1 j vz acc)) (fun i _ _ => n - (RowKit.intOf i).toNat)
      case atStart => exact ⟨k, [], _, _, rfl, rfl, rfl, Nat.le_refl _, hlt, H0⟩
      case round =>
        obtain ⟨j, acc, W, vc, rfl, rfl, rfl, hkj, hjn, HO⟩ := hrel
        have hbW : Below w.heap.size w W := HB2.out.trans (HO.out.old.mono (by have := HSz.out; have := HB2.out.size; omega))
        obtain ⟨b, o, u, rfl, -, hb, q0, q1, q2, r0⟩ := HL.out.at_ hjn
        obtain ⟨A', c', rfl, -⟩ := id r0.1
        obtain ⟨N, hN⟩ : ∃ N, N = (l.getD j noLn).cells.length := ⟨_, rfl⟩
        obtain ⟨M, hM⟩ : ∃ M, M = cntN (l.getD j noLn) := ⟨_, rfl⟩
        have hMN : M ≤ N := by rw [hM, hN]; exact cntN_le _
        rw [← hN] at q0 r0
        have i1 := idx_given b o n c j hjn
        have hup := upto_cells r0.1 M hMN
        have i2 := hup.1
        have Q0 := fun (V : World) (hV : Below w.heap.size w V) => (hV.cell (p := ⟨b, o + j * 3, none⟩) hb).trans q0
        have Q1 := fun (V : World) (hV : Below w.heap.size w V) => (hV.cell (p := ⟨b, o + j * 3 + 1, none⟩) hb).trans q1
        have Q2 := fun (V : World) (hV : Below w.heap.size w V) => (hV.cell (p := ⟨b, o + j * 3 + 2, none⟩) hb).trans q2
        have hd := below_drew hbW 1
        have hdr : l.drop j = l.getD j noLn :: l.drop (j + 1) := drop_at (by rw [← HN.out]; exact hjn)
        have hsum : acc.length + N + sumV (l.drop (j + 1)) ≤ 100000 := by
          have := HO.out.sum
          rw [hdr, sum_cons, ← hN] at this
          omega
        have KC : Hid (Calls Try.prog 31 #[.agg #[.slice A' N c', .bool (l.getD j noLn).joined, .bool (l.getD j noLn).short]] W.drew fun e w' => e = .returned (.int .i64 (M : Int)) ∧ Below W.heap.size W w' ∧ Below w.heap.size w w') := Lib.hid (by
          have := count_any (A := A') (c := c') (l.getD j noLn).joined (l.getD j noLn).short W.drew (n := N) (by omega)
          refine this.mono fun e w' ⟨he, hb⟩ => ⟨?_, (below_drew (Below.refl _ _) 1).trans hb, hd.trans (hb.mono hd.size)⟩
          rw [he, hM, cntN, ← hN])
        have HLi := Lib.hid hup.2
        have HLn : Hid ((l.getD j noLn).cells.take M = cnt (l.getD j noLn)) := Lib.hid (by rw [cnt_take, hM])
        have HDr := Lib.hid hdr
        have HSm := Lib.hid hsum
        have HbW := Lib.hid hbW
        have hla : acc.length + M ≤ 100000 := by omega
        have hll : ((l.getD j noLn).cells.take M).length = M := by rw [List.length_take, ← hN]; omega
        have HLl := Lib.hid hll
        obtain ⟨J, hJ⟩ : ∃ J, J = (l.getD j noLn).joined := ⟨_, rfl⟩
        obtain ⟨Sh, hSh⟩ : ∃ J, J = (l.getD j noLn).short := ⟨_, rfl⟩
        rw [← hJ] at Q1 KC
        rw [← hSh] at Q2 KC
        have HJ := Lib.hid hJ
        clear hup q0 q1 q2 r0 hN hM hdr hsum hbW hJ hSh hll
        generalize (l.getD j noLn).cells.take M = cs at *
        go_wp2_with fail
        go_region_held3 (fun V => Below w.heap.size w V) (assumption)
          (first
            | (go_at_call 31; (with_reducible refine (KC.out).mono ?_); rintro e v1 ⟨rfl, j1, j2⟩)
            | (refine step_append_cells rfl (.tmp 18) (.tmp 29) rfl S _ (.slice A' M c') acc cs (by simp [Act.eval]) (own_below HO.out.own j1 (Nat.le_refl _)) (by simp [Act.eval]) (HLi.out.below j2) (by have := HLl.out; omega) (by have := j1.size; have := HO.out.old.size; have := HSz.out; omega) ?_; intro A2 R c2 w2 hR0 ho2 gr2; have hRh := Lib.hid hR0; clear hR0; have j3 : Below w.heap.size w w2 := j2.grown gr2 j2.size (fun g e => by have := own_ge HO.out.own g e; have := HSz.out; have := HB2.out.size; omega)))
        have q1 := Q1 w2 j3
        have hR2 : R = acc.length + M := by rw [hRh.out, List.length_append, HLl.out]
        have HO2 : Hid (OwnC w2 S (.slice A2 R c2) (acc ++ cnt (l.getD j noLn)) ∧ Below S V2 w2 ∧ Below w.heap.size w w2) := Lib.hid ⟨by rw [← HLn.out]; exact ho2, (HO.out.old.trans (j1.mono (by have := HO.out.old.size; have := HSz.out; omega))).grown gr2 (by have := j1.size; have := HO.out.old.size; have := HSz.out; omega) (fun g e => own_ge HO.out.own g e), j3⟩
        have hPS : parasA blC acc (l.drop j) = parasA blC acc (l.getD j noLn :: l.drop (j + 1)) ∧ contA j (l.drop j) = contA j (l.getD j noLn :: l.drop (j + 1)) := by rw [HDr.out]; exact ⟨rfl, rfl⟩
        have HPS := Lib.hid hPS
        have HPr := Lib.hid (And.intro HO.out.par HO.out.sta)
        have hrest : ∀ x : List LnC, x = l.drop (j + 1) → (x = [] ↔ j + 1 = n) := fun x hx => by rw [hx, List.drop_eq_nil_iff, ← HN.out]; omega
        have HRs := Lib.hid hrest
        have HRl : Hid (R = acc.length + M) := Lib.hid hR2
        have hR3 : R ≤ 100000 := by omega
        obtain ⟨n1, hn1⟩ : ∃ n1, n = n1 + 1 := ⟨n - 1, by omega⟩
        have z1 : IntKind.i64.wrap ((n : Int) - 1) = (n1 : Int) := by rw [IntWalk.i64_in _ (by omega)]; omega
        have HN1 := Lib.hid hn1
        have HSm2 : Hid (R + sumV (l.drop (j + 1)) ≤ 100000) := Lib.hid (by have := HSm.out; omega)
        clear Q0 Q1 Q2 i2 KC HLi HLn HDr HSm hb hMN hd j1 j2 j3 ho2 gr2 HO hPS hrest hRh hR2 HLl hla HRl HbW
        have hways : (J = false ∨ (J = true ∧ j = n1)) ∨ (J = true ∧ j + 1 < n) := by
          cases J
          · exact Or.inl (Or.inl rfl)
          · by_cases e : j = n1
            · exact Or.inl (Or.inr ⟨rfl, e⟩)
            · exact Or.inr ⟨rfl, by omega⟩
        rcases hways with hbr | ⟨rfl, hjl⟩
        · have HP3 : Hid (paras blC l = ps ++ (trim blC (acc ++ cnt (l.getD j noLn)) :: parasA blC [] (l.drop (j + 1))) ∧ startsB 0 l = fs1 ++ startsB (j + 1) (l.drop (j + 1))) := Lib.hid (by
            have hopen : (l.getD j noLn).joined = false ∨ l.drop (j + 1) = [] := by
              rcases hbr with e | ⟨_, e⟩
              · exact Or.inl (by rw [← HJ.out, e])
              · exact Or.inr ((HRs.out _ rfl).2 (by omega))
            exact ⟨by rw [HPr.out.1, HPS.out.1, paras_open _ _ _ hopen], by rw [HPr.out.2, HPS.out.2, cont_last _ _ _ hopen]⟩)
          obtain ⟨P, hP⟩ : ∃ P, P = acc ++ cnt (l.getD j noLn) := ⟨_, rfl⟩
          rw [← hP] at HP3 HO2
          have hPl : P.length = R := by have := (own_lies HO2.out.1).row.1; omega
          have HPl := Lib.hid hPl
          clear HJ HRs HPr HPS hP hPl HSm2 hn1
          rcases hbr with rfl | ⟨rfl, rfl⟩
          all_goals
            go_wp2
            go_loopw [7] (fun vc wr => ∃ (m : Nat) (A : Option Addr) (c : Nat) (wz : World), wz = wr ∧ vc = .slice A m c ∧ m ≤ R ∧ Hid (OwnC wz S (.slice A m c) (P.take m) ∧ Below S V2 wz ∧ Below w.heap.size w wz ∧ trim blC (P.take m) = trim blC P)) (fun vc _ => sliceLen vc)
            case atStart => exact ⟨R, A2, c2, _, rfl, rfl, Nat.le_refl _, Lib.hid (by rw [List.take_of_length_le (by rw [HPl.out]; exact Nat.le_refl _)]; exact ⟨HO2.out.1, HO2.out.2.1, HO2.out.2.2, rfl⟩)⟩
            case round =>
              obtain ⟨m, A3, c3, W3, rfl, rfl, hm, HT⟩ := hrel
              have hts : (P.take m).length = m := by rw [List.length_take, HPl.out]; omega
              by_cases hm0 : m = 0
              · have gt0 : decide ((m : Int) > 0) = false := decide_eq_false (by omega)
                have gt0' : decide (0 < m) = false := decide_eq_false (by omega)
                have HEx : Hid (OwnC W3 S (.slice A3 m c3) (trim blC P) ∧ Below S V2 W3 ∧ Below w.heap.size w W3) := Lib.hid ⟨by rw [← HT.out.2.2.2, show P.take m = [] by rw [hm0]; rfl]; have := HT.out.1; rw [show P.take m = [] by rw [hm0]; rfl] at this; exact this, HT.out.2.1, HT.out.2.2.1⟩
                clear HT hm0 hts
                have hAl : Below W3.heap.size W3 (W3.alloc (.cells #[.slice A3 m c3] 28)) := (Below.refl _ _).alloc (Nat.le_refl _) _
                have HP5 := Lib.hid ((HP2.out.below (by rw [← HSz.out]; exact HEx.out.2.1)).below hAl)
                have HB5 := Lib.hid (HEx.out.2.2.alloc HEx.out.2.2.size (.cells #[.slice A3 m c3] 28))
                have H5 := Lib.hid (one_el (T := 28) W3 [.slice A3 m c3])
                have HC5 := Lib.hid (own_less (B := w.heap.size) (own_below HEx.out.1 hAl (Nat.le_refl _)) (by have := HSz.out; have := HB2.out.size; omega))
                have hls5 : (rowsOf us).length ≤ 1000000 := by simp [rowsOf]; have := HP2.out.len; omega
                have hlen6 : (ps ++ [trim blC P]).length ≤ j + 1 := by rw [List.length_append, List.length_singleton]; omega
                clear hAl HEx
                go_wp2_with (at_builtin; refine append_el elRow _ rfl (.tmp 63) (.tmp 65) rfl w.heap.size _ (rowsOf us) [.slice A3 m c3] ⟨W3.heap.size, 0, none⟩ rfl HP5.out.out rfl H5.out rfl (by intro u hu; rw [List.mem_singleton] at hu; subst hu; rfl) hls5 HB5.out.size ?_)
                intro g6 c6 w6 o6 gr6
                have HP6 := Lib.hid (HP5.out.more HC5.out (by rw [rows_snoc]; exact o6) gr6)
                have HB6 := Lib.hid (grownG HB5.out gr6 HP5.out.out HB5.out.size (Nat.le_refl _))
                generalize Value.slice (some ⟨g6, 0, none⟩) ((rowsOf us).length + 1) c6 = vo6 at *
                clear o6 gr6 HP5 HB5 H5 HC5 hls5
                have HX6 : Hid (paras blC l = (ps ++ [trim blC P]) ++ parasA blC [] (l.drop (j + 1)) ∧ startsB 0 l = fs1 ++ startsB (j + 1) (l.drop (j + 1))) := Lib.hid ⟨by rw [HP3.out.1, List.append_assoc]; rfl, HP3.out.2⟩
                go_wp2
                go_roundw
                case rel => exact ⟨j + 1, _, _, fs1, _, _, _, rfl, rfl, rfl, by omega, by go_num, hlen6, by omega, HP6, HB6, HX6⟩
                case measure => simp [RowKit.intOf]; omega
              · obtain ⟨m1, rfl⟩ : ∃ m1, m = m1 + 1 := ⟨m - 1, by omega⟩
                have gt0 : decide (((m1 + 1 : Nat) : Int) > 0) = true := decide_eq_true (by omega)
                have gt0' : decide (0 < m1 + 1) = true := decide_eq_true (by omega)
                have zm : IntKind.i64.wrap (((m1 + 1 : Nat) : Int) - 1) = (m1 : Int) := by rw [IntWalk.i64_in _ (by omega)]; omega
                obtain ⟨N3, hN3⟩ : ∃ N3, N3 = m1 + 1 := ⟨_, rfl⟩
                rw [← hN3] at gt0 gt0' zm HT hm hts ⊢
                have hli := own_lies HT.out.1
                obtain ⟨b3, o3, rfl, hb3, p0, p1, p2, p3, p4, p5, p6⟩ := hli.row.2.2.2.at_ (k := m1) (by omega)
                have i3 := idx_cell b3 o3 N3 c3 m1 (by omega)
                have s3 := (upto_cells hli m1 (by omega)).1
                have hcv : cellV (P.take N3) m1 = cellV P m1 := by rw [cell_take, if_pos (by omega)]
                have KP := Lib.hid (plain_any (cellV P m1) W3)
                rw [hcv] at p0 p1 p2 p3 p4 p5 p6
                by_cases hbl : cellV P m1 = blC
                · rw [decide_eq_true hbl] at KP
                  have HT2 : Hid (OwnC W3 S (.slice (some ⟨b3, o3, none⟩) m1 c3) (P.take m1) ∧ Below S V2 W3 ∧ Below w.heap.size w W3 ∧ trim blC (P.take m1) = trim blC P) := Lib.hid (by
                    have h1 := ownC_take HT.out.1 m1 (by omega) (by omega)
                    rw [List.take_take, Nat.min_eq_left (by omega)] at h1
                    exact ⟨h1, HT.out.2.1, HT.out.2.2.1, by rw [← HT.out.2.2.2, hN3, trim_less P m1 (by rw [HPl.out]; omega) hbl]⟩)
                  generalize cellV P m1 = x at *
                  obtain ⟨xr, xw, ⟨xa, xb, xc, xd, xe⟩⟩ := x
                  dsimp only at p0 p1 p2 p3 p4 p5 p6
                  have HN3 := Lib.hid hN3
                  clear hli hbl hcv HT hts hb3 hN3
                  go_wp2_with fail
                  refine (show Calls _ _ _ _ _ from KP.out).mono ?_
                  rintro e w4 ⟨rfl, hb4⟩
                  have HT3 : Hid (OwnC w4 S (.slice (some ⟨b3, o3, none⟩) m1 c3) (P.take m1) ∧ Below S V2 w4 ∧ Below w.heap.size w w4 ∧ trim blC (P.take m1) = trim blC P) := Lib.hid ⟨own_below HT2.out.1 hb4 (Nat.le_refl _), HT2.out.2.1.trans (hb4.mono (by have := HT2.out.2.1.size; have := HSz.out; omega)), HT2.out.2.2.1.trans (hb4.mono HT2.out.2.2.1.size), HT2.out.2.2.2⟩
                  clear hb4 KP HT2 p0 p1 p2 p3 p4 p5 p6
                  go_wp2
                  go_roundw
                  case rel => exact ⟨m1, _, _, _, rfl, rfl, by have := HN3.out; omega, HT3⟩
                  case measure => have := HN3.out; simp [sliceLen]; omega
                · rw [decide_eq_false hbl] at KP
                  have HEx0 : Hid (OwnC W3 S (.slice (some ⟨b3, o3, none⟩) N3 c3) (trim blC P) ∧ Below S V2 W3 ∧ Below w.heap.size w W3) := Lib.hid ⟨by
                    have hk : P.take N3 = trim blC P := by rw [← HT.out.2.2.2, hN3, trim_keep P m1 (by rw [HPl.out]; omega) hbl]
                    rw [← hk]; exact HT.out.1, HT.out.2.1, HT.out.2.2.1⟩
                  generalize cellV P m1 = x at *
                  obtain ⟨xr, xw, ⟨xa, xb, xc, xd, xe⟩⟩ := x
                  dsimp only at p0 p1 p2 p3 p4 p5 p6
                  have HN3 := Lib.hid hN3
                  clear hli hbl hcv HT hts hb3 hN3
                  go_wp2_with fail
                  refine (show Calls _ _ _ _ _ from KP.out).mono ?_
                  rintro e w4 ⟨rfl, hb4⟩
                  have HEx : Hid (OwnC w4 S (.slice (some ⟨b3, o3, none⟩) N3 c3) (trim blC P) ∧ Below S V2 w4 ∧ Below w.heap.size w w4) := Lib.hid ⟨own_below HEx0.out.1 hb4 (Nat.le_refl _), HEx0.out.2.1.trans (hb4.mono (by have := HEx0.out.2.1.size; have := HSz.out; omega)), HEx0.out.2.2.trans (hb4.mono HEx0.out.2.2.size)⟩
                  clear hb4 KP HEx0 p0 p1 p2 p3 p4 p5 p6
                  have hAl : Below w4.heap.size w4 (w4.alloc (.cells #[.slice (some ⟨b3, o3, none⟩) N3 c3] 28)) := (Below.refl _ _).alloc (Nat.le_refl _) _
                  have HP5 := Lib.hid ((HP2.out.below (by rw [← HSz.out]; exact HEx.out.2.1)).below hAl)
                  have HB5 := Lib.hid (HEx.out.2.2.alloc HEx.out.2.2.size (.cells #[.slice (some ⟨b3, o3, none⟩) N3 c3] 28))
                  have H5 := Lib.hid (one_el (T := 28) w4 [.slice (some ⟨b3, o3, none⟩) N3 c3])
                  have HC5 := Lib.hid (own_less (B := w.heap.size) (own_below HEx.out.1 hAl (Nat.le_refl _)) (by have := HSz.out; have := HB2.out.size; omega))
                  have hls5 : (rowsOf us).length ≤ 1000000 := by simp [rowsOf]; have := HP2.out.len; omega
                  have hlen6 : (ps ++ [trim blC P]).length ≤ j + 1 := by rw [List.length_append, List.length_singleton]; omega
                  clear hAl HEx
                  go_wp2_with (at_builtin; refine append_el elRow _ rfl (.tmp 63) (.tmp 65) rfl w.heap.size _ (rowsOf us) [.slice (some ⟨b3, o3, none⟩) N3 c3] ⟨w4.heap.size, 0, none⟩ rfl HP5.out.out rfl H5.out rfl (by intro u hu; rw [List.mem_singleton] at hu; subst hu; rfl) hls5 HB5.out.size ?_)
                  intro g6 c6 w6 o6 gr6
                  have HP6 := Lib.hid (HP5.out.more HC5.out (by rw [rows_snoc]; exact o6) gr6)
                  have HB6 := Lib.hid (grownG HB5.out gr6 HP5.out.out HB5.out.size (Nat.le_refl _))
                  generalize Value.slice (some ⟨g6, 0, none⟩) ((rowsOf us).length + 1) c6 = vo6 at *
                  clear o6 gr6 HP5 HB5 H5 HC5 hls5
                  have HX6 : Hid (paras blC l = (ps ++ [trim blC P]) ++ parasA blC [] (l.drop (j + 1)) ∧ startsB 0 l = fs1 ++ startsB (j + 1) (l.drop (j + 1))) := Lib.hid ⟨by rw [HP3.out.1, List.append_assoc]; rfl, HP3.out.2⟩
                  go_wp2
                  go_roundw
                  case rel => exact ⟨j + 1, _, _, fs1, _, _, _, rfl, rfl, rfl, by omega, by go_num, hlen6, by omega, HP6, HB6, HX6⟩
                  case measure => simp [RowKit.intOf]; omega
        · have gE : ((j : Int) == (n1 : Int)) = false := by simp; omega
          have HP3 : Hid (POpen S n V2 w2 l ps fs1 (j + 1) (.slice A2 R c2) (acc ++ cnt (l.getD j noLn))) := Lib.hid (by
            have hne : l.drop (j + 1) ≠ [] := fun e => by have := (HRs.out _ rfl).1 e; omega
            exact ⟨hjl, HO2.out.1, HO2.out.2.1, by rw [HPr.out.1, HPS.out.1, parasA_joined blC _ _ _ HJ.out.symm hne], by rw [HPr.out.2, HPS.out.2, cont_joined _ _ _ HJ.out.symm hne], by have := (own_lies HO2.out.1).row.1; have := HSm2.out; omega⟩)
          clear HJ HRs HPr HPS HSm2 HO2 hn1
          go_wp2
          go_roundw
          case rel => exact ⟨j + 1, _, _, _, rfl, rfl, by go_num, by omega, hjl, HP3⟩
          case measure => simp [RowKit.intOf]; omega
    · have hkn : k = n := by omega
      have glt : decide ((k : Int) < (n : Int)) = false := by simp; omega
      have HF : Hid (PState w.heap.size wr vo vf us (paras blC l) (startsB 0 l)) := Lib.hid (by
        have hd : l.drop k = [] := List.drop_eq_nil_of_le (by rw [← HN.out]; omega)
        have hx := HX.out
        rw [hd] at hx
        rw [hx.1, hx.2]
        simp only [starts_nil, List.append_nil, parasA]
        exact HP.out)
      clear HP HX hkn
      go_wp2
      go_ret2
      exact ⟨_, _, _, rfl, HF.out, HBw.out⟩
end Go.Proofs.Ytifolcfnknlmdaa.Re
