/- Layer 8: EventsPieces' walk. -/
import Derived.Test.YtfekjlajagoooaaDoorEpW
import Derived.LoopTactic
set_option linter.unusedVariables false
namespace Go.Proofs.YtfekjlajagoooaaDoor
open Go.RowKit Ev

/-- A slice of bytes that came in. -/
def U8sIn (w : World) (B : Nat) (A : Option Addr) (n : Nat) (X : Nat → Nat) : Prop := 0 < n → ∃ b o, A = some ⟨b, o, none⟩ ∧ b < B ∧ ∀ i, i < n → w.cell? ⟨b, o + i, none⟩ = some (.int .u8 (X i)) ∧ X i < 256

theorem ext_lo (a : ByteArray) (m : Nat) : (a.extract 0 m).data.toList = a.data.toList.take m := by simp [ByteArray.data_extract, List.extract_eq_take_drop]
theorem ext_hi (a : ByteArray) (m : Nat) : (a.extract m a.size).data.toList = a.data.toList.drop m := by
  rw [ByteArray.data_extract, Array.toList_extract, List.extract_eq_take_drop]
  refine List.take_of_length_le ?_
  rw [List.length_drop, Array.length_toList]
  exact Nat.le_refl _

set_option maxRecDepth 100000 in
set_option maxHeartbeats 4000000 in
theorem pieces_main (s : ByteArray) (len cap : Nat) (A0 : Option Addr) (X : Nat → Nat) (w : World) (hs : s.size ≤ 5000) (hlen : len ≤ 300) (hX : U8sIn w w.heap.size A0 len X) (hT : D5.Tabs w) : Calls Tryd.prog 8 #[.string s, .slice A0 len cap] w fun e w' => e = .returned (.bool true) ∧ Below w.heap.size w w' := by
  have HA := Lib.hid (awake_any w hT (tabs_lt hT))
  have HT := Lib.hid hT
  have HX := Lib.hid hX
  have d1 : decide ((s.size : Int) > 5000) = false := by simp; omega
  have d1' : decide ((5000 : Int) < s.size) = false := by simp; omega
  have d2 : decide ((len : Int) > 300) = false := by simp; omega
  have d2' : decide ((300 : Int) < len) = false := by simp; omega
  obtain ⟨S, hS⟩ : ∃ S, S = s.data.toList := ⟨_, rfl⟩
  have hSl : S.length = s.size := by rw [hS]; exact Array.length_toList
  have HSU := Lib.hid (And.intro hS hSl)
  have HZ := Lib.hid hs
  clear hT hX hS hSl
  go_enter Tryd.func8, Tryd.ntmps8
  go_wp2_with fail
  refine (show Calls _ _ _ _ _ from HA.out).mono ?_
  rintro e w1 ⟨rfl, hb⟩
  have HN1 := Lib.hid (mine_new hb HT.out)
  clear hb HA
  go_wp2_with fail
  refine (show Calls _ _ _ _ _ from HN1.out).mono ?_
  rintro e w2 ⟨rfl, ha, hba⟩
  obtain ⟨a, ea⟩ : ∃ a, a = w1.heap.size := ⟨_, rfl⟩
  rw [← ea] at ha ⊢
  have HF1 := Lib.hid (mine_feed ha s S HSU.out.1 (by omega) (by decide) (by decide))
  clear ha hba HN1 ea
  go_wp2_with fail
  refine (show Calls _ _ _ _ _ from HF1.out).mono ?_
  rintro e w3 ⟨rfl, ha, hst⟩
  rw [List.nil_append] at ha
  have HN2 := Lib.hid (mine_new ha.old HT.out)
  have HMa := Lib.hid ha
  have hla : a < w3.heap.size := ha.isP.lt
  clear ha hst HF1
  go_wp2_with fail
  refine (show Calls _ _ _ _ _ from HN2.out).mono ?_
  rintro e w4 ⟨rfl, hb, hbb⟩
  obtain ⟨b, eb⟩ : ∃ b, b = w3.heap.size := ⟨_, rfl⟩
  rw [← eb] at hb hla ⊢
  have HMa4 := Lib.hid (HMa.out.below hbb)
  have HMb := Lib.hid hb
  have HNe : Hid (a < b) := Lib.hid hla
  clear hb hbb HN2 eb HMa hla
  go_wp2
  go_loopw [7, 8, 9] (fun l r i wr => ∃ (k n c : Nat) (A : Option Addr) (Rb : ByteArray) (F R : List UInt8) (M P : List EV), k ≤ len ∧ i = .int .i64 k ∧ r = .string Rb ∧ l = .slice A n c ∧ Hid (n = M.length) ∧ Hid (R = Rb.data.toList ∧ S = F ++ R) ∧ Hid (Told wr w.heap.size 31 (.slice A n c) M) ∧ Hid (MineE w wr b (runE q0 F).2 P) ∧ Hid ((runE q0 F).1 = M ++ P) ∧ Hid (MineE w wr a (runE q0 S).2 (runE q0 S).1)) (fun _ _ i _ => len - (RowKit.intOf i).toNat)
  case atStart => exact ⟨0, 0, 0, none, s, [], S, [], [], Nat.zero_le _, rfl, rfl, rfl, Lib.hid rfl, Lib.hid ⟨HSU.out.1, rfl⟩, Lib.hid (Told.nil _ _ _), HMb, Lib.hid rfl, HMa4⟩
  case round =>
    obtain ⟨k, n, c, A, Rb, F, R, M, P, hk, rfl, rfl, rfl, HNn, HR, HTo, HMb, HE, HMa⟩ := hrel
    by_cases hlt : k < len
    · obtain ⟨bb, o, rfl, hbl, hcx⟩ := HX.out (by omega)
      obtain ⟨hcell, hx256⟩ := hcx k hlt
      have c1 : wr.cell? ⟨bb, o + k, none⟩ = some (.int .u8 (X k)) := (HMa.out.old.cell (p := ⟨bb, o + k, none⟩) hbl).trans hcell
      generalize X k = x at *
      have hRl : R.length = Rb.size := by rw [HR.out.1]; exact Array.length_toList
      have hRs : Rb.size ≤ 5000 := by have h1 := HZ.out; have h2 := HSU.out.2; have h3 := congrArg List.length HR.out.2; rw [List.length_append] at h3; omega
      obtain ⟨m, hm⟩ : ∃ m, m = x % (Rb.size + 1) := ⟨_, rfl⟩
      have hmR : m ≤ Rb.size := by have := Nat.mod_lt x (show 0 < Rb.size + 1 by omega); omega
      have e1 : (x : Int).tmod ((Rb.size : Int) + 1) = (m : Int) := by rw [hm]; exact_mod_cast (Int.ofNat_tmod x (Rb.size + 1)).symm
      have e2 : (x : Int) % ((Rb.size : Int) + 1) = (m : Int) := by rw [hm]; exact_mod_cast rfl
      clear hcell hm
      have hFl : F.length ≤ 5000 := by have h1 := HZ.out; have h2 := HSU.out.2; have h3 := congrArg List.length HR.out.2; rw [List.length_append] at h3; omega
      have hql := prun_len q0 F
      have HF := Lib.hid (mine_feed HMb.out (Rb.extract 0 m) (R.take m) (by rw [ext_lo, ← HR.out.1]) (by rw [ByteArray.size_extract]; omega) (by have h1 := hql.1; have h2 : q0.mids.length = 0 := rfl; omega) (by have h1 := hql.2; have h2 : q0.text.length = 0 := rfl; omega))
      obtain ⟨G, hG⟩ : ∃ G, G = (runE (runE q0 F).2 (R.take m)).1 := ⟨_, rfl⟩
      have HGE : Hid ((runE q0 (F ++ R.take m)).1 = M ++ (P ++ G) ∧ (runE q0 (F ++ R.take m)).2 = (runE (runE q0 F).2 (R.take m)).2) := Lib.hid (by rw [runE_append, hG, HE.out, List.append_assoc]; exact ⟨rfl, rfl⟩)
      have HRn : Hid (R.drop m = (Rb.extract m Rb.size).data.toList ∧ S = (F ++ R.take m) ++ R.drop m) := Lib.hid ⟨by rw [ext_hi, ← HR.out.1], by rw [List.append_assoc, List.take_append_drop]; exact HR.out.2⟩
      have HLn : Hid (F.length + (R.take m).length ≤ 5000) := Lib.hid (by have h1 := HZ.out; have h2 := HSU.out.2; have h3 := congrArg List.length HRn.out.2; rw [List.length_append, List.length_append] at h3; omega)
      have HGp : Hid (∀ x ∈ M ++ (P ++ G), ParOk x.params) := Lib.hid (by rw [← HGE.out.1]; exact par_runE _ _)
      have HGl : Hid ((M ++ (P ++ G)).length ≤ 20000) := Lib.hid (by
        rw [← HGE.out.1]
        have := count_runE q0 (F ++ R.take m) rfl
        have h2 := HLn.out
        rw [List.length_append] at this
        omega)
      rw [← hG, ← HGE.out.2] at HF
      obtain ⟨y, hy⟩ : ∃ y, y = x % 2 := ⟨_, rfl⟩
      have hy2 : y = 0 ∨ y = 1 := by omega
      have e3 : (x : Int).tmod 2 = (y : Int) := by rw [hy]; exact_mod_cast (Int.ofNat_tmod x 2).symm
      have e4 : (x : Int) % 2 = (y : Int) := by rw [hy]; exact_mod_cast rfl
      clear hql hFl hRl hy hG
      go_wp2_with fail
      refine (show Calls _ _ _ _ _ from HF.out).mono ?_
      rintro e w5 ⟨rfl, hb, hst⟩
      have c2 : w5.cell? ⟨bb, o + k, none⟩ = some (.int .u8 x) := by
        have hlt2 := Nat.lt_of_lt_of_le hbl HMa.out.old.size
        have hge := HMb.out.ge
        rw [World.cell?_of_block (w := wr) (hst.block bb hlt2 (by omega))]
        exact c1
      have HMb5 := Lib.hid hb
      have HMa5 := Lib.hid (HMa.out.other HMb.out hst (by have := HNe.out; omega))
      have HTo5 := Lib.hid (HTo.out.mine HMb.out hst)
      clear hb hst HF HMa HMb HTo c1
      rcases hy2 with rfl | rfl
      · obtain ⟨n2, hn2⟩ : ∃ n2, n2 = (P ++ G).length := ⟨_, rfl⟩
        have hsum : n + n2 ≤ 100000 := by have h1 := HGl.out; rw [List.length_append] at h1; have h2 := HNn.out; omega
        have HT1 := Lib.hid (mine_take HMb5.out (fun x hx => HGp.out x (List.mem_append_right _ hx)) (by have h1 := HGl.out; rw [List.length_append] at h1; omega) n2 hn2)
        have HN2 := Lib.hid hn2
        clear hn2
        go_wp2_with fail
        refine (show Calls _ _ _ _ _ from HT1.out).mono ?_
        rintro e w6 ⟨A2, k2, rfl, htold, hb, hst⟩
        have HMb6 := Lib.hid hb
        have HMa6 := Lib.hid (HMa5.out.other HMb5.out hst (by have := HNe.out; omega))
        have HTo6 := Lib.hid (HTo5.out.mine HMb5.out hst)
        have HUo6 := Lib.hid htold
        clear hb hst htold HT1 HMb5 HMa5 HTo5
        go_wp2_with (at_builtin; go_loud (refine append_told w6 (by rfl) (.tmp 56) (.tmp 58) rfl w.heap.size w5.heap.size A A2 n n2 c k2 _ _ (by simp [Act.eval]) HTo6.out (by simp [Act.eval]) HUo6.out HNn.out HN2.out hsum HMa6.out.old.size ?hh))
        case hh =>
          intro A' c' w7 htj hg
          have HMa7 := Lib.hid (HMa6.out.grown HTo6.out (Nat.le_refl _) hg)
          have HMb7 := Lib.hid (HMb6.out.grown HTo6.out (Nat.le_refl _) hg)
          have HTj := Lib.hid htj
          have HNn7 : Hid (n + n2 = (M ++ (P ++ G)).length) := Lib.hid (by rw [List.length_append, ← HNn.out, ← HN2.out])
          obtain ⟨n3, hn3⟩ : ∃ n3, n3 = n + n2 := ⟨_, rfl⟩
          rw [← hn3] at HTj HNn7 ⊢
          clear htj hg HMa6 HMb6 HTo6 HUo6 hn3
          go_wp2
          go_roundw
          case rel => exact ⟨k + 1, n3, c', A', _, F ++ R.take m, R.drop m, M ++ (P ++ G), [], by omega, by go_num, rfl, rfl, HNn7, HRn, HTj, HMb7, Lib.hid (by rw [List.append_nil]; exact HGE.out.1), HMa7⟩
          case measure => simp [RowKit.intOf]; omega
      · go_wp2
        go_roundw
        case rel => exact ⟨k + 1, n, c, A, _, F ++ R.take m, R.drop m, M, P ++ G, by omega, by go_num, rfl, rfl, HNn, HRn, HTo5, HMb5, Lib.hid HGE.out.1, HMa5⟩
        case measure => simp [RowKit.intOf]; omega
    · have hkn : k = len := by omega
      subst hkn
      have hFl : F.length + R.length ≤ 5000 := by have h1 := HZ.out; have h2 := HSU.out.2; have h3 := congrArg List.length HR.out.2; rw [List.length_append] at h3; omega
      have hRl : R.length = Rb.size := by rw [HR.out.1]; exact Array.length_toList
      have hql := prun_len q0 F
      have HF := Lib.hid (mine_feed HMb.out Rb R HR.out.1 (by omega) (by have h1 := hql.1; have h2 : q0.mids.length = 0 := rfl; omega) (by have h1 := hql.2; have h2 : q0.text.length = 0 := rfl; omega))
      obtain ⟨G, hG⟩ : ∃ G, G = (runE (runE q0 F).2 R).1 := ⟨_, rfl⟩
      obtain ⟨EC, hEC⟩ : ∃ EC, EC = (runE q0 S).1 := ⟨_, rfl⟩
      have HGE : Hid (EC = M ++ (P ++ G) ∧ (runE q0 S).2 = (runE (runE q0 F).2 R).2) := Lib.hid (by rw [hEC, HR.out.2, runE_append, hG, HE.out, List.append_assoc]; exact ⟨rfl, rfl⟩)
      have HGp : Hid (∀ x ∈ EC, ParOk x.params) := Lib.hid (by rw [hEC]; exact par_runE _ _)
      have HGl : Hid (EC.length ≤ 20000) := Lib.hid (by
        rw [hEC]
        have := count_runE q0 S rfl
        have h2 := HSU.out.2
        have h3 := HZ.out
        omega)
      rw [← hG, ← HGE.out.2] at HF
      rw [← hEC] at HMa
      clear hql hFl hRl hG hEC
      go_wp2_with fail
      refine (show Calls _ _ _ _ _ from HF.out).mono ?_
      rintro e w5 ⟨rfl, hb, hst⟩
      have HMb5 := Lib.hid hb
      have HMa5 := Lib.hid (HMa.out.other HMb.out hst (by have := HNe.out; omega))
      have HTo5 := Lib.hid (HTo.out.mine HMb.out hst)
      clear hb hst HF HMa HMb HTo
      obtain ⟨n2, hn2⟩ : ∃ n2, n2 = (P ++ G).length := ⟨_, rfl⟩
      have hsum : n + n2 ≤ 100000 := by have h1 := HGl.out; rw [HGE.out.1, List.length_append] at h1; have h2 := HNn.out; omega
      have HT1 := Lib.hid (mine_take HMb5.out (fun x hx => HGp.out x (by rw [HGE.out.1]; exact List.mem_append_right _ hx)) (by have h1 := HGl.out; rw [HGE.out.1, List.length_append] at h1; omega) n2 hn2)
      have HN2 := Lib.hid hn2
      clear hn2
      go_wp2_with fail
      refine (show Calls _ _ _ _ _ from HT1.out).mono ?_
      rintro e w6 ⟨A2, k2, rfl, htold, hb, hst⟩
      have HMb6 := Lib.hid hb
      have HMa6 := Lib.hid (HMa5.out.other HMb5.out hst (by have := HNe.out; omega))
      have HTo6 := Lib.hid (HTo5.out.mine HMb5.out hst)
      have HUo6 := Lib.hid htold
      clear hb hst htold HT1 HMb5 HMa5 HTo5
      go_wp2_with (at_builtin; go_loud (refine append_told w6 (by rfl) (.tmp 63) (.tmp 65) rfl w.heap.size w5.heap.size A A2 n n2 c k2 _ _ (by simp [Act.eval]) HTo6.out (by simp [Act.eval]) HUo6.out HNn.out HN2.out hsum HMa6.out.old.size ?hh))
      case hh =>
        intro A' c' w7 htj hg
        have HMa7 := Lib.hid (HMa6.out.grown HTo6.out (Nat.le_refl _) hg)
        have HMb7 := Lib.hid (HMb6.out.grown HTo6.out (Nat.le_refl _) hg)
        rw [← HGE.out.1] at htj
        have HTj := Lib.hid htj
        have hn3E : n + n2 = EC.length := by rw [HGE.out.1, List.length_append, ← HNn.out, ← HN2.out]
        obtain ⟨n3, hn3⟩ : ∃ n3, n3 = n + n2 := ⟨_, rfl⟩
        have hn31 : n3 ≤ 100000 := by omega
        rw [← hn3] at HTj hn3E ⊢
        have HnE := Lib.hid hn3E
        have HT3 := Lib.hid (mine_take HMa7.out HGp.out (by have := HGl.out; omega) n3 hn3E)
        clear htj hg HMa6 HMb6 HTo6 HUo6 hn3 hn3E
        go_wp2_with fail
        refine (show Calls _ _ _ _ _ from HT3.out).mono ?_
        rintro e w8 ⟨A3, k3, rfl, htold, ha, hst⟩
        have HMa8 := Lib.hid ha
        have HMb8 := Lib.hid (HMb7.out.other HMa7.out hst (by have := HNe.out; omega))
        have htj := HTj.out.mine HMa7.out hst
        have HR1 := Lib.hid (htold.reads (fun e he => (par_small (HGp.out e he)).1))
        have HR2 := Lib.hid (htj.reads (fun e he => (par_small (HGp.out e he)).1))
        have HSA := Lib.hid (sameAll_yes (w := w8) n3 k3 c' HnE.out hn31 (fun e he => (par_small (HGp.out e he)).2) HR1.out HR2.out)
        clear ha hst htj htold HT3 HMa7 HMb7 HTj
        go_wp2_with fail
        refine (show Calls _ _ _ _ _ from HSA.out).mono ?_
        rintro e w9 ⟨rfl, hb9⟩
        obtain ⟨st, hst⟩ : ∃ n, n = (runE q0 S).2.st := ⟨_, rfl⟩
        obtain ⟨wb, hwb⟩ : ∃ b, b = waitsB (runE q0 S).2 := ⟨_, rfl⟩
        have HS1 := Lib.hid (mine_state (HMa8.out.below hb9) st hst)
        have HS2 := Lib.hid (mine_state (HMb8.out.below hb9) st hst)
        have HMa9 := Lib.hid (HMa8.out.below hb9)
        have HMb9 := Lib.hid (HMb8.out.below hb9)
        have HWB := Lib.hid hwb
        clear hb9 hst hwb HMa8 HMb8 HR1 HR2 HSA
        go_wp2_with fail
        refine (show Calls _ _ _ _ _ from HS1.out).mono ?_
        rintro e w10 ⟨rfl, rfl⟩
        clear HS1
        go_wp2_with fail
        refine (show Calls _ _ _ _ _ from HS2.out).mono ?_
        rintro e w10 ⟨rfl, rfl⟩
        clear HS2
        go_wp2_with fail
        refine (show Calls _ _ _ _ _ from mine_waits HMa9.out wb HWB.out).mono ?_
        rintro e w10 ⟨rfl, hb10⟩
        have HMb10 := Lib.hid (HMb9.out.below hb10)
        clear hb10 HMa9 HMb9
        go_wp2_with fail
        refine (show Calls _ _ _ _ _ from mine_waits HMb10.out wb HWB.out).mono ?_
        rintro e w11 ⟨rfl, hb11⟩
        have HO := Lib.hid (HMb10.out.below hb11).old
        clear hb11 HMb10
        go_wp2
        go_ret
        exact ⟨by simp, HO.out⟩

set_option maxRecDepth 100000 in
set_option maxHeartbeats 1000000 in
theorem pieces_walk (s : ByteArray) (len cap : Nat) (A0 : Option Addr) (X : Nat → Nat) (w : World) (hs9 : s.size ≤ maxLen) (hX : U8sIn w w.heap.size A0 len X) (hl9 : len ≤ 9223372036854775807) (hT : D5.Tabs w) : Calls Tryd.prog 8 #[.string s, .slice A0 len cap] w fun e w' => e = .returned (.bool true) ∧ Below w.heap.size w w' := by
  by_cases hs : s.size ≤ 5000
  case neg =>
    have HA := Lib.hid (awake_any w hT (tabs_lt hT))
    have d1 : decide ((s.size : Int) > 5000) = true := by simp; omega
    have d1' : decide ((5000 : Int) < s.size) = true := by simp; omega
    clear hs hX hT
    go_enter Tryd.func8, Tryd.ntmps8
    go_wp2_with fail
    refine (show Calls _ _ _ _ _ from HA.out).mono ?_
    rintro e w1 ⟨rfl, hb⟩
    have HB := Lib.hid hb
    clear hb HA
    go_wp2
    go_ret
    exact ⟨rfl, HB.out⟩
  by_cases hl : len ≤ 300
  case neg =>
    have HA := Lib.hid (awake_any w hT (tabs_lt hT))
    have d1 : decide ((s.size : Int) > 5000) = false := by simp; omega
    have d1' : decide ((5000 : Int) < s.size) = false := by simp; omega
    have d2 : decide ((len : Int) > 300) = true := by simp; omega
    have d2' : decide ((300 : Int) < len) = true := by simp; omega
    clear hs hl hX hT
    go_enter Tryd.func8, Tryd.ntmps8
    go_wp2_with fail
    refine (show Calls _ _ _ _ _ from HA.out).mono ?_
    rintro e w1 ⟨rfl, hb⟩
    have HB := Lib.hid hb
    clear hb HA
    go_wp2
    go_ret
    exact ⟨rfl, HB.out⟩
  exact pieces_main s len cap A0 X w hs hl hX hT
end Go.Proofs.YtfekjlajagoooaaDoor
