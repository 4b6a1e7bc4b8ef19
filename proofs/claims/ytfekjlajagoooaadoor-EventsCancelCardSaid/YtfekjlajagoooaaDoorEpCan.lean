/- Layer 8: EventsCancel's walk. -/
import Derived.Test.YtfekjlajagoooaaDoorEpW
import Derived.LoopTactic
set_option linter.unusedVariables false
namespace Go.Proofs.YtfekjlajagoooaaDoor
open Go.RowKit Ev

theorem cancel_tail {s : List UInt8} : (runE q0 (s ++ [24])).2.st = 0 ∧ (runE q0 (s ++ [24])).2.kept = [] := by
  have h1 := run_st (q := q0) (by decide) s
  rw [runE_snoc]
  have hl := cancel_like h1
  exact ⟨hl.st, hl.kept⟩
theorem strK_len (l : List UInt8) : (strK l).size = l.length := by simp [D5.strK, ByteArray.size]
theorem bytes_add (a b : ByteArray) : (a ++ b).data.toList = a.data.toList ++ b.data.toList := by simp [ByteArray.data_append]

set_option maxRecDepth 100000 in
set_option maxHeartbeats 4000000 in
theorem cancel_walk (s t : ByteArray) (w : World) (hs9 : s.size ≤ maxLen) (ht9 : t.size ≤ maxLen) (hT : D5.Tabs w) : Calls Tryd.prog 9 #[.string s, .string t] w fun e w' => e = .returned (.bool true) ∧ Below w.heap.size w w' := by
  have HA := Lib.hid (awake_any w hT (tabs_lt hT))
  have HT := Lib.hid hT
  clear hT hs9 ht9
  by_cases hs : s.size ≤ 3000
  case neg =>
    have d1 : decide ((s.size : Int) > 3000) = true := by simp; omega
    have d1' : decide ((3000 : Int) < s.size) = true := by simp; omega
    clear hs
    go_enter Tryd.func9, Tryd.ntmps9
    go_wp2_with fail
    refine (show Calls _ _ _ _ _ from HA.out).mono ?_
    rintro e w1 ⟨rfl, hb⟩
    have HB := Lib.hid hb
    clear hb HA
    go_wp2
    go_ret
    exact ⟨rfl, HB.out⟩
  have d1 : decide ((s.size : Int) > 3000) = false := by simp; omega
  have d1' : decide ((3000 : Int) < s.size) = false := by simp; omega
  by_cases ht : t.size ≤ 3000
  case neg =>
    have d2 : decide ((t.size : Int) > 3000) = true := by simp; omega
    have d2' : decide ((3000 : Int) < t.size) = true := by simp; omega
    clear hs ht
    go_enter Tryd.func9, Tryd.ntmps9
    go_wp2_with fail
    refine (show Calls _ _ _ _ _ from HA.out).mono ?_
    rintro e w1 ⟨rfl, hb⟩
    have HB := Lib.hid hb
    clear hb HA
    go_wp2
    go_ret
    exact ⟨rfl, HB.out⟩
  have d2 : decide ((t.size : Int) > 3000) = false := by simp; omega
  have d2' : decide ((3000 : Int) < t.size) = false := by simp; omega
  obtain ⟨S, hS⟩ : ∃ S, S = s.data.toList := ⟨_, rfl⟩
  obtain ⟨U, hU⟩ : ∃ U, U = t.data.toList := ⟨_, rfl⟩
  have hSl : S.length = s.size := by rw [hS]; exact Array.length_toList
  have hUl : U.length = t.size := by rw [hU]; exact Array.length_toList
  have HSU := Lib.hid (And.intro hS (And.intro hU (And.intro hSl hUl)))
  have HZ := Lib.hid (And.intro hs ht)
  clear hS hU hSl hUl
  go_enter Tryd.func9, Tryd.ntmps9
  go_wp2_with fail
  refine (show Calls _ _ _ _ _ from HA.out).mono ?_
  rintro e w1 ⟨rfl, hb⟩
  have HN1 := Lib.hid (mine_new hb HT.out)
  clear hb HA
  go_wp2_with fail
  refine (show Calls _ _ _ _ _ from HN1.out).mono ?_
  rintro e w2 ⟨rfl, ha, hba⟩
  obtain ⟨a, ea⟩ : ∃ a, a = w1.heap.size := ⟨_, rfl⟩
  rw [← ea] at ha ⊢
  have HN2 := Lib.hid (mine_new ha.old HT.out)
  have HMa := Lib.hid ha
  have hla : a < w2.heap.size := ha.isP.lt
  clear ha hba HN1 ea
  go_wp2_with fail
  refine (show Calls _ _ _ _ _ from HN2.out).mono ?_
  rintro e w3 ⟨rfl, hb, hbb⟩
  obtain ⟨b, eb⟩ : ∃ b, b = w2.heap.size := ⟨_, rfl⟩
  rw [← eb] at hb hla ⊢
  have HN3 := Lib.hid (mine_new hb.old HT.out)
  have HMa3 := Lib.hid (HMa.out.below hbb)
  have HMb := Lib.hid hb
  have hlb : b < w3.heap.size := hb.isP.lt
  clear hb hbb HN2 eb HMa
  go_wp2_with fail
  refine (show Calls _ _ _ _ _ from HN3.out).mono ?_
  rintro e w4 ⟨rfl, hc, hbc⟩
  obtain ⟨c, ec⟩ : ∃ c, c = w3.heap.size := ⟨_, rfl⟩
  rw [← ec] at hc hlb ⊢
  have HNe : Hid (a < b ∧ b < c) := Lib.hid ⟨hla, hlb⟩
  have HF1 := Lib.hid (mine_feed (HMa3.out.below hbc) (s ++ ⟨#[24]⟩) (S ++ [24]) (by rw [bytes_add, ← HSU.out.1]) (by rw [ByteArray.size_append]; have := HZ.out.1; show s.size + 1 ≤ _; omega) (by decide) (by decide))
  have HMb4 := Lib.hid (HMb.out.below hbc)
  have HMc4 := Lib.hid hc
  have HMa4 := Lib.hid (HMa3.out.below hbc)
  clear hc hbc HN3 ec HMa3 HMb hla hlb
  go_wp2_with fail
  refine (show Calls _ _ _ _ _ from HF1.out).mono ?_
  rintro e w5 ⟨rfl, ha, hst⟩
  obtain ⟨EA, hEA⟩ : ∃ EA, EA = (runE q0 (S ++ [24])).1 := ⟨_, rfl⟩
  rw [List.nil_append, ← hEA] at ha
  have HEA := Lib.hid hEA
  have HMa5 := Lib.hid ha
  have HMb5 := Lib.hid (HMb4.out.other HMa4.out hst (by have := HNe.out; omega))
  have HMc5 := Lib.hid (HMc4.out.other HMa4.out hst (by have := HNe.out; omega))
  have HF2 := Lib.hid (mine_feed HMb5.out t U HSU.out.2.1 (by have := HZ.out.2; omega) (by decide) (by decide))
  clear ha hst HF1 HMa4 HMb4 HMc4 hEA
  go_wp2_with fail
  refine (show Calls _ _ _ _ _ from HF2.out).mono ?_
  rintro e w6 ⟨rfl, hb, hst⟩
  obtain ⟨EB, hEB⟩ : ∃ EB, EB = (runE q0 U).1 := ⟨_, rfl⟩
  rw [List.nil_append, ← hEB] at hb
  have HEB := Lib.hid hEB
  have HMb6 := Lib.hid hb
  have HMa6 := Lib.hid (HMa5.out.other HMb5.out hst (by have := HNe.out; omega))
  have HMc6 := Lib.hid (HMc5.out.other HMb5.out hst (by have := HNe.out; omega))
  have HF3 := Lib.hid (mine_feed HMc6.out (s ++ ⟨#[24]⟩ ++ t) (S ++ [24] ++ U) (by rw [bytes_add, bytes_add, ← HSU.out.1, ← HSU.out.2.1]) (by rw [ByteArray.size_append, ByteArray.size_append]; have := HZ.out; show s.size + 1 + t.size ≤ _; omega) (by decide) (by decide))
  clear hb hst HF2 HMa5 HMb5 HMc5 hEB
  go_wp2_with fail
  refine (show Calls _ _ _ _ _ from HF3.out).mono ?_
  rintro e w7 ⟨rfl, hc, hst⟩
  obtain ⟨EC, hEC⟩ : ∃ EC, EC = (runE q0 (S ++ [24] ++ U)).1 := ⟨_, rfl⟩
  rw [List.nil_append, ← hEC] at hc
  have HEC := Lib.hid hEC
  have HMc7 := Lib.hid hc
  have HMa7 := Lib.hid (HMa6.out.other HMc6.out hst (by have := HNe.out; omega))
  have HMb7 := Lib.hid (HMb6.out.other HMc6.out hst (by have := HNe.out; omega))
  have hc1 := count_runE q0 (S ++ [24]) rfl
  have hc2 := count_runE q0 U rfl
  obtain ⟨n1, hn1⟩ : ∃ n, n = EA.length := ⟨_, rfl⟩
  obtain ⟨n2, hn2⟩ : ∃ n, n = EB.length := ⟨_, rfl⟩
  have hb1 : n1 ≤ 20000 := by rw [hn1, HEA.out]; have := HZ.out.1; have := HSU.out.2.2.1; simp at hc1 ⊢; omega
  have hb2 : n2 ≤ 20000 := by rw [hn2, HEB.out]; have := HZ.out.2; have := HSU.out.2.2.2; omega
  have HNN := Lib.hid (And.intro hn1 hn2)
  have HT1 := Lib.hid (mine_take HMa7.out (by rw [HEA.out]; exact par_runE q0 _) (by omega) n1 hn1)
  clear hc hst HF3 HMa6 HMb6 HMc6 hc1 hc2 hEC hn1 hn2
  go_wp2_with fail
  refine (show Calls _ _ _ _ _ from HT1.out).mono ?_
  rintro e w8 ⟨A1, k1, rfl, htold, ha, hst⟩
  have HMa8 := Lib.hid ha
  have HMb8 := Lib.hid (HMb7.out.other HMa7.out hst (by have := HNe.out; omega))
  have HMc8 := Lib.hid (HMc7.out.other HMa7.out hst (by have := HNe.out; omega))
  have HTo8 := Lib.hid htold
  have HT2 := Lib.hid (mine_take HMb8.out (by rw [HEB.out]; exact par_runE q0 _) (by rw [← HNN.out.2]; omega) n2 HNN.out.2)
  have HZ7 := Lib.hid HMa7.out.old.size
  have HST8 := Lib.hid hst.size
  clear ha hst htold HT1 HMa7 HMb7 HMc7
  go_wp2_with fail
  refine (show Calls _ _ _ _ _ from HT2.out).mono ?_
  rintro e w9 ⟨A2, k2, rfl, htold, hb, hst⟩
  have HMb9 := Lib.hid hb
  have HMa9 := Lib.hid (HMa8.out.other HMb8.out hst (by have := HNe.out; omega))
  have HMc9 := Lib.hid (HMc8.out.other HMb8.out hst (by have := HNe.out; omega))
  have HTo9 := Lib.hid (HTo8.out.mine HMb8.out hst)
  have HUo9 := Lib.hid htold
  have HZ9 : Hid (w7.heap.size ≤ w9.heap.size) := Lib.hid (Nat.le_trans HST8.out hst.size)
  clear hb hst htold HT2 HMa8 HMb8 HMc8 HTo8
  have hn12 : n1 + n2 ≤ 100000 := by omega
  have HE : Hid (EC = EA ++ EB) := Lib.hid (by
    have := (run_cancel S U).1
    rw [HEA.out, HEB.out, HEC.out, List.append_assoc S]
    exact this)
  have HLk := Lib.hid (run_cancel S U).2
  go_wp2_with (at_builtin; go_loud (refine append_told w9 (by rfl) (.tmp 38) (.tmp 40) rfl w7.heap.size w8.heap.size A1 A2 n1 n2 k1 k2 _ _ (by simp [Act.eval]) HTo9.out (by simp [Act.eval]) HUo9.out HNN.out.1 HNN.out.2 hn12 HZ9.out ?hh))
  case hh =>
  intro A' c' w10 htj hg
  have HMa10 := Lib.hid (HMa9.out.grown HTo9.out HZ7.out hg)
  have HMb10 := Lib.hid (HMb9.out.grown HTo9.out HZ7.out hg)
  have HMc10 := Lib.hid (HMc9.out.grown HTo9.out HZ7.out hg)
  have HTj := Lib.hid htj
  obtain ⟨n, hn⟩ : ∃ n, n = n1 + n2 := ⟨_, rfl⟩
  have hnE : n = EC.length := by rw [HE.out, List.length_append, ← HNN.out.1, ← HNN.out.2, hn]
  have HnE := Lib.hid hnE
  rw [← hn]
  rw [← hn] at hn12 HTj
  have HT3 := Lib.hid (mine_take HMc10.out (by rw [HEC.out]; exact par_runE q0 _) (by rw [← hnE]; omega) n hnE)
  clear htj hg HMa9 HMb9 HMc9 HTo9 HUo9 HNN hnE hn
  go_wp2_with fail
  refine (show Calls _ _ _ _ _ from HT3.out).mono ?_
  rintro e w11 ⟨A3, k3, rfl, htold, hc, hst⟩
  have HMc11 := Lib.hid hc
  have HMa11 := Lib.hid (HMa10.out.other HMc10.out hst (by have := HNe.out; omega))
  have HMb11 := Lib.hid (HMb10.out.other HMc10.out hst (by have := HNe.out; omega))
  have htj := HTj.out.mine HMc10.out hst
  have hpar : ∀ e ∈ EC, ParOk e.params := by rw [HEC.out]; exact par_runE q0 _
  have HR1 := Lib.hid (htold.reads (fun e he => (par_small (hpar e he)).1))
  have HR2 := Lib.hid (by
    have := htj.reads (fun e he => (par_small (hpar e (by rw [HE.out]; exact he))).1)
    rwa [← HE.out] at this)
  have HSA := Lib.hid (sameAll_yes (w := w11) n k3 c' HnE.out hn12 (fun e he => (par_small (hpar e he)).2) HR1.out HR2.out)
  clear hc hst htj hpar htold HT3 HMa10 HMb10 HMc10 HTj
  go_wp2_with fail
  refine (show Calls _ _ _ _ _ from HSA.out).mono ?_
  rintro e w12 ⟨rfl, hb12⟩
  obtain ⟨st, hst⟩ : ∃ n, n = (runE q0 U).2.st := ⟨_, rfl⟩
  have HS1 := Lib.hid (mine_state (HMc11.out.below hb12) st (by rw [hst, List.append_assoc]; exact HLk.out.st.symm))
  have HS2 := Lib.hid (mine_state (HMb11.out.below hb12) st hst)
  have HWa := Lib.hid (mine_waits (HMa11.out.below hb12) false (by unfold waitsB; rw [cancel_tail.1, cancel_tail.2]; rfl))
  have HR := Lib.hid (HR2.out.below hb12)
  have HB12 := Lib.hid (HMa11.out.below hb12).old
  clear hb12 hst HMa11 HMb11 HMc11 HR1 HR2 HSA
  go_wp2_with fail
  refine (show Calls _ _ _ _ _ from HS1.out).mono ?_
  rintro e w13 ⟨rfl, rfl⟩
  clear HS1
  go_wp2_with fail
  refine (show Calls _ _ _ _ _ from HS2.out).mono ?_
  rintro e w13 ⟨rfl, rfl⟩
  clear HS2
  go_wp2_with fail
  refine (show Calls _ _ _ _ _ from HWa.out).mono ?_
  rintro e w13 ⟨rfl, hb13⟩
  have HR13 := Lib.hid (HR.out.below hb13)
  have HB13 := Lib.hid (HB12.out.trans (hb13.mono HB12.out.size))
  have HOk : Hid (∀ x ∈ EC, OkE x) := Lib.hid (by rw [HEC.out]; exact ok_runE q0 _)
  clear hb13 HWa HR HB12 HE HLk HT HSU HZ HNe HZ7 HST8 HZ9 HEA HEB HEC
  go_wp2
  go_loopw [9] (fun i wr => ∃ k : Nat, k ≤ n ∧ i = .int .i64 k ∧ Hid (Below w13.heap.size w13 wr)) (fun i _ => n - (RowKit.intOf i).toNat)
  case atStart => exact ⟨0, Nat.zero_le _, rfl, Lib.hid (Below.refl _ _)⟩
  case round =>
    obtain ⟨k, hk, rfl, HBl⟩ := hrel
    by_cases hlt : k < n
    · have hlt' : k < EC.length := by rw [← HnE.out]; exact hlt
      obtain ⟨g, rfl, hga⟩ := (HR13.out.below HBl.out) k hlt'
      obtain ⟨Ax, cx, ⟨a0, a1, a2, a3, a4, a5⟩, _⟩ := hga
      have hok := HOk.out _ (List.getElem_mem hlt')
      generalize EC[k] = x at *
      obtain ⟨o1, o2, o3, o4, o5, o6, o7, o8⟩ := hok
      have HBn : Hid (∀ o : Obj, Below w13.heap.size w13 (wr.alloc o)) := Lib.hid fun o => HBl.out.trans (((Below.refl _ _).alloc (Nat.le_refl _) _).mono HBl.out.size)
      obtain ⟨m, hm⟩ : ∃ m, m = x.params.length := ⟨_, rfl⟩
      obtain ⟨M, hM⟩ : ∃ M, M = strK x.mids := ⟨_, rfl⟩
      obtain ⟨T, hTx⟩ : ∃ T, T = strK x.text := ⟨_, rfl⟩
      have hMs : M.size ≤ 2 := by rw [hM, strK_len]; exact o3
      have hTs : T.size ≤ 1024 := by rw [hTx, strK_len]; exact o4
      have dM : decide ((M.size : Int) > 2) = false := by simp; omega
      have dM' : decide ((2 : Int) < M.size) = false := by simp; omega
      have dT : decide ((T.size : Int) > 1024) = false := by simp; omega
      have dT' : decide ((1024 : Int) < T.size) = false := by simp; omega
      have hk6 : x.kind = 1 ∨ x.kind = 2 ∨ x.kind = 3 ∨ x.kind = 4 ∨ x.kind = 5 ∨ x.kind = 6 := by omega
      rw [← hm] at a4
      rw [← hM] at a3
      rw [← hTx] at a5
      have f3 : x.kind < 4 → m = 0 := fun h => by rw [hm, o5 h]; rfl
      have f5 : x.kind < 5 → T = ⟨#[]⟩ := fun h => by rw [hTx, o6 h]; rfl
      have f6 : x.kind < 3 → M = ⟨#[]⟩ := fun h => by rw [hM, o8 h]; rfl
      have f7 : x.kind = 5 → M = ⟨#[]⟩ := fun h => by rw [hM, (o7 h).2]; rfl
      have f8 : x.kind = 5 → x.final = 0 := fun h => (o7 h).1
      have f9 : x.kind ≠ 1 → x.rune = 0 := o2
      clear o1 o2 o3 o4 o5 o6 o7 o8 hm hM hTx HBl HR13
      rcases hk6 with e | e | e | e | e | e
      · rw [e] at a0
        obtain rfl := f3 (by omega)
        obtain rfl := f5 (by omega)
        obtain rfl := f6 (by omega)
        clear f3 f5 f6 f7 f8 f9 e
        go_wp2
        go_roundw
        case rel => exact ⟨k + 1, by omega, by go_num, Lib.hid (HBn.out _)⟩
        case measure => simp [RowKit.intOf]; omega
      · rw [e] at a0
        obtain rfl := f3 (by omega)
        obtain rfl := f5 (by omega)
        obtain rfl := f6 (by omega)
        rw [f9 (by omega)] at a1
        clear f3 f5 f6 f7 f8 f9 e
        go_wp2
        go_roundw
        case rel => exact ⟨k + 1, by omega, by go_num, Lib.hid (HBn.out _)⟩
        case measure => simp [RowKit.intOf]; omega
      · rw [e] at a0
        obtain rfl := f3 (by omega)
        obtain rfl := f5 (by omega)
        rw [f9 (by omega)] at a1
        clear f3 f5 f6 f7 f8 f9 e
        go_wp2
        go_roundw
        case rel => exact ⟨k + 1, by omega, by go_num, Lib.hid (HBn.out _)⟩
        case measure => simp [RowKit.intOf]; omega
      · rw [e] at a0
        obtain rfl := f5 (by omega)
        rw [f9 (by omega)] at a1
        clear f3 f5 f6 f7 f8 f9 e
        go_wp2
        go_roundw
        case rel => exact ⟨k + 1, by omega, by go_num, Lib.hid (HBn.out _)⟩
        case measure => simp [RowKit.intOf]; omega
      · rw [e] at a0
        obtain rfl := f7 (by omega)
        rw [f8 (by omega)] at a2
        rw [f9 (by omega)] at a1
        clear f3 f5 f6 f7 f8 f9 e
        go_wp2
        go_roundw
        case rel => exact ⟨k + 1, by omega, by go_num, Lib.hid (HBn.out _)⟩
        case measure => simp [RowKit.intOf]; omega
      · rw [e] at a0
        rw [f9 (by omega)] at a1
        clear f3 f5 f6 f7 f8 f9 e
        go_wp2
        go_roundw
        case rel => exact ⟨k + 1, by omega, by go_num, Lib.hid (HBn.out _)⟩
        case measure => simp [RowKit.intOf]; omega
    · have hkn : k = n := by omega
      subst hkn
      go_wp2
      go_ret
      exact ⟨rfl, HB13.out.trans (HBl.out.mono HB13.out.size)⟩
end Go.Proofs.YtfekjlajagoooaaDoor
