/- Layer 14: the program's All: an iterator that goes over a clone of the things, made when the walk begins. -/
import Derived.Test.YtpanhkhiomgclaaBaG
import Derived.OwnWalkIn
import Derived.TacticsInMore
import Derived.LoopNIn
import Derived.LoopIn
set_option linter.unusedVariables false
namespace Go.Proofs.Ytpanhkhiomgclaa.Ba
open Go.RowKit Go.Shelf
attribute [local go_sem] Oper.semAt_some

theorem grown_of {w w' : World} (h : Below w.heap.size w w') : w.grownBy w' none := ⟨h.os, h.tape, h.output, h.size, fun k hk _ => h.block k hk⟩
set_option maxRecDepth 100000 in
set_option maxHeartbeats 4000000 in
theorem iter_in {p : Nat} {A0 : Option Addr} {n0 c0 : Nat} {L : List Int} (l Bs : Nat) (Mine : World → Nat → Prop) (J Jx : List (Nat × Int) → World → Prop) (w' V W : World) (hMO : MineOk w'.heap.size Mine) (hMV : ∀ W, Below w'.heap.size w' W → ∀ k, Mine W k → k < V.heap.size) (hVw : V.heap.size ≤ w'.heap.size)
    (hW : Below w'.heap.size w' W) (hBs : Boxed W Bs 24 (.pointer (some ⟨p, 0, none⟩))) (hcap : L.length ≤ 500) (hth : W.cell? ⟨p, 2, none⟩ = some (.slice A0 n0 c0)) (hLi : LiesI W (.slice A0 n0 c0) L) (hJ : AbidesFrom W.heap.size J)
    (hY : ∀ pre x W1, J pre W1 → pre.length < L.length → YieldAt Fence.wide 1 Try.prog l #[.int .i64 ((x.1 : Nat) : Int), .int .i64 x.2] W1 fun e W' => (e = .returned (.bool true) ∧ J (pre ++ [x]) W' ∧ KpM Mine W1 W') ∨ (e = .returned (.bool false) ∧ Jx (pre ++ [x]) W'))
    (h0 : J [] W) :
    CallsIn Fence.wide 2 Try.prog 31 #[.func (.yield l) #[] #[], .pointer (some ⟨Bs, 0, none⟩)] W fun e W' => (∃ v, e = .returned v) ∧ ((∃ ys, ys = pairs L ∧ J ys W') ∨ (∃ pre, pre <+: pairs L ∧ Jx pre W')) := by
  have KC := Lib.hid (clone_any hLi (by omega))
  have HJ := Lib.hid hJ
  have H0 := Lib.hid h0
  have HW := Lib.hid hW
  have HM := Lib.hid (And.intro hMO (And.intro hMV hVw))
  have HYy := Lib.hid hY
  obtain ⟨n, hn⟩ : ∃ n, n = L.length := ⟨_, rfl⟩
  rw [← hn] at hcap
  have HN := Lib.hid hn
  have hc := hBs.cell
  clear hJ h0 hW hMO hMV hVw hY hBs hn hLi
  refine callsIn_of_wp Try.func31 rfl trivial ?_ rfl
  simp only [Try.ntmps31, List.size_toArray, List.length_cons, List.length_nil, Nat.reduceAdd, Nat.reduceSub, Array.replicate_succ, Array.replicate_zero, List.push_toArray, List.append_toArray, List.nil_append, List.cons_append]
  gi_wp2
  refine ⟨trivial, ?_⟩
  refine (callsIn_wide.2 KC.out).mono ?_
  rintro e v2 ⟨u, rfl, ho, j2⟩
  obtain ⟨A, c, rfl⟩ := ownI_slice ho
  rw [← HN.out] at ho
  have HJ2 : Hid (J ((pairs L).take 0) v2) := Lib.hid (HJ.out [] W v2 none H0.out (grown_of j2) (fun r e => by cases e))
  have HO := Lib.hid ho
  have HB := Lib.hid j2
  rw [← HN.out]
  clear KC hc ho hth j2
  gi_wp2
  gi_loopw [15] (fun i wr => ∃ k : Nat, k ≤ n ∧ i = .int .i64 k ∧ Hid (J ((pairs L).take k) wr ∧ OwnI wr W.heap.size (.slice A n c) L ∧ W.heap.size ≤ wr.heap.size ∧ ∀ r, (Value.slice A n c).ownBlock = some r → ¬ Mine wr r)) (fun i _ => n - (RowKit.intOf i).toNat)
  case atStart => exact ⟨0, Nat.zero_le _, rfl, Lib.hid ⟨HJ2.out, HO.out, HB.out.size, fun r e hm => by
    have h1 := HM.out.2.1 v2 (HW.out.trans (HB.out.mono HW.out.size)) r hm
    have h2 := (ownI_ge HO.out r e).1
    have h3 := HM.out.2.2
    have h4 := HW.out.size
    omega⟩⟩
  case round =>
    obtain ⟨k, hk, rfl, HK⟩ := hrel
    by_cases hlt : k < n
    · have glt : decide ((k : Int) < (n : Int)) = true := by simp; omega
      obtain ⟨b, o, rfl, hb, q1⟩ := (ownI_lies HK.out.2.1).at_ hlt
      have i1 := idx_int b o n c k hlt
      have HSt : Hid ((pairs L).take (k + 1) = (pairs L).take k ++ [(k, L.getD k 0)]) := Lib.hid (pairs_get L k (by rw [← HN.out]; exact hlt))
      obtain ⟨fn, tmps, assign, body, hy, hR⟩ := HYy.out ((pairs L).take k) (k, L.getD k 0) wr HK.out.1 (by rw [List.length_take, pairs_len, ← HN.out]; omega)
      have hn5 : n ≤ 500 := by omega
      dsimp only at hy
      generalize L.getD k 0 = X at *
      clear hcap
      gi_wp2
      refine hR.mono ?_
      rintro e W3 (⟨rfl, hJ3, hk3⟩ | ⟨rfl, hJx3⟩)
      · have HK3 : Hid (J ((pairs L).take (k + 1)) W3 ∧ OwnI W3 W.heap.size (.slice (some ⟨b, o, none⟩) n c) L ∧ W.heap.size ≤ W3.heap.size ∧ ∀ r, (Value.slice (some ⟨b, o, none⟩) n c).ownBlock = some r → ¬ Mine W3 r) := Lib.hid (by
          refine ⟨by rw [HSt.out]; exact hJ3, ownI_keep HK.out.2.1 fun r e => ?_, Nat.le_trans HK.out.2.2.1 hk3.1, fun r e hm => HK.out.2.2.2 r e (hk3.2.2 r (ownI_ge HK.out.2.1 r e).2.1 hm)⟩
          obtain ⟨_, _, cur, hcr⟩ := ownI_ge HK.out.2.1 r e
          exact hk3.2.1 r cur _ _ hcr (HK.out.2.2.2 r e))
        clear hJ3 hk3 hR hy q1 HK
        gi_wp2
        go_roundw
        case rel => exact ⟨k + 1, by omega, by go_num, HK3⟩
        case measure => simp [RowKit.intOf]; omega
      · have HJ3 := Lib.hid hJx3
        clear hJx3 hR hy
        gi_wp2
        refine bodyPost_ret (results_none rfl _ _ _) rfl ?_
        exact ⟨⟨_, rfl⟩, .inr ⟨(pairs L).take k ++ [(k, X)], by rw [← HSt.out]; exact List.take_prefix _ _, HJ3.out⟩⟩
    · have hkn : k = n := by omega
      subst hkn
      have glt : decide ((k : Int) < (k : Int)) = false := by simp
      have HF : Hid (J (pairs L) wr) := Lib.hid (by have := HK.out.1; rwa [List.take_of_length_le (by rw [pairs_len, ← HN.out]; exact Nat.le_refl _)] at this)
      gi_wp2
      go_end0
      exact ⟨⟨_, rfl⟩, .inl ⟨pairs L, rfl, HF.out⟩⟩
set_option maxRecDepth 100000 in
/-- Of a nil back nothing is told. -/
theorem iter_nil (l Bs : Nat) (J Jx : List (Nat × Int) → World → Prop) (W : World) (hBs : Boxed W Bs 24 (.pointer none)) (h0 : J [] W) :
    CallsIn Fence.wide 2 Try.prog 31 #[.func (.yield l) #[] #[], .pointer (some ⟨Bs, 0, none⟩)] W fun e W' => (∃ v, e = .returned v) ∧ ((∃ ys, ys = pairs [] ∧ J ys W') ∨ (∃ pre, pre <+: pairs [] ∧ Jx pre W')) := by
  have hc := hBs.cell
  have H0 := Lib.hid h0
  clear h0 hBs
  refine callsIn_of_wp Try.func31 rfl trivial ?_ rfl
  simp only [Try.ntmps31, List.size_toArray, List.length_cons, List.length_nil, Nat.reduceAdd, Nat.reduceSub, Array.replicate_succ, Array.replicate_zero, List.push_toArray, List.append_toArray, List.nil_append, List.cons_append]
  gi_wp2
  refine bodyPost_ret (results_none rfl _ _ _) rfl ?_
  exact ⟨⟨_, rfl⟩, .inl ⟨[], by rfl, H0.out⟩⟩
theorem All_run (s : Option Addr) (V : World) : Calls Try.prog 22 #[.pointer s] V fun e w' => e = .returned (.func (.func 31) #[] #[.pointer (some ⟨V.heap.size, 0, none⟩)]) ∧ w' = V.alloc (.cells #[.pointer s] 24) := by
  go_enter Try.func22, Try.ntmps22
  go_wp2
  go_ret
  exact ⟨rfl, rfl⟩
theorem All_any {w : World} {s : Value} {M G : Nat} {L : List Int} (h : BkAt w s M G L) : Calls Try.prog 22 #[s] w (AllTells L w) := by
  obtain ⟨p, A, c, rfl, hp, ho, hr, hcap⟩ := h.open_
  refine (All_run _ w).mono ?_
  rintro e w' ⟨rfl, rfl⟩
  have hb : Below w.heap.size w (w.alloc (.cells #[.pointer (some ⟨p, 0, none⟩)] 24)) := (Below.refl _ _).alloc (Nat.le_refl _) _
  have hx := Boxed.new w 24 (.pointer (some ⟨p, 0, none⟩))
  refine ⟨_, rfl, hb, fun Mine hMO hMV => ?_⟩
  intro l J Jx W hW hJ hJx hY h0
  have hbW : Below w.heap.size w W := hb.trans (hW.mono hb.size)
  exact iter_in l w.heap.size Mine J Jx _ w W hMO hMV hb.size hW ((hW.block _ hx.lt).trans hx) (Nat.le_trans hcap.1 hcap.2) (cell_of ((hbW.block p (blk_lt hp)).trans hp) 2) ((winI_lies ho).below hbW) hJ hY h0
end Go.Proofs.Ytpanhkhiomgclaa.Ba
