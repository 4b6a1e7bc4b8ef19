/- Layer 2: AuditKnown's walk. -/
import Derived.Test.YtjfonbkeamhnmaaAudH
import Derived.Test.YtjfonbkeamhnmaaRepeat
namespace Go.Proofs.Ytjfonbkeamhnmaa
open Go.RowKit Lat

def ka : Ent := ⟨2, 0, 1, ⟨#[]⟩⟩
def kb : Ent := ⟨1, 1, 0, ⟨#[121]⟩⟩
def kc : Ent := ⟨3, 1, 0, ⟨#[]⟩⟩
def kd (s : ByteArray) : Ent := ⟨2, 1, 0, s⟩
def kg : Ent := ⟨2, 2, 1, ⟨#[]⟩⟩
def ki : Ent := ⟨1, 1, 0, ⟨#[]⟩⟩
/-- The log behind k entries of the loop. -/
def kL (s : ByteArray) (k : Nat) : List Ent := [kb, kd s] ++ List.replicate k kg

theorem q1 : putErr 3 (rankT 3) [] ka = 7 ∧ putL 3 (rankT 3) [] ka = [] := ⟨by kernel_rfl, by kernel_rfl⟩
theorem q2 : putErr 3 (rankT 3) [] kb = 0 ∧ putL 3 (rankT 3) [] kb = [kb] := ⟨by kernel_rfl, by kernel_rfl⟩
theorem q3 : putErr 3 (rankT 3) [kb] kc = 1 ∧ putL 3 (rankT 3) [kb] kc = [kb] := ⟨by kernel_rfl, by kernel_rfl⟩
theorem labels_d (s : ByteArray) : (isLabel 3 (kd s).b && isLabel 3 (kd s).f && isLabel 3 (kd s).t) = true := by show (isLabel 3 2 && isLabel 3 1 && isLabel 3 0) = true; kernel_rfl
theorem may_d (s : ByteArray) : mayB 3 (rankT 3) (kd s) = true := by show (belowV 3 (rankT 3) 1 2 && belowV 3 (rankT 3) 0 2 && !belowV 3 (rankT 3) 1 0) = true; kernel_rfl
theorem room_d (s : ByteArray) : roomV 3 [kb] (kd s).b = 16 := by show roomV 3 [kb] 2 = 16; kernel_rfl
theorem q4 (s : ByteArray) (h : s.size = 4097) : putErr 3 (rankT 3) [kb] (kd s) = 3 ∧ putL 3 (rankT 3) [kb] (kd s) = [kb] := by
  have e : putErr 3 (rankT 3) [kb] (kd s) = 3 := by
    rw [putErr, labels_d, may_d, if_neg (by simp), if_neg (by simp), if_pos (by show 4096 < s.size; omega)]
  exact ⟨e, by rw [putL, e]; rfl⟩
theorem q5 (s : ByteArray) (h : s.size = 4096) : putErr 3 (rankT 3) [kb] (kd s) = 0 ∧ putL 3 (rankT 3) [kb] (kd s) = kL s 0 := by
  have e : putErr 3 (rankT 3) [kb] (kd s) = 0 := by
    rw [putErr, labels_d, may_d, if_neg (by simp), if_neg (by simp), if_neg (by show ¬ 4096 < s.size; omega), room_d, if_neg (by decide)]
  exact ⟨e, by rw [putL, e]; rfl⟩
theorem kL_succ (s : ByteArray) (k : Nat) : kL s k ++ [kg] = kL s (k + 1) := by
  unfold kL
  rw [List.append_assoc, List.replicate_succ']
theorem kL_len (s : ByteArray) (k : Nat) : (kL s k).length = k + 2 := by
  unfold kL
  simp
theorem cnt_kL (s : ByteArray) (k : Nat) : cnt 2 (kL s k) = k + 1 := by
  induction k with
  | zero => rfl
  | succ k ih => rw [← kL_succ, cnt_snoc, ih]; rfl
theorem errG (s : ByteArray) (k : Nat) : putErr 3 (rankT 3) (kL s k) kg = if (k : Int) = 15 then 6 else 0 := by
  have h1 : (isLabel 3 kg.b && isLabel 3 kg.f && isLabel 3 kg.t) = true := by kernel_rfl
  have h2 : mayB 3 (rankT 3) kg = true := by kernel_rfl
  have h3 : roomV 3 (kL s k) kg.b = 15 - (k : Int) := by
    show roomV 3 (kL s k) 2 = _
    rw [roomV, if_pos (by kernel_rfl), cnt_kL]
    omega
  rw [putErr, h1, h2, if_neg (by simp), if_neg (by simp), if_neg (by decide), h3]
  by_cases e : (k : Int) = 15
  · rw [if_pos (by omega), if_pos e]
  · rw [if_neg (by omega), if_neg e]
theorem q6 (s : ByteArray) (k : Nat) (h : k < 15) : putErr 3 (rankT 3) (kL s k) kg = 0 ∧ putL 3 (rankT 3) (kL s k) kg = kL s (k + 1) := by
  have e : putErr 3 (rankT 3) (kL s k) kg = 0 := by rw [errG, if_neg (by omega)]
  exact ⟨e, by rw [putL, e, if_pos rfl, kL_succ]⟩
theorem q7 (s : ByteArray) : putErr 3 (rankT 3) (kL s 15) kg = 6 ∧ putL 3 (rankT 3) (kL s 15) kg = kL s 15 := by
  have e : putErr 3 (rankT 3) (kL s 15) kg = 6 := by rw [errG, if_pos (by decide)]
  exact ⟨e, by rw [putL, e, if_neg (by decide)]⟩
theorem cnt1_kL (s : ByteArray) (k : Nat) : cnt 1 (kL s k) = 1 := by
  induction k with
  | zero => rfl
  | succ k ih => rw [← kL_succ, cnt_snoc, ih]; rfl
theorem q8 (s : ByteArray) : putErr 3 (rankT 3) (kL s 15) ki = 0 ∧ putL 3 (rankT 3) (kL s 15) ki = kL s 15 ++ [ki] := by
  have h1 : (isLabel 3 ki.b && isLabel 3 ki.f && isLabel 3 ki.t) = true := by kernel_rfl
  have h2 : mayB 3 (rankT 3) ki = true := by kernel_rfl
  have h3 : roomV 3 (kL s 15) ki.b = 15 := by
    show roomV 3 (kL s 15) 1 = _
    rw [roomV, if_pos (by kernel_rfl), cnt1_kL]
    rfl
  have e : putErr 3 (rankT 3) (kL s 15) ki = 0 := by rw [putErr, h1, h2, if_neg (by simp), if_neg (by simp), if_neg (by decide), h3, if_neg (by decide)]
  exact ⟨e, by rw [putL, e, if_pos rfl]⟩
theorem seen_kL (s : ByteArray) (k : Nat) : (seenL 3 (rankT 3) (kL s k) 1).length = 1 := by
  induction k with
  | zero =>
    have h1 : belowV 3 (rankT 3) 1 1 = true := by kernel_rfl
    have h2 : belowV 3 (rankT 3) 2 1 = false := by kernel_rfl
    simp [seenL, kL, kb, kd, h1, h2]
  | succ k ih =>
    have h2 : belowV 3 (rankT 3) kg.b 1 = false := by kernel_rfl
    rw [← kL_succ, seen_snoc, h2]
    simpa using ih
theorem q9 (s : ByteArray) : (seenL 3 (rankT 3) (kL s 15 ++ [ki]) 1).length = 2 ∧ (kL s 15 ++ [ki]).length = 18 := by
  have h2 : belowV 3 (rankT 3) ki.b 1 = true := by kernel_rfl
  rw [seen_snoc, h2, List.length_append, seen_kL, List.length_append, kL_len]
  exact ⟨rfl, rfl⟩

theorem rep_size (c : Nat) : (⟨(Lib.repeatL [120] c).toArray⟩ : ByteArray).size = c := by
  show (Lib.repeatL [120] c).toArray.size = c
  simp [Lib.repeatL_length]

set_option maxRecDepth 100000 in
set_option maxHeartbeats 4000000 in
theorem known_any (w : World) : Calls Try.prog 3 #[] w fun e w' => e = .returned (.bool true) ∧ Below w.heap.size w w' := by
  go_enter Try.func3, Try.ntmps3
  go_wp2_with fail
  refine (chain_any w).mono ?_
  rintro e w1 ⟨lb, rfl, hlb, hI, hB⟩
  have HN := Lib.hid (mine_new hI hB hB.size)
  clear hI hB hlb
  go_wp2_with fail
  refine HN.out.mono ?_
  rintro e w2 ⟨gb, rfl, hM⟩
  have H2 := Lib.hid hM
  clear hM HN
  go_wp2_with fail
  refine (mine_put ka H2.out (by decide) (by decide)).mono ?_
  rintro e w3 ⟨he, hM⟩
  rw [q1.1] at he
  rw [q1.2] at hM
  subst he
  have H3 := Lib.hid hM
  clear hM H2
  go_wp2_with fail
  refine (mine_put kb H3.out (by decide) (by decide)).mono ?_
  rintro e w4 ⟨he, hM⟩
  rw [q2.1] at he
  rw [q2.2] at hM
  subst he
  have H4 := Lib.hid hM
  clear hM H3
  go_wp2_with fail
  refine (mine_put kc H4.out (by decide) (by decide)).mono ?_
  rintro e w5 ⟨he, hM⟩
  rw [q3.1] at he
  rw [q3.2] at hM
  subst he
  have H5 := Lib.hid hM
  clear hM H4
  go_wp2_with fail
  refine (Try.strings_Repeat ⟨#[120]⟩ 4097 w5 (by decide) (by decide)).mono ?_
  rintro e w6 ⟨rfl, hb⟩
  have hs1 := rep_size 4097
  generalize (⟨(Lib.repeatL [120] 4097).toArray⟩ : ByteArray) = s1 at hs1
  have HS1 := Lib.hid hs1
  have H6 := Lib.hid (H5.out.below hb)
  clear hs1 hb H5
  go_wp2_with fail
  refine (mine_put (kd s1) H6.out (by show s1.size ≤ _; rw [HS1.out]; decide) (by decide)).mono ?_
  rintro e w7 ⟨he, hM⟩
  rw [(q4 s1 HS1.out).1] at he
  rw [(q4 s1 HS1.out).2] at hM
  subst he
  have H7 := Lib.hid hM
  clear hM H6
  go_wp2_with fail
  refine (Try.strings_Repeat ⟨#[120]⟩ 4096 w7 (by decide) (by decide)).mono ?_
  rintro e w8 ⟨rfl, hb⟩
  have hs := rep_size 4096
  generalize (⟨(Lib.repeatL [120] 4096).toArray⟩ : ByteArray) = s at hs
  have HS := Lib.hid hs
  have H8 := Lib.hid (H7.out.below hb)
  clear hs hb H7
  go_wp2_with fail
  refine (mine_put (kd s) H8.out (by show s.size ≤ _; rw [HS.out]; decide) (by decide)).mono ?_
  rintro e w9 ⟨he, hM⟩
  rw [(q5 s HS.out).1] at he
  rw [(q5 s HS.out).2] at hM
  subst he
  have H9 := Lib.hid hM
  clear hM H8
  go_wp2
  go_loopw [8] (fun i wr => ∃ k : Nat, k ≤ 15 ∧ i = .int .i64 k ∧ Mine w wr w.heap.size gb lb 3 (rankT 3) (kL s k)) (fun i _ => 15 - (intOf i).toNat)
  case atStart => exact ⟨0, by omega, rfl, H9.out⟩
  case round =>
    obtain ⟨k, hk, rfl, hM⟩ := hrel
    clear H9
    have HM := Lib.hid hM
    clear hM
    by_cases hlt : k < 15
    · go_wp2_with fail
      refine (mine_put kg HM.out (by decide) (by rw [kL_len]; omega)).mono ?_
      rintro e w10 ⟨he, hM⟩
      rw [(q6 s k hlt).1] at he
      rw [(q6 s k hlt).2] at hM
      subst he
      have H10 := Lib.hid hM
      clear hM
      go_wp2
      go_roundw
      case rel => exact ⟨k + 1, by omega, by go_num, H10.out⟩
      case measure => simp [intOf]; omega
    · obtain rfl : k = 15 := by omega
      go_wp2_with fail
      refine (mine_put kg HM.out (by decide) (by rw [kL_len]; omega)).mono ?_
      rintro e w10 ⟨he, hM⟩
      rw [(q7 s).1] at he
      rw [(q7 s).2] at hM
      subst he
      have H10 := Lib.hid hM
      clear hM HM
      go_wp2_with fail
      refine (mine_put ki H10.out (by decide) (by rw [kL_len]; omega)).mono ?_
      rintro e w11 ⟨he, hM⟩
      rw [(q8 s).1] at he
      rw [(q8 s).2] at hM
      subst he
      have H11 := Lib.hid hM
      clear hM H10
      go_wp2_with fail
      refine (awake_any w11).mono ?_
      rintro e w12 ⟨rfl, hb⟩
      have H12 := Lib.hid (H11.out.below hb)
      clear hb H11
      go_wp2_with fail
      refine (mine_len H12.out).mono ?_
      rintro e w13 ⟨rfl, rfl⟩
      rw [(q9 s).2]
      go_wp2_with fail
      refine (mine_seen 1 H12.out (by rw [(q9 s).2]; decide)).mono ?_
      rintro e w14 ⟨A, c, rfl, _, hb⟩
      rw [(q9 s).1]
      have H14 := Lib.hid (H12.out.below hb)
      clear hb H12
      go_wp2
      go_ret
      exact ⟨rfl, H14.out.old⟩
end Go.Proofs.Ytjfonbkeamhnmaa
