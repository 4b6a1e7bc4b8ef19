/- Layer 8: the program's step, whole; Feed, End, Waits, State; a nil parser. -/
import Derived.Test.YtkenaccnmmmooaaDoorEpH
namespace Go.Proofs.YtkenaccnmmmooaaDoor
open Go.RowKit Ev

set_option maxRecDepth 100000 in
theorem grid_p1 : ∀ s, s < 14 → ∀ c, c < 256 → (!(actN s c == 1) || (!endsN s (toN s c) && !clearsN s (toN s c))) = true := by decide +kernel
set_option maxRecDepth 100000 in
theorem grid_p24 : ∀ s, s < 14 → ∀ c, c < 256 → (!(c == 24 || c == 26) || !clearsN s (toN s c)) = true := by decide +kernel

theorem step_any {w : World} {a : Nat} {q : Q} {L : List EV} (h : IsP w a q L) (hT : D5.Tabs w) (b : UInt8) (hm : q.mids.length ≤ 1000000) (ht : q.text.length ≤ 1000000) :
    Calls Tryd.prog 22 #[.pointer (some ⟨a, 0, none⟩), .int .u8 (b.toNat : Int)] w (PStep w a (stepE q b).2 (L ++ (stepE q b).1)) := by
  have g := grid_st q.st h.stb b.toNat b.toNat_lt
  have g1 := grid_p1 q.st h.stb b.toNat b.toNat_lt
  have g24 := grid_p24 q.st h.stb b.toNat b.toNat_lt
  by_cases h1 : actN q.st b.toNat = 1
  · rw [h1] at g1
    have g1' : endsN q.st (toN q.st b.toNat) = false ∧ clearsN q.st (toN q.st b.toNat) = false := by simpa using g1
    exact step_one h hT b hm ht _ h1 rfl g.1 g1'.1 g1'.2
  cases he : endsN q.st (toN q.st b.toNat) with
  | false =>
    cases hc : clearsN q.st (toN q.st b.toNat) with
    | false => exact step_plain h hT b hm ht _ _ rfl rfl g.2.1 g.1 h1 he hc
    | true => exact step_clears h hT b hm ht _ _ rfl rfl g.2.1 g.1 h1 he hc
  | true =>
    by_cases h24 : b.toNat = 24
    · have hc : clearsN q.st (toN q.st b.toNat) = false := by rw [h24] at g24 ⊢; simpa using g24
      exact step_e24 h hT b hm ht _ _ rfl rfl g.2.1 g.1 h1 he hc h24
    by_cases h26 : b.toNat = 26
    · have hc : clearsN q.st (toN q.st b.toNat) = false := by rw [h26] at g24 ⊢; simpa using g24
      exact step_e26 h hT b hm ht _ _ rfl rfl g.2.1 g.1 h1 he hc h26
    cases hc : clearsN q.st (toN q.st b.toNat) with
    | false => exact step_e_stay h hT b hm ht _ _ rfl rfl g.2.1 g.1 h1 he hc (by omega)
    | true => exact step_e_clears h hT b hm ht _ _ rfl rfl g.2.1 g.1 h1 he hc (by omega)

theorem pstep_len (q : Q) (b : UInt8) : (stepE q b).2.mids.length ≤ q.mids.length + 1 ∧ (stepE q b).2.text.length ≤ q.text.length + 1 := by
  have hr : ∀ R : Q, (doE (actN q.st b.toNat) R b).2.mids.length ≤ R.mids.length + 1 ∧ (doE (actN q.st b.toNat) R b).2.text.length ≤ R.text.length + 1 := by
    intro R
    generalize actN q.st b.toNat = act
    unfold doE
    repeat' split
    all_goals (refine ⟨?_, ?_⟩ <;> simp)
  have hq : (readyE q (actN q.st b.toNat) (toN q.st b.toNat)).mids.length ≤ q.mids.length ∧ (readyE q (actN q.st b.toNat) (toN q.st b.toNat)).text.length ≤ q.text.length := by
    unfold readyE
    repeat' split
    all_goals simp
  have r := hr (readyE q (actN q.st b.toNat) (toN q.st b.toNat))
  unfold stepE
  exact ⟨by show (doE _ _ b).2.mids.length ≤ _; omega, by show (doE _ _ b).2.text.length ≤ _; omega⟩
theorem prun_len (q : Q) (l : List UInt8) : (runE q l).2.mids.length ≤ q.mids.length + l.length ∧ (runE q l).2.text.length ≤ q.text.length + l.length := by
  induction l generalizing q with
  | nil => exact ⟨Nat.le_refl _, Nat.le_refl _⟩
  | cons b l ih =>
    have h1 := pstep_len q b
    have h2 := ih (stepE q b).2
    show (runE (stepE q b).2 l).2.mids.length ≤ _ ∧ (runE (stepE q b).2 l).2.text.length ≤ _
    simp only [List.length_cons]
    omega
theorem run_take (q : Q) (l : List UInt8) (k : Nat) (h : k < l.length) : runE q (l.take (k + 1)) = ((runE q (l.take k)).1 ++ (stepE (runE q (l.take k)).2 l[k]).1, (stepE (runE q (l.take k)).2 l[k]).2) := by
  rw [List.take_succ_eq_append_getElem h, runE_snoc]

set_option maxRecDepth 100000 in
/-- Feed. -/
theorem feed_any {w : World} {a : Nat} {q : Q} {L : List EV} (h : IsP w a q L) (hT : D5.Tabs w) (s : ByteArray) (l : List UInt8) (hl : l = s.data.toList) (hs : s.size ≤ 100000) (hm : q.mids.length ≤ 100000) (ht : q.text.length ≤ 100000) :
    Calls Tryd.prog 13 #[.pointer (some ⟨a, 0, none⟩), .string s] w (PStep w a (runE q l).2 (L ++ (runE q l).1)) := by
  obtain ⟨n, hn⟩ : ∃ n, n = s.size := ⟨_, rfl⟩
  have hln : l.length = n := by rw [hl, hn]; exact Array.length_toList
  have HN := Lib.hid hln
  have HL : Hid (∀ k (hk : k < l.length) (hk' : k < s.size), s[k] = l[k]) := Lib.hid fun k hk hk' => by
    subst hl
    show s.data[k] = _
    rw [Array.getElem_toList]
  have HH := Lib.hid h
  have HT := Lib.hid hT
  have HNE := Lib.hid h.ne
  have HQ := Lib.hid (And.intro hm ht)
  have hn1 : n ≤ 100000 := by omega
  clear h hT hm ht hl hln hs
  go_enter Tryd.func13, Tryd.ntmps13
  go_wp2
  go_loopw [9] (fun i wr => ∃ k : Nat, k ≤ n ∧ i = .int .i64 k ∧ Hid (IsP wr a (runE q (l.take k)).2 (L ++ (runE q (l.take k)).1)) ∧ Hid (Stirs a 0 1183 w wr)) (fun i _ => n - (RowKit.intOf i).toNat)
  case atStart => exact ⟨0, Nat.zero_le _, rfl, Lib.hid (by simpa [runE] using HH.out), Lib.hid (Stirs.refl _ _ _ _)⟩
  case round =>
    obtain ⟨k, hk, rfl, HI, HS⟩ := hrel
    by_cases hlt : k < n
    · have hlt' : k < l.length := by rw [HN.out]; exact hlt
      have hks : k < s.size := by omega
      have hb : s[k] = l[k] := HL.out k hlt' hks
      have HP : Hid (Calls Tryd.prog 22 #[.pointer (some ⟨a, 0, none⟩), .int .u8 ((s[k]).toNat : Int)] wr (PStep wr a (runE q (l.take (k + 1))).2 (L ++ (runE q (l.take (k + 1))).1))) := Lib.hid (by
        have hlen := prun_len q (l.take k)
        have hlt2 := List.length_take_le k l
        have hq := HQ.out
        have hN := HN.out
        have := step_any HI.out (stirs_tabs HT.out HS.out HNE.out) l[k] (by omega) (by omega)
        rw [hb, run_take q l k hlt', ← List.append_assoc]
        exact this)
      clear hb
      go_wp2_with fail
      refine (show Calls _ _ _ _ _ from HP.out).mono ?_
      rintro e w3 ⟨rfl, hR, hst⟩
      have HR := Lib.hid hR
      have HS3 := Lib.hid (HS.out.trans hst)
      clear hR hst HP HI HS
      go_wp2
      go_roundw
      case rel => exact ⟨k + 1, by omega, by go_num, HR, HS3⟩
      case measure => simp [RowKit.intOf]; omega
    · have hkn : k = n := by omega
      subst hkn
      have HF : Hid (IsP wr a (runE q l).2 (L ++ (runE q l).1)) := Lib.hid (by
        have := HI.out
        rwa [← HN.out, List.take_length] at this)
      clear HI
      go_wp2
      go_end0
      exact ⟨rfl, HF.out, HS.out⟩

def waitsB (q : Q) : Bool := q.st != 0 || !q.kept.isEmpty
theorem wait_any {w : World} {a : Nat} {q : Q} {L : List EV} (h : IsP w a q L) : Calls Tryd.prog 15 #[.pointer (some ⟨a, 0, none⟩)] w fun e w' => e = .returned (.bool (waitsB q)) ∧ ∃ j, w' = w.drewN j := by
  have c5 := h.st
  obtain ⟨s, hs⟩ : ∃ s, s = q.st := ⟨_, rfl⟩
  have HC : ∀ j, Hid (Calls Tryd.prog 24 #[.pointer (some ⟨a, 0, none⟩)] (w.drewN j) fun e w' => e = .returned (.int .i64 q.kept.length) ∧ w.drewN j = w') := fun j => Lib.hid (D5.waits_any a 0 q.kept (w.drewN j) (h.below (below_drew (Below.refl _ _) j)).dec)
  rw [← hs] at c5
  by_cases h0 : s = 0
  · have d1 : ((s : Int) != 0) = false := by simp [h0]
    have d2 : ((s : Int) == 0) = true := by simp [h0]
    have E : Hid (waitsB q = decide (0 < (q.kept.length : Int))) := Lib.hid (by
      unfold waitsB
      rw [← hs, h0]
      cases q.kept with
      | nil => rfl
      | cons x l => simp)
    obtain ⟨n, hn⟩ : ∃ n, n = q.kept.length := ⟨_, rfl⟩
    rw [E.out]
    rw [← hn] at HC ⊢
    clear h hs h0 hn E
    go_enter Tryd.func15, Tryd.ntmps15
    go_wp2_with fail
    refine (show Calls _ _ _ _ _ from (HC 0).out).mono ?_
    rintro e w2 ⟨rfl, rfl⟩
    clear HC
    go_wp2
    go_ret
    exact ⟨by simp, 0, rfl⟩
  · have d1 : ((s : Int) != 0) = true := by simp; omega
    have d2 : ((s : Int) == 0) = false := by simp; omega
    have E : Hid (waitsB q = true) := Lib.hid (by simp [waitsB]; left; omega)
    rw [E.out]
    clear h hs h0 E HC
    go_enter Tryd.func15, Tryd.ntmps15
    go_wp2
    go_ret
    exact ⟨rfl, 0, rfl⟩

theorem nil_feed (s : ByteArray) (w : World) : Calls Tryd.prog 13 #[.pointer none, .string s] w fun e w' => e = .returned (.tuple #[]) ∧ w = w' := by
  go_enter Tryd.func13, Tryd.ntmps13
  go_wp2
  first | go_end0 | (try simp only [Exit.inBlock, Exit.then]); refine bodyPost_ret (results_none rfl _ _ _) rfl ?_
  exact ⟨rfl, rfl⟩
theorem nil_waits (w : World) : Calls Tryd.prog 15 #[.pointer none] w fun e w' => e = .returned (.bool false) ∧ w = w' := by
  go_enter Tryd.func15, Tryd.ntmps15
  go_wp2
  go_ret
  exact ⟨rfl, rfl⟩
end Go.Proofs.YtkenaccnmmmooaaDoor
