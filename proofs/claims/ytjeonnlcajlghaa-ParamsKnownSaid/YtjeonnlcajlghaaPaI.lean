/- Layer 7: ParamsBounds' walk. -/
import Derived.Test.YtjeonnlcajlghaaPaG
namespace Go.Proofs.Ytjeonnlcajlghaa
open Go.RowKit Par

theorem Tab.more {w : World} {B C : Nat} {A : Option Addr} {l : List (List Nat)} (h : Tab w B A l) (hC : B ≤ C) : Tab w C A l := Grid.more h hC
theorem getD_mem {α : Type} (q : List α) (c : Nat) (d : α) (h : c < q.length) : q.getD c d ∈ q := by
  simp only [List.getD, List.getElem?_eq_getElem h, Option.getD_some]
  exact List.getElem_mem h
/-- What stands ahead, alone. -/
theorem Tab.ahead {w : World} {B : Nat} {A : Option Addr} {l r : List (List Nat)} (h : Tab w B A (l ++ r)) : Tab w B A l := fun hp => by
  obtain ⟨a, e, hb, hr⟩ := h (by simp; omega)
  refine ⟨a, e, hb, fun k hk => ?_⟩
  have hg : (l ++ r).getD k [] = l.getD k [] := by simp [List.getD, List.getElem?_append_left hk]
  have := hr k (by simp; omega)
  simp only [hg] at this
  exact this

theorem bounds_big (s t : ByteArray) (w : World) (hs : s.size ≤ maxLen) (ht : t.size ≤ maxLen) (h : 3000 < s.size ∨ 3000 < t.size) :
    Calls Try.prog 7 #[.string s, .string t] w fun e w' => e = .returned (.bool true) ∧ Below w.heap.size w w' := by
  have HA := Lib.hid (awake_any w)
  unfold maxLen at hs ht
  by_cases h1 : 3000 < s.size
  · have g1 : decide ((3000 : Int) < s.size) = true := by simp; omega
    clear h
    go_enter Try.func7, Try.ntmps7
    go_wp2_with fail
    refine HA.out.mono ?_
    rintro e w1 ⟨rfl, hb⟩
    have B1 := Lib.hid hb
    clear hb HA
    go_wp2
    go_ret
    exact ⟨rfl, B1.out⟩
  · have g1 : decide ((3000 : Int) < s.size) = false := by simp; omega
    have g2 : decide ((3000 : Int) < t.size) = true := by simp; omega
    have h2 : 3000 < t.size := by omega
    clear h
    go_enter Try.func7, Try.ntmps7
    go_wp2_with fail
    refine HA.out.mono ?_
    rintro e w1 ⟨rfl, hb⟩
    have B1 := Lib.hid hb
    clear hb HA
    go_wp2
    go_ret
    exact ⟨rfl, B1.out⟩

set_option maxRecDepth 100000 in
set_option maxHeartbeats 3200000 in
theorem bounds_small (s t : ByteArray) (w : World) (hs : s.size ≤ 3000) (ht : t.size ≤ 3000) :
    Calls Try.prog 7 #[.string s, .string t] w fun e w' => e = .returned (.bool true) ∧ Below w.heap.size w w' := by
  have HA := Lib.hid (awake_any w)
  have g1 : decide ((3000 : Int) < s.size) = false := by simp; omega
  have g2 : decide ((3000 : Int) < t.size) = false := by simp; omega
  have n1 : ¬ 9223372036854775807 < s.size + 1 := by omega
  have n2 : ¬ 9223372036854775807 < s.size + 1 + t.size := by omega
  obtain ⟨L, hL⟩ : ∃ L, L = parsV s.data.toList := ⟨_, rfl⟩
  obtain ⟨R, hR⟩ := pars_keep s.data.toList t.data.toList
  have hok := pars_ok (s.data.toList ++ 59 :: t.data.toList)
  rw [hR, ← hL] at hok
  have HP1 : Hid (listP (runP none s.data.toList) = L) := Lib.hid hL.symm
  have HP2 : Hid (listP (runP none (s ++ ⟨#[59]⟩ ++ t).data.toList) = L ++ R) := Lib.hid (by
    have : (s ++ ⟨#[59]⟩ ++ t).data.toList = s.data.toList ++ 59 :: t.data.toList := by simp [ByteArray.data_append]
    rw [this, hL]
    exact hR)
  have HZ : Hid ((s ++ ⟨#[59]⟩ ++ t).size ≤ 1000000) := Lib.hid (by rw [ByteArray.size_append, ByteArray.size_append]; show s.size + 1 + t.size ≤ _; omega)
  have HS := Lib.hid hs
  clear hL hR hs ht
  obtain ⟨n, hn⟩ : ∃ n, n = L.length := ⟨_, rfl⟩
  obtain ⟨m, hm⟩ : ∃ m, m = (L ++ R).length := ⟨_, rfl⟩
  have h16 := hok.1
  have hnm : n ≤ m := by rw [hn, hm]; simp
  rw [← hm] at h16
  have HN := Lib.hid hn
  have HM := Lib.hid hm
  have HR := Lib.hid hok.2
  have d1 : decide ((16 : Int) < n) = false := by simp; omega
  have d2 : decide ((16 : Int) < m) = false := by simp; omega
  have d3 : decide (m < n) = false := by simp; omega
  clear hok hn hm
  go_enter Try.func7, Try.ntmps7
  go_wp2_with fail
  refine HA.out.mono ?_
  rintro e w1 ⟨rfl, hb⟩
  have B1 := Lib.hid hb
  clear hb HA
  go_wp2_with fail
  refine (mine_list B1.out B1.out.size s _ rfl (by have := HS.out; omega)).mono ?_
  rintro e w2 ⟨rfl, hp, _⟩
  have M2 := Lib.hid hp
  clear hp B1
  go_wp2_with fail
  refine (mine_all M2.out L n HP1.out HN.out.symm).mono ?_
  rintro e w3 ⟨rfl, ht, hp, _⟩
  have M3 := Lib.hid hp
  have T3 := Lib.hid ht
  clear hp ht M2
  go_wp2_with fail
  refine (mine_list M3.out.old M3.out.sz _ _ rfl HZ.out).mono ?_
  rintro e w4 ⟨rfl, hp, hb⟩
  have M4 := Lib.hid hp
  have T4 := Lib.hid (T3.out.below hb)
  have S4 := Lib.hid hb.size
  clear hp hb T3 M3
  go_wp2_with fail
  refine (mine_all M4.out (L ++ R) m HP2.out HM.out.symm).mono ?_
  rintro e w5 ⟨rfl, ht, hp, hb⟩
  have M5 := Lib.hid hp
  have TB := Lib.hid ht
  have TA := Lib.hid (((T4.out.more S4.out).below hb).more hb.size)
  clear hp ht hb T4 M4 S4
  go_wp2
  obtain ⟨g, hg⟩ : ∃ g, g = w4.heap.size := ⟨_, rfl⟩
  rw [← hg] at TB ⊢
  clear hg
  have KR : Hid (∀ r, r < m → 1 ≤ ((L ++ R).getD r []).length ∧ ((L ++ R).getD r []).length ≤ 8 ∧ ∀ c, c < ((L ++ R).getD r []).length → ((L ++ R).getD r []).getD c 0 ≤ 9999) := Lib.hid (fun r hr => by
    have hr' : r < (L ++ R).length := by rw [← HM.out]; exact hr
    obtain ⟨q1, q2, q3⟩ := HR.out _ (getD_mem (L ++ R) r [] hr')
    exact ⟨q1, q2, fun c hc => q3 _ (getD_mem _ c 0 hc)⟩)
  go_loopw [7] (fun i wr => wr = w5 ∧ ∃ k : Nat, k ≤ m ∧ i = .int .i64 k) (fun i _ => m - (RowKit.intOf i).toNat)
  case atStart => exact ⟨rfl, 0, Nat.zero_le _, rfl⟩
  case round =>
    obtain ⟨rfl, k, hk, rfl⟩ := hrel
    rename_i wr
    by_cases hlt : k < m
    · obtain ⟨q1, q2, q3⟩ := KR.out k hlt
      obtain ⟨a, A1, C1, ha, _, ca, _, hx⟩ := Grid.at_ TB.out (r := k) (by rw [← HM.out]; exact hlt)
      obtain rfl := Option.some.inj ha
      rw [add_zero] at ca
      generalize (L ++ R).getD k [] = row at q1 q2 q3 ca hx
      obtain ⟨z, hz⟩ : ∃ z, z = row.length := ⟨_, rfl⟩
      rw [← hz] at q1 q2 ca
      have HX : Hid (∀ c, c < z → ∃ a', A1 = some a' ∧ wr.cell? (a'.add c) = some (.int .i64 (row.getD c 0 : Nat)) ∧ row.getD c 0 ≤ 9999) := Lib.hid (fun c hc => by
        obtain ⟨a', e1, _, e2⟩ := hx c (by rw [← hz]; exact hc)
        exact ⟨a', e1, e2, q3 c (by rw [← hz]; exact hc)⟩)
      have b1 : decide ((z : Int) < 1) = false := by simp; omega
      have b2 : decide ((8 : Int) < z) = false := by simp; omega
      clear hx q3 hz ha
      go_wp2
      go_loopw [8] (fun i wr' => wr' = wr ∧ ∃ t : Nat, t ≤ z ∧ i = .int .i64 t) (fun i _ => z - (RowKit.intOf i).toNat)
      case atStart => exact ⟨rfl, 0, Nat.zero_le _, rfl⟩
      case round =>
        obtain ⟨rfl, t, ht, rfl⟩ := hrel
        by_cases hlt2 : t < z
        · obtain ⟨p, rfl, cp, hp9⟩ := HX.out t hlt2
          generalize row.getD t 0 = y at cp hp9
          have b3 : decide ((y : Int) < 0) = false := by simp
          have b4 : decide ((9999 : Int) < y) = false := by simp; omega
          go_wp2
          go_roundw
          case rel => exact ⟨trivial, t + 1, by omega, by go_num⟩
          case measure => simp [RowKit.intOf]; omega
        · have htz : t = z := by omega
          subst htz
          go_wp2
          go_roundw
          case rel => exact ⟨trivial, k + 1, by omega, by go_num⟩
          case measure => simp [RowKit.intOf]; omega
    · have hkn : k = m := by omega
      subst hkn
      clear KR
      have HS18 := Lib.hid (same_is (n := n) (m := n) k n (Tab.ahead TB.out) TA.out HN.out.symm HN.out.symm (by have := HN.out; omega) (fun q hq => by have := (HR.out q (by simp [hq])).2.1; omega))
      go_wp2_with fail
      refine HS18.out.mono ?_
      rintro e w6 ⟨rfl, j, rfl⟩
      go_wp2
      go_ret
      exact ⟨rfl, below_drew M5.out.old _⟩

theorem lawBounds_any (s t : ByteArray) (w : World) (hs : s.size ≤ maxLen) (ht : t.size ≤ maxLen) :
    Calls Try.prog 7 #[.string s, .string t] w fun e w' => e = .returned (.bool true) ∧ Below w.heap.size w w' := by
  by_cases h : 3000 < s.size ∨ 3000 < t.size
  · exact bounds_big s t w hs ht h
  · exact bounds_small s t w (by omega) (by omega)
end Go.Proofs.Ytjeonnlcajlghaa
