/- Layer 7: ParamsRead's walk. -/
import Derived.Test.YtjeonnlcajlghaaPaK
namespace Go.Proofs.Ytjeonnlcajlghaa
open Go.RowKit Par

theorem ref_is (s : ByteArray) (l : List (List Nat)) (n : Nat) (hl : l = parsV s.data.toList) (hn : l.length = n) (hs : s.size ≤ 1000000) (w : World) :
    Calls Try.prog 16 #[.string s] w fun e w' => ∃ A c, e = .returned (.slice A n c) ∧ Tab w' w'.heap.size A l ∧ Below w.heap.size w w' := by
  subst hl
  subst hn
  exact ref_any s _ rfl hs w

theorem seven : listP (comes none 55) = [[7]] := by decide +kernel

theorem read_big (s : ByteArray) (w : World) (hs : s.size ≤ maxLen) (h : 5000 < s.size) :
    Calls Try.prog 4 #[.string s] w fun e w' => e = .returned (.bool true) ∧ Below w.heap.size w w' := by
  unfold maxLen at hs
  have g1 : decide ((5000 : Int) < s.size) = true := by simp; omega
  go_enter Try.func4, Try.ntmps4
  go_wp2_with fail
  refine (awake_any w).mono ?_
  rintro e w1 ⟨rfl, hb⟩
  have B1 := Lib.hid hb
  clear hb
  go_wp2
  go_ret
  exact ⟨rfl, B1.out⟩

set_option maxHeartbeats 1600000 in
theorem read_small (s : ByteArray) (w : World) (hs : s.size ≤ 5000) :
    Calls Try.prog 4 #[.string s] w fun e w' => e = .returned (.bool true) ∧ Below w.heap.size w w' := by
  have g1 : decide ((5000 : Int) < s.size) = false := by simp; omega
  obtain ⟨l, hl⟩ : ∃ l, l = parsV s.data.toList := ⟨_, rfl⟩
  obtain ⟨n, hn⟩ : ∃ n, l.length = n := ⟨_, rfl⟩
  have hok := pars_ok s.data.toList
  rw [← hl] at hok
  have HL := Lib.hid hl
  have HN := Lib.hid hn
  have HS := Lib.hid (show s.size ≤ 1000000 by omega)
  have Q1 : Hid (l.length ≤ 1000000) := Lib.hid (by omega)
  have Q2 : Hid (∀ q ∈ l, q.length ≤ 1000000) := Lib.hid (fun q hq => by have := (hok.2 q hq).2.1; omega)
  clear hl hn hok
  go_enter Try.func4, Try.ntmps4
  go_wp2_with fail
  refine (awake_any w).mono ?_
  rintro e w1 ⟨rfl, hb⟩
  have B1 := Lib.hid hb
  clear hb
  go_wp2_with fail
  refine (mine_list B1.out B1.out.size s _ rfl HS.out).mono ?_
  rintro e w2 ⟨rfl, hp, _⟩
  have M2 := Lib.hid hp
  clear hp B1
  go_wp2_with fail
  refine (mine_all M2.out l n HL.out.symm HN.out).mono ?_
  rintro e w3 ⟨rfl, ht, hp, _⟩
  have M3 := Lib.hid hp
  have T3 := Lib.hid ht
  clear hp ht M2
  go_wp2_with fail
  refine (ref_is s l n HL.out HN.out HS.out w3).mono ?_
  rintro e w4 ⟨A, c, rfl, ht, hb⟩
  have M4 := Lib.hid (M3.out.below hb)
  have T4 := Lib.hid (T3.out.below hb)
  have R4 := Lib.hid ht
  clear hb ht M3 T3
  go_wp2_with fail
  refine (same_is _ _ T4.out R4.out HN.out HN.out Q1.out Q2.out).mono ?_
  rintro e w5 ⟨rfl, j, rfl⟩
  have M5 := Lib.hid (M4.out.drewN j)
  clear M4 T4 R4
  generalize w4.drewN j = w5 at *
  go_wp2_with fail
  refine (mine_all M5.out l n HL.out.symm HN.out).mono ?_
  rintro e w6 ⟨rfl, ht, hp, _⟩
  have M6 := Lib.hid hp
  have T6 := Lib.hid ht
  clear hp ht M5
  go_wp2_with fail
  refine (mine_all M6.out l n HL.out.symm HN.out).mono ?_
  rintro e w7 ⟨rfl, ht, hp, hb⟩
  have M7 := Lib.hid hp
  have T7 := Lib.hid (T6.out.below hb)
  have R7 := Lib.hid ht
  clear hp ht hb M6 T6
  go_wp2_with fail
  refine (same_is _ _ T7.out R7.out HN.out HN.out Q1.out Q2.out).mono ?_
  rintro e w8 ⟨rfl, j, rfl⟩
  have M8 := Lib.hid (M7.out.drewN j)
  clear M7 T7 R7
  generalize w7.drewN j = w8 at *
  go_wp2_with fail
  refine (mine_clear M8.out).mono ?_
  rintro e w9 ⟨rfl, hp⟩
  have M9 := Lib.hid hp
  clear hp M8
  go_wp2_with fail
  refine (mine_byte M9.out 55 55 rfl).mono ?_
  rintro e wa ⟨rfl, hp⟩
  have Ma := Lib.hid hp
  clear hp M9
  go_wp2_with fail
  refine (mine_all Ma.out [[7]] 1 seven rfl).mono ?_
  rintro e wb ⟨rfl, ht, hp, _⟩
  have Bb := litT_below wb [[7]]
  have Mb := Lib.hid (hp.below Bb)
  have Tb := Lib.hid (ht.below Bb)
  have Lb := Lib.hid (litT_tab wb [[7]] (by decide))
  clear hp ht Bb Ma
  go_wp2_with fail
  refine (same_is (w := litT wb [[7]]) (n := 1) (m := 1) _ _ Tb.out Lb.out rfl rfl (by decide) (by decide)).mono ?_
  rintro e wc ⟨rfl, j, rfl⟩
  go_wp2
  go_ret
  exact ⟨rfl, below_drew Mb.out.old _⟩

theorem lawRead_any (s : ByteArray) (w : World) (hs : s.size ≤ maxLen) :
    Calls Try.prog 4 #[.string s] w fun e w' => e = .returned (.bool true) ∧ Below w.heap.size w w' := by
  by_cases h : 5000 < s.size
  · exact read_big s w hs h
  · exact read_small s w (by omega)
end Go.Proofs.Ytjeonnlcajlghaa
