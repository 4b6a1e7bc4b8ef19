/- Layer 8: same: the program's events beside the document's. Layer 8: EventsNobody's walk. -/
import Derived.Test.YtfekjlajagoooaaDoorEpQ
import Derived.Test.YtfekjlajagoooaaDoorEpW
import Derived.Test.YtfekjlajagoooaaDoorEvDoc
/-! ## Layer 8: same: the program's events beside the document's. -/
namespace Go.Proofs.YtfekjlajagoooaaDoor
open Go.RowKit Ev

set_option maxHeartbeats 800000 in
theorem sameDoc_yes {w : World} {A B : Option Addr} {L : List EV} (n c d : Nat) (hnL : n = L.length) (hn : n ≤ 100000) (hp : ∀ e ∈ L, e.params.length ≤ 1000000) (h : Reads w A L) (h' : Reads w B L) :
    Calls Tryd.prog 21 #[.slice A n c, .slice B n d] w fun x w' => x = .returned (.bool true) ∧ Below w.heap.size w w' := by
  have HA := Lib.hid h
  have HB := Lib.hid h'
  have HP := Lib.hid hp
  have HN := Lib.hid hnL
  clear h h' hp hnL
  go_enter Tryd.func21, Tryd.ntmps21
  go_wp2
  go_loopw [5] (fun i wr => ∃ k : Nat, k ≤ n ∧ i = .int .i64 k ∧ Hid (Below w.heap.size w wr)) (fun i _ => n - (RowKit.intOf i).toNat)
  case atStart => exact ⟨0, Nat.zero_le _, rfl, Lib.hid (Below.refl _ _)⟩
  case round =>
    obtain ⟨k, hk, rfl, HBl⟩ := hrel
    by_cases hlt : k < n
    · have hlt' : k < L.length := by rw [← HN.out]; exact hlt
      obtain ⟨g, rfl, hga⟩ := (HA.out.below HBl.out) k hlt'
      obtain ⟨g', rfl, hgb⟩ := (HB.out.below HBl.out) k hlt'
      obtain ⟨A1, c1, ⟨a0, a1, a2, a3, a4, a5⟩, ga⟩ := hga
      obtain ⟨A2, c2, ⟨b0, b1, b2, b3, b4, b5⟩, gb⟩ := hgb
      have hpe := HP.out _ (List.getElem_mem hlt')
      generalize L[k] = x at *
      have HS : Hid (∀ W, Below wr.heap.size wr W → Calls Tryd.prog 16 #[.agg #[.int .i64 x.kind, .int .i32 x.rune, .int .u8 x.final, .string (strK x.mids), .slice A1 x.params.length c1, .string (strK x.text)], .agg #[.int .i64 x.kind, .int .i32 x.rune, .int .u8 x.final, .string (strK x.mids), .slice A2 x.params.length c2, .string (strK x.text)]] W fun x w' => x = .returned (.bool true) ∧ Below wr.heap.size wr w') := Lib.hid fun W hW => (same_yes c1 c2 hpe (ga.below hW) (gb.below hW)).mono fun _ _ hx => ⟨hx.1, hW.trans (hx.2.mono hW.size)⟩
      have HCell : Hid (∀ W, Below wr.heap.size wr W → (W.cell? ⟨g, k * 6, none⟩ = some (.int .i64 x.kind) ∧ W.cell? ⟨g, k * 6 + 1, none⟩ = some (.int .i32 x.rune) ∧ W.cell? ⟨g, k * 6 + 2, none⟩ = some (.int .u8 x.final) ∧ W.cell? ⟨g, k * 6 + 3, none⟩ = some (.string (strK x.mids)) ∧ W.cell? ⟨g, k * 6 + 4, none⟩ = some (.slice A1 x.params.length c1) ∧ W.cell? ⟨g, k * 6 + 5, none⟩ = some (.string (strK x.text))) ∧ (W.cell? ⟨g', k * 6, none⟩ = some (.int .i64 x.kind) ∧ W.cell? ⟨g', k * 6 + 1, none⟩ = some (.int .i32 x.rune) ∧ W.cell? ⟨g', k * 6 + 2, none⟩ = some (.int .u8 x.final) ∧ W.cell? ⟨g', k * 6 + 3, none⟩ = some (.string (strK x.mids)) ∧ W.cell? ⟨g', k * 6 + 4, none⟩ = some (.slice A2 x.params.length c2) ∧ W.cell? ⟨g', k * 6 + 5, none⟩ = some (.string (strK x.text)))) := Lib.hid fun W hW =>
        ⟨⟨(hW.cell (cell_lt a0)).trans a0, (hW.cell (cell_lt a1)).trans a1, (hW.cell (cell_lt a2)).trans a2, (hW.cell (cell_lt a3)).trans a3, (hW.cell (cell_lt a4)).trans a4, (hW.cell (cell_lt a5)).trans a5⟩, (hW.cell (cell_lt b0)).trans b0, (hW.cell (cell_lt b1)).trans b1, (hW.cell (cell_lt b2)).trans b2, (hW.cell (cell_lt b3)).trans b3, (hW.cell (cell_lt b4)).trans b4, (hW.cell (cell_lt b5)).trans b5⟩
      have k0 : Below wr.heap.size wr wr.drew := below_drew (Below.refl _ _) 1
      obtain ⟨m, hm⟩ : ∃ m, m = x.params.length := ⟨_, rfl⟩
      rw [← hm] at a4 b4 HS HCell
      clear ga gb hpe hm
      go_wp2_with fail
      go_region_held3 (fun W => (W.cell? ⟨g, k * 6, none⟩ = some (.int .i64 x.kind) ∧ W.cell? ⟨g, k * 6 + 1, none⟩ = some (.int .i32 x.rune) ∧ W.cell? ⟨g, k * 6 + 2, none⟩ = some (.int .u8 x.final) ∧ W.cell? ⟨g, k * 6 + 3, none⟩ = some (.string (strK x.mids)) ∧ W.cell? ⟨g, k * 6 + 4, none⟩ = some (.slice A1 m c1) ∧ W.cell? ⟨g, k * 6 + 5, none⟩ = some (.string (strK x.text))) ∧ (W.cell? ⟨g', k * 6, none⟩ = some (.int .i64 x.kind) ∧ W.cell? ⟨g', k * 6 + 1, none⟩ = some (.int .i32 x.rune) ∧ W.cell? ⟨g', k * 6 + 2, none⟩ = some (.int .u8 x.final) ∧ W.cell? ⟨g', k * 6 + 3, none⟩ = some (.string (strK x.mids)) ∧ W.cell? ⟨g', k * 6 + 4, none⟩ = some (.slice A2 m c2) ∧ W.cell? ⟨g', k * 6 + 5, none⟩ = some (.string (strK x.text))))
        (first | exact HCell.out _ k1 | exact HCell.out _ k0 | go_keep)
        (first | (go_at_call 16; (with_reducible refine (HS.out _ k0).mono ?_); rintro e w4 ⟨rfl, k1⟩))
      have HB4 := Lib.hid (HBl.out.trans (k1.mono HBl.out.size))
      clear k1 HS HCell a0 a1 a2 a3 a4 a5 b0 b1 b2 b3 b4 b5
      go_wp2
      go_roundw
      case rel => exact ⟨k + 1, by omega, by go_num, HB4⟩
      case measure => simp [RowKit.intOf]; omega
    · have hkn : k = n := by omega
      subst hkn
      go_wp2
      go_ret
      exact ⟨rfl, HBl.out⟩
end Go.Proofs.YtfekjlajagoooaaDoor

/-! ## Layer 8: EventsNobody's walk. -/
set_option linter.unusedVariables false
namespace Go.Proofs.YtfekjlajagoooaaDoor
open Go.RowKit Ev

theorem mine_zero {w0 w : World} (hb : Below w0.heap.size w0 w) (hT : D5.Tabs w0) : MineE w0 (w.alloc (.cells zeroP 66)) w.heap.size q0 [] := by
  have hl := tabs_lt hT
  have hs := hb.size
  exact ⟨new_isP (Deep.blk_alloc_new w _) ⟨by omega, by omega⟩, hb.alloc hs _, hs, hT⟩
theorem allE_count (l : List UInt8) : (allE l).length ≤ 4 * l.length + 1 := by
  unfold allE
  have h1 := count_runE q0 l rfl
  have h2 := mark_len (runE q0 l).2
  rw [List.length_append]
  omega

theorem mark_par (q : Q) : ∀ x ∈ markE q, ParOk x.params := by
  intro x hx
  unfold markE at hx
  split at hx
  all_goals first
    | (cases hx; done)
    | (rw [List.mem_singleton] at hx; subst hx; exact ⟨Nat.zero_le _, fun q hq => by cases hq⟩)

attribute [local irreducible] zeroP

set_option maxRecDepth 100000 in
set_option maxHeartbeats 2000000 in
theorem nobody_main (s : ByteArray) (w : World) (hs : s.size ≤ 2000) (hT : D5.Tabs w) : Calls Tryd.prog 7 #[.string s] w fun e w' => e = .returned (.bool true) ∧ Below w.heap.size w w' := by
  have HA := Lib.hid (awake_any w hT (tabs_lt hT))
  have HT := Lib.hid hT
  have d1 : decide ((s.size : Int) > 2000) = false := by simp; omega
  have d1' : decide ((2000 : Int) < s.size) = false := by simp; omega
  have kb := build_par
  have kz := zero_par
  obtain ⟨S, hS⟩ : ∃ S, S = s.data.toList := ⟨_, rfl⟩
  have hSl : S.length = s.size := by rw [hS]; exact Array.length_toList
  have HSU := Lib.hid (And.intro hS hSl)
  have HZ := Lib.hid hs
  clear hT hS hSl hs
  go_enter Tryd.func7, Tryd.ntmps7
  go_wp2_with fail
  refine (show Calls _ _ _ _ _ from HA.out).mono ?_
  rintro e w1 ⟨rfl, hb⟩
  have HB1 := Lib.hid hb
  clear hb HA
  go_wp2_with fail
  refine (show Calls _ _ _ _ _ from nil_feed s w1).mono ?_
  rintro e w2 ⟨rfl, rfl⟩
  go_wp2_with fail
  refine (show Calls _ _ _ _ _ from nil_end w1).mono ?_
  rintro e w2 ⟨rfl, rfl⟩
  go_wp2_with fail
  refine (show Calls _ _ _ _ _ from nil_next w1).mono ?_
  rintro e w2 ⟨rfl, hb⟩
  have HB2 := Lib.hid (HB1.out.trans (hb.mono HB1.out.size))
  clear hb HB1
  have HM0 := Lib.hid (mine_zero (w := resW w2) (HB2.out.alloc HB2.out.size _) HT.out)
  have HF0 := (mine_feed HM0.out s S HSU.out.1 (by have := HZ.out; omega) (by decide) (by decide))
  have ez : (resW w2).heap.size = w2.heap.size + 1 := by simp
  rw [ez] at HF0
  have HF := Lib.hid HF0
  clear HM0 HB2 HF0 ez
  go_wp2_with fail
  refine (show Calls _ _ _ _ _ from HF.out).mono ?_
  rintro e w3 ⟨rfl, ha, hst⟩
  rw [List.nil_append] at ha
  obtain ⟨a, ea⟩ : ∃ a, a = w2.heap.size + 1 := ⟨_, rfl⟩
  rw [← ea] at ha ⊢
  have HE := Lib.hid (mine_end ha)
  clear ha hst HF ea kb kz
  go_wp2_with fail
  refine (show Calls _ _ _ _ _ from HE.out).mono ?_
  rintro e w4 ⟨rfl, ha, hst⟩
  obtain ⟨L, hL⟩ : ∃ L, L = allE S := ⟨_, rfl⟩
  rw [show (runE q0 S).1 ++ markE (runE q0 S).2 = L from hL.symm] at ha
  have HMa := Lib.hid ha
  have hp : ∀ x ∈ L, ParOk x.params := by
    intro x hx
    rw [hL] at hx
    unfold allE at hx
    rcases List.mem_append.1 hx with h | h
    · exact par_runE _ _ x h
    · exact mark_par _ x h
  have hc : L.length ≤ 20000 := by rw [hL]; have h1 := allE_count S; have h2 := HSU.out.2; have h3 := HZ.out; omega
  have HP := Lib.hid hp
  have HL := Lib.hid hL
  have HLc := Lib.hid hc
  obtain ⟨n, hn⟩ : ∃ n, n = L.length := ⟨_, rfl⟩
  have HN := Lib.hid hn
  have hn1 : n ≤ 100000 := by omega
  have HT3 := Lib.hid (mine_take HMa.out HP.out (by have := HLc.out; omega) n hn)
  clear ha hst HE hp hc hL hn
  go_wp2_with fail
  refine (show Calls _ _ _ _ _ from nil_waits w4).mono ?_
  rintro e w5 ⟨rfl, rfl⟩
  go_wp2_with fail
  refine (show Calls _ _ _ _ _ from nil_state w4).mono ?_
  rintro e w5 ⟨rfl, rfl⟩
  go_wp2_with fail
  refine (show Calls _ _ _ _ _ from HT3.out).mono ?_
  rintro e w5 ⟨A3, k3, rfl, htold, ha, hst⟩
  have HMa5 := Lib.hid ha
  have HR1 := Lib.hid (htold.reads (fun e he => (par_small (HP.out e he)).1))
  have HAl := Lib.hid (allE_any s S HSU.out.1 (by have := HZ.out; omega) w5)
  clear ha hst htold HT3 HMa
  go_wp2_with fail
  refine (show Calls _ _ _ _ _ from HAl.out).mono ?_
  rintro e w6 ⟨A4, k4, rfl, htold, hb⟩
  rw [← HL.out] at htold ⊢
  have HR2 := Lib.hid (htold.reads (fun e he => (par_small (HP.out e he)).1))
  have HR3 := Lib.hid (HR1.out.below hb)
  have HO6 := Lib.hid (HMa5.out.below hb).old
  rw [← HN.out]
  have HSD := Lib.hid (sameDoc_yes (w := w6) n k3 k4 HN.out hn1 (fun e he => (par_small (HP.out e he)).2) HR3.out HR2.out)
  clear htold hb HAl HMa5 HR1
  go_wp2_with fail
  refine (show Calls _ _ _ _ _ from HSD.out).mono ?_
  rintro e w7 ⟨rfl, hb⟩
  have HO := Lib.hid (HO6.out.trans (hb.mono HO6.out.size))
  clear hb HSD HO6 HR2 HR3
  go_wp2
  go_ret
  exact ⟨by simp, HO.out⟩

set_option maxRecDepth 100000 in
set_option maxHeartbeats 1000000 in
theorem nobody_walk (s : ByteArray) (w : World) (hs9 : s.size ≤ maxLen) (hT : D5.Tabs w) : Calls Tryd.prog 7 #[.string s] w fun e w' => e = .returned (.bool true) ∧ Below w.heap.size w w' := by
  by_cases hs : s.size ≤ 2000
  case neg =>
    have HA := Lib.hid (awake_any w hT (tabs_lt hT))
    have d1 : decide ((s.size : Int) > 2000) = true := by simp; omega
    have d1' : decide ((2000 : Int) < s.size) = true := by simp; omega
    clear hs hT
    go_enter Tryd.func7, Tryd.ntmps7
    go_wp2_with fail
    refine (show Calls _ _ _ _ _ from HA.out).mono ?_
    rintro e w1 ⟨rfl, hb⟩
    have HB := Lib.hid hb
    clear hb HA
    go_wp2
    go_ret
    exact ⟨rfl, HB.out⟩
  exact nobody_main s w hs hT
end Go.Proofs.YtfekjlajagoooaaDoor
