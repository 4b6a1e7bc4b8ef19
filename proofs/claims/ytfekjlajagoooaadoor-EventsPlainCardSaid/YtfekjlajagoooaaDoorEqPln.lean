/- Layer 8: EventsPlain's walk. -/
import Derived.Test.YtfekjlajagoooaaDoorEpU
import Derived.Test.YtfekjlajagoooaaDoorEqM
import Derived.Lib.OthersKept
import Derived.WalkSmall
import Derived.WalkSpells
set_option linter.unusedVariables false
namespace Go.Proofs.YtfekjlajagoooaaDoor
open Go.RowKit Go.Lib Ev

theorem plain_big (s : ByteArray) (w : World) (hs : s.size ≤ 9223372036854775807) (hT : D5.Tabs w) (h : 3000 < s.size) :
    Calls Tryd.prog 10 #[.string s] w fun e w' => e = .returned (.bool true) ∧ Below w.heap.size w w' := by
  have HA := Lib.hid (awake_any w hT (tabs_lt hT))
  have g1 : decide ((3000 : Int) < s.size) = true := by simp; omega
  clear hT
  go_enter Tryd.func10, Tryd.ntmps10
  go_wp2_with fail
  refine HA.out.mono ?_
  rintro e w1 ⟨rfl, hb⟩
  have B1 := Lib.hid hb
  clear hb HA
  go_wp2
  go_ret
  exact ⟨rfl, B1.out⟩

theorem decode_dec (s : ByteArray) (l : List UInt8) (hl : l = s.data.toList) (pos : Nat) : Utf8.decode s pos = D5.Dec.dec (l.drop pos) := by
  subst hl
  rw [decode_at]
  unfold D5.Dec.dec
  have hb : ∀ i, (s.get! (pos + i)).toNat = D5.Dec.bt (s.data.toList.drop pos) i := by
    intro i
    have := D5.get_bt s.data.toList (pos + i)
    have e : (⟨s.data.toList.toArray⟩ : ByteArray) = s := by simp
    rw [e] at this
    rw [this]
    unfold D5.Dec.bt
    simp [List.getD, List.getElem?_drop]
  have h0 := hb 0
  rw [Nat.add_zero] at h0
  rw [h0, hb 1, hb 2, hb 3, show (s.data.toList.drop pos).length = s.size - pos by rw [List.length_drop]; rfl]

theorem size_list (b : ByteArray) : b.size = b.data.toList.length := rfl
/-- What the loop's head says: the text so far is the bytes of these characters. -/
structure PlRel (w w1 wr : World) (s T : ByteArray) (pos : Nat) (rs : List Nat) : Prop where
  it : wr.heap[w1.heap.size]? = some (.stringIter s pos)
  old : Below w.heap.size w wr
  plain : ∀ r ∈ rs, PlainR r
  txt : T.data.toList = textR rs
  le : T.size ≤ pos
  pos : pos ≤ s.size
theorem PlRel.more {w w1 wr : World} {s T : ByteArray} {pos d r : Nat} {rs : List Nat} (h : PlRel w w1 wr s T pos rs) (hw : w.heap.size ≤ w1.heap.size) (hr : PlainR r) (hd : (encR r).length = d) (hp : pos + d ≤ s.size) :
    PlRel w w1 (wr.iterAt w1.heap.size s (pos + d)) s (T ++ Utf8.encode (r : Int)) (pos + d) (rs ++ [r]) := by
  have ht : (T ++ Utf8.encode (r : Int)).data.toList = textR (rs ++ [r]) := by
    rw [ByteArray.data_append, Array.toList_append, encode_text, text_snoc, h.txt]
  refine ⟨Lib.iterAt_heap wr w1.heap.size s pos (pos + d) h.it, Lib.below_iterAt h.old hw s _, fun x hx => ?_, ht, ?_, hp⟩
  · rcases List.mem_append.1 hx with hx | hx
    · exact h.plain x hx
    · rw [List.mem_singleton.1 hx]; exact hr
  · have e : (T ++ Utf8.encode (r : Int)).size = T.size + (encR r).length := by
      rw [ByteArray.size_append, ← encode_text, size_list (Utf8.encode (r : Int))]
    have := h.le
    rw [e]
    omega
theorem PlRel.skip {w w1 wr : World} {s T : ByteArray} {pos d : Nat} {rs : List Nat} (h : PlRel w w1 wr s T pos rs) (hw : w.heap.size ≤ w1.heap.size) (hp : pos + d ≤ s.size) : PlRel w w1 (wr.iterAt w1.heap.size s (pos + d)) s T (pos + d) rs :=
  ⟨Lib.iterAt_heap wr w1.heap.size s pos (pos + d) h.it, Lib.below_iterAt h.old hw s _, h.plain, h.txt, by have := h.le; omega, hp⟩

theorem text_same {T W : ByteArray} (h : W.data.toList = T.data.toList) : W = T := by
  obtain ⟨a⟩ := T
  obtain ⟨b⟩ := W
  exact congrArg ByteArray.mk (Array.toList_inj.1 h)

set_option maxRecDepth 100000 in
set_option maxHeartbeats 3200000 in
theorem plain_small (s : ByteArray) (w : World) (hs : s.size ≤ 3000) (hT : D5.Tabs w) :
    Calls Tryd.prog 10 #[.string s] w fun e w' => e = .returned (.bool true) ∧ Below w.heap.size w w' := by
  have HA := Lib.hid (awake_any w hT (tabs_lt hT))
  have HT := Lib.hid hT
  have g1 : decide ((3000 : Int) < s.size) = false := by simp; omega
  obtain ⟨l, hl⟩ : ∃ l, l = s.data.toList := ⟨_, rfl⟩
  have hlen : l.length = s.size := by rw [hl]; rfl
  have HL := Lib.hid hl
  have HLen := Lib.hid hlen
  clear hT hl hlen
  go_enter Tryd.func10, Tryd.ntmps10
  go_wp2_with fail
  refine HA.out.mono ?_
  rintro e w1 ⟨rfl, hb⟩
  have B1 := Lib.hid hb
  clear hb HA
  go_wp2
  go_loopw [3] (fun v wr => ∃ (pos : Nat) (T : ByteArray) (rs : List Nat), v = .string T ∧ Hid (PlRel w w1 wr s T pos rs)) (fun _ wr => s.size - wr.iterPos w1.heap.size)
  case atStart =>
    exact ⟨0, ⟨#[]⟩, [], rfl, Lib.hid ⟨World.iter_heap w1 s 0, B1.out.alloc B1.out.size _, (by simp), rfl, Nat.le_refl _, Nat.zero_le _⟩⟩
  case round =>
    obtain ⟨pos, T, rs, rfl, HR⟩ := hrel
    have hpos0 := Lib.hid (iterPos_of HR.out.it)
    have hTl : T.size ≤ 3000 := by have := HR.out.le; have := HR.out.pos; omega
    by_cases hp : pos < s.size
    · have hp' : pos < l.length := by rw [HLen.out]; exact hp
      have hl1 : 1 ≤ (l.drop pos).length := by rw [List.length_drop]; omega
      have hnx0 : ∀ ty, (Instr.next (.pointer (some ⟨w1.heap.size, 0, none⟩)) true ty).run Tryd.prog wr = _ := fun ty => Lib.run_next_any_at wr w1.heap.size s pos ty HR.out.it hp
      rw [decode_dec s l HL.out pos] at hnx0
      obtain ⟨r, d, hrd⟩ : ∃ r d, D5.Dec.dec (l.drop pos) = (r, d) := ⟨_, _, rfl⟩
      rw [hrd] at hnx0
      dsimp only at hnx0
      have hd1 : 1 ≤ d ∧ pos + d ≤ s.size ∧ (D5.Dec.charB (l.drop pos) = false → r = 65533) := by
        cases hc : D5.Dec.charB (l.drop pos)
        · have := D5.Dec.bad_dec hl1 hc
          rw [hrd] at this
          cases this
          exact ⟨by omega, by omega, fun _ => rfl⟩
        · obtain ⟨_, t2, t3, _⟩ := D5.Dec.char_told hl1 hc
          rw [hrd] at t2 t3
          rw [List.length_drop, HLen.out] at t2
          dsimp only at t2 t3
          exact ⟨t3, by omega, fun h => by cases h⟩
      obtain ⟨hd1, hd2, hbad⟩ := hd1
      have HSk := Lib.hid (HR.out.skip B1.out.size hd2)
      by_cases h1 : 32 ≤ r
      · by_cases h2 : r = 127
        · have k1 : decide ((32 : Int) ≤ (r : Int)) = true := by simp; omega
          have k2 : ((r : Int) != 127) = false := by rw [h2]; rfl
          clear hrd hbad h1 h2
          go_wp2
          go_roundw
          case rel => exact ⟨_, _, _, rfl, HSk⟩
          case measure => rw [iterPos_of HSk.out.it, hpos0.out]; omega
        by_cases h3 : r = 65533
        · have k1 : decide ((32 : Int) ≤ (r : Int)) = true := by simp; omega
          have k2 : ((r : Int) != 127) = true := by simp; omega
          have k3 : ((r : Int) != 65533) = false := by rw [h3]; rfl
          clear hrd hbad h1 h2 h3
          go_wp2
          go_roundw
          case rel => exact ⟨_, _, _, rfl, HSk⟩
          case measure => rw [iterPos_of HSk.out.it, hpos0.out]; omega
        · have hc : D5.Dec.charB (l.drop pos) = true := by
            cases hc : D5.Dec.charB (l.drop pos)
            · exact absurd (hbad hc) h3
            · rfl
          obtain ⟨hpl, hen⟩ := plain_of hl1 hc hrd h1 h2 h3
          have HM := Lib.hid (HR.out.more B1.out.size hpl hen hd2)
          have k1 : decide ((32 : Int) ≤ (r : Int)) = true := by simp; omega
          have k2 : ((r : Int) != 127) = true := by simp; omega
          have k3 : ((r : Int) != 65533) = true := by simp; omega
          have hes := encode_size_le (r : Int)
          clear hrd hbad h1 h2 h3 hc hpl hen HSk
          go_wp2
          go_roundw
          case rel => exact ⟨_, _, _, rfl, HM⟩
          case measure => rw [iterPos_of HM.out.it, hpos0.out]; omega
      · have k1 : decide ((32 : Int) ≤ (r : Int)) = false := by simp; omega
        clear hrd hbad h1
        go_wp2
        go_roundw
        case rel => exact ⟨_, _, _, rfl, HSk⟩
        case measure => rw [iterPos_of HSk.out.it, hpos0.out]; omega
    · have hnx : ∀ ty, (Instr.next (.pointer (some ⟨w1.heap.size, 0, none⟩)) true ty).run Tryd.prog wr = .ok (.tuple #[.bool false]) wr := fun ty => Lib.run_next_end_at wr w1.heap.size s pos ty HR.out.it hp
      have hrl : rs.length ≤ 3000 := by
        have h1 := text_len (rs := rs)
        rw [← HR.out.txt] at h1
        have h2 : T.data.toList.length = T.size := rfl
        omega
      have HN := Lib.hid (mine_new HR.out.old HT.out)
      go_wp2_with fail
      refine (show Calls _ _ _ _ _ from HN.out).mono ?_
      rintro e w2 ⟨rfl, ha, hba⟩
      obtain ⟨a, ea⟩ : ∃ a, a = wr.heap.size := ⟨_, rfl⟩
      rw [← ea] at ha ⊢
      have HF := Lib.hid (mine_feed ha T (textR rs) HR.out.txt.symm (by omega) (by decide) (by decide))
      clear ha hba HN ea
      go_wp2_with fail
      refine (show Calls _ _ _ _ _ from HF.out).mono ?_
      rintro e w3 ⟨rfl, ha, hst⟩
      rw [plain_run HR.out.plain, List.nil_append] at ha
      dsimp only at ha
      obtain ⟨n, hn⟩ : ∃ n, n = (rs.map printE).length := ⟨_, rfl⟩
      have hnr : n = rs.length := by rw [hn, List.length_map]
      have HNr := Lib.hid hnr
      have hpar : ∀ x ∈ rs.map printE, ParOk x.params := fun x hx => by
        obtain ⟨r, _, rfl⟩ := List.mem_map.1 hx
        exact ⟨by simp [printE], by simp [printE]⟩
      have HTk := Lib.hid (mine_take ha hpar (by rw [List.length_map]; omega) n hn)
      have hn3 : n ≤ 3000 := by omega
      clear ha hst HF hn hnr hnx
      go_wp2_with fail
      refine (show Calls _ _ _ _ _ from HTk.out).mono ?_
      rintro e w4 ⟨A, c, rfl, htold, ha, hst⟩
      have HRd := Lib.hid (htold.reads (fun x hx => (par_small (hpar x hx)).1))
      have HWt := Lib.hid (mine_waits ha false (by rfl))
      have HO := Lib.hid ha.old
      clear ha hst htold HTk hpar
      go_wp2
      go_loopw [4, 9] (fun v i wi => ∃ (k : Nat) (W : ByteArray), k ≤ n ∧ i = .int .i64 k ∧ v = .string W ∧ W.size ≤ 4 * k ∧ Hid (W.data.toList = textR (rs.take k)) ∧ wi = w4) (fun _ i _ => n - (RowKit.intOf i).toNat)
      case atStart => exact ⟨0, ⟨#[]⟩, by omega, rfl, rfl, by decide, Lib.hid rfl, rfl⟩
      case round =>
        obtain ⟨k, W, hk, rfl, rfl, hW, HW, rfl⟩ := hrel
        by_cases hlt : k < n
        · have hlt' : k < (rs.map printE).length := by rw [List.length_map, ← HNr.out]; exact hlt
          have hlr : k < rs.length := by rw [← HNr.out]; exact hlt
          obtain ⟨g, rfl, hga⟩ := HRd.out k hlt'
          obtain ⟨Ax, cx, ⟨a0, a1, x2, x3, x4, x5⟩, gg⟩ := hga
          clear x2 x3 x4 x5 gg
          obtain ⟨r, hr⟩ : ∃ r, r = rs[k]'hlr := ⟨_, rfl⟩
          replace a0 : wr.cell? ⟨g, k * 6, none⟩ = some (.int .i64 1) := by rw [a0, List.getElem_map]; rfl
          replace a1 : wr.cell? ⟨g, k * 6 + 1, none⟩ = some (.int .i32 (r : Int)) := by rw [a1, List.getElem_map, hr]; rfl
          have HE : Hid ((W ++ Utf8.encode (r : Int)).data.toList = textR (rs.take (k + 1))) := Lib.hid (by
            rw [ByteArray.data_append, Array.toList_append, encode_text, List.take_succ_eq_append_getElem hlr, text_snoc, HW.out, hr])
          obtain ⟨E, hE⟩ : ∃ E, E = Utf8.encode (r : Int) := ⟨_, rfl⟩
          have hes : E.size ≤ 4 := by rw [hE]; exact encode_size_le _
          rw [← hE] at HE
          have hsz : (W ++ E).size ≤ 4 * (k + 1) := by rw [ByteArray.size_append]; omega
          have HSz := Lib.hid hsz
          clear hsz
          rw [hE] at HE hes HSz
          clear hE hr hlt' hlr
          go_wp2
          go_roundw
          case rel => exact ⟨k + 1, _, by omega, by go_num, rfl, HSz.out, HE, (by first | trivial | rfl)⟩
          case measure => simp [RowKit.intOf]; omega
        · have hkn : k = n := by omega
          have hWT : W = T := text_same (by rw [HW.out, HR.out.txt, hkn, HNr.out, List.take_length])
          subst hWT
          have kd : decide ((k : Int) < n) = false := by simp; omega
          clear hkn
          go_wp2_with fail
          refine (show Calls _ _ _ _ _ from HWt.out).mono ?_
          rintro e w5 ⟨rfl, hb5⟩
          have HO5 := Lib.hid (HO.out.trans (hb5.mono HO.out.size))
          clear hb5 HO HWt
          go_wp2
          go_ret
          exact ⟨rfl, HO5.out⟩

theorem plain_walk (s : ByteArray) (w : World) (hs9 : s.size ≤ maxLen) (hT : D5.Tabs w) : Calls Tryd.prog 10 #[.string s] w fun e w' => e = .returned (.bool true) ∧ Below w.heap.size w w' := by
  by_cases h : s.size ≤ 3000
  · exact plain_small s w h hT
  · exact plain_big s w (by unfold maxLen at hs9; omega) hT (by omega)
end Go.Proofs.YtfekjlajagoooaaDoor
