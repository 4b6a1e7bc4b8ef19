/- Layer 5: DecodeGo's walk. -/
import Derived.Test.YtbnclfelkdbbcaaDoorDcE
import Derived.Test.YtbnclfelkdbbcaaDoorDcQ
import Derived.Lib.OthersKept
import Derived.WalkSmall
import Derived.WalkSpells
namespace Go.Proofs.YtbnclfelkdbbcaaDoor
open Go.RowKit Go.Lib Dec

theorem go_big (s : ByteArray) (w : World) (hs : s.size ≤ maxLen) (hT : Tabs w) (h : 5000 < s.size) :
    Calls Tryd.prog 7 #[.string s] w fun e w' => e = .returned (.bool true) ∧ Below w.heap.size w w' := by
  have HA := Lib.hid (awake_any w hT)
  unfold maxLen at hs
  have g1 : decide ((5000 : Int) < s.size) = true := by simp; omega
  clear hT
  go_enter Tryd.func7, Tryd.ntmps7
  go_wp2_with fail
  refine HA.out.mono ?_
  rintro e w1 ⟨rfl, hb⟩
  have B1 := Lib.hid hb
  clear hb HA
  go_wp2
  go_ret
  exact ⟨rfl, B1.out⟩

theorem decode_dec (s : ByteArray) (l : List UInt8) (hl : l = s.data.toList) (pos : Nat) : Utf8.decode s pos = dec (l.drop pos) := by
  subst hl
  rw [decode_at]
  unfold dec
  have hb : ∀ i, (s.get! (pos + i)).toNat = bt (s.data.toList.drop pos) i := by
    intro i
    have := get_bt s.data.toList (pos + i)
    have e : (⟨s.data.toList.toArray⟩ : ByteArray) = s := by simp
    rw [e] at this
    rw [this]
    unfold bt
    simp [List.getD, List.getElem?_drop]
  have h0 := hb 0
  rw [Nat.add_zero] at h0
  rw [h0, hb 1, hb 2, hb 3, show (s.data.toList.drop pos).length = s.size - pos by rw [List.length_drop]; rfl]

/-- What the loop's head says. -/
structure GoRel (w w1 wr : World) (l : List UInt8) (s : ByteArray) (v : Value) (pos : Nat) (out : List Nat) (wh : Bool) : Prop where
  it : wr.heap[w1.heap.size]? = some (.stringIter s pos)
  own : OwnRunes wr (w1.heap.size + 1) v out
  old : Below w.heap.size w wr
  sz : w1.heap.size + 1 ≤ wr.heap.size
  inv : GoInv l pos out wh

/-- The loop's head again, one character on. -/
theorem GoRel.next {w w1 W1 w2 : World} {l : List UInt8} {s : ByteArray} {u v : Value} {pos r : Nat} {out : List Nat} {wh : Bool} {x : Obj} (hit : W1.heap[w1.heap.size]? = some (.stringIter s pos)) (hB : Below w.heap.size w W1)
    (hO : OwnRunes W1 (w1.heap.size + 1) u out) (hs : w1.heap.size + 1 ≤ W1.heap.size) (hw : w.heap.size ≤ w1.heap.size) (hI : GoInv l pos (out ++ [r]) wh) (ho : OwnRunes w2 (w1.heap.size + 1) v (out ++ [r])) (gr : (W1.alloc x).grownBy w2 u.ownBlock) : GoRel w w1 w2 l s v pos (out ++ [r]) wh := by
  refine ⟨?_, ho, ?_, Nat.le_trans hs (Nat.le_trans (by simp) gr.size), hI⟩
  · rw [gr.block _ (by simp; omega) (fun e => by have := own_ge hO _ e.symm; omega), Below.heap_alloc _ _ _ (by omega)]
    exact hit
  · exact (hB.alloc (by omega) x).grown gr (by simp; omega) (fun g hg => by have := own_ge hO g hg; omega)

/-- The three bytes of the mark. -/
theorem mark_text (s : ByteArray) (l : List UInt8) (hl : l = s.data.toList) (pos : Nat) : (s.extract pos (pos + 3)).toList = (l.drop pos).take 3 := by
  subst hl
  rw [Lib.toList_data, Lib.extract_data]
  simp

set_option maxRecDepth 100000 in
set_option maxHeartbeats 3200000 in
theorem go_small (s : ByteArray) (w : World) (hs : s.size ≤ 5000) (hT : Tabs w) :
    Calls Tryd.prog 7 #[.string s] w fun e w' => e = .returned (.bool true) ∧ Below w.heap.size w w' := by
  have HA := Lib.hid (awake_any w hT)
  have HT := Lib.hid hT
  have g1 : decide ((5000 : Int) < s.size) = false := by simp; omega
  obtain ⟨l, hl⟩ : ∃ l, l = s.data.toList := ⟨_, rfl⟩
  have hlen : l.length = s.size := by rw [hl]; rfl
  have HL := Lib.hid hl
  have HLen := Lib.hid hlen
  clear hT hl hlen
  go_enter Tryd.func7, Tryd.ntmps7
  go_wp2_with fail
  refine HA.out.mono ?_
  rintro e w1 ⟨rfl, hb⟩
  have B1 := Lib.hid hb
  clear hb HA
  go_wp2
  go_loopw [3, 4] (fun v b wr => ∃ (pos : Nat) (out : List Nat) (wh : Bool), b = .bool wh ∧ GoRel w w1 wr l s v pos out wh) (fun _ _ wr => s.size - wr.iterPos w1.heap.size)
  case atStart =>
    exact ⟨0, [], true, rfl, World.iter_heap w1 s 0, ⟨rfl, Or.inl ⟨rfl, rfl⟩⟩, B1.out.alloc B1.out.size _, by simp [World.iter], GoInv.start l⟩
  case round =>
    obtain ⟨pos, out, wh, rfl, hr⟩ := hrel
    have hpos0 := Lib.hid (iterPos_of hr.it)
    have hol := hr.inv.len
    have hpl : pos ≤ s.size := by have := hr.inv.le; have := HLen.out; omega
    by_cases hp : pos < s.size
    · have hp' : pos < l.length := by rw [HLen.out]; exact hp
      have hdd := decode_dec s l HL.out pos
      have hnx0 : ∀ ty, (Instr.next (.pointer (some ⟨w1.heap.size, 0, none⟩)) true ty).run Tryd.prog wr = _ := fun ty => Lib.run_next_any_at wr w1.heap.size s pos ty hr.it hp
      rw [hdd] at hnx0
      obtain ⟨r, hrr⟩ : ∃ r, r = (dec (l.drop pos)).1 := ⟨_, rfl⟩
      obtain ⟨d, hd⟩ : ∃ d, d = (dec (l.drop pos)).2 := ⟨_, rfl⟩
      obtain ⟨W1, hW1⟩ : ∃ W1, W1 = wr.iterAt w1.heap.size s (pos + (dec (l.drop pos)).2) := ⟨_, rfl⟩
      have hit2 := Lib.hid (hW1 ▸ Lib.iterAt_heap wr w1.heap.size s pos (pos + (dec (l.drop pos)).2) hr.it)
      have hbw2 := Lib.hid (hW1 ▸ Lib.below_iterAt hr.old (k := w1.heap.size) B1.out.size s (pos + (dec (l.drop pos)).2))
      have hown2 : Hid (OwnRunes W1 (w1.heap.size + 1) _ out) := Lib.hid (hW1 ▸ ownsRow_iterAt hr.own (k := w1.heap.size) (by omega) s (pos + (dec (l.drop pos)).2))
      have hsz2 : Hid (w1.heap.size + 1 ≤ W1.heap.size) := Lib.hid (by rw [hW1, Lib.iterAt_size]; exact hr.sz)
      have INV := Lib.hid hr.inv
      rw [← hW1, ← hrr] at hnx0
      cases hc : charB (l.drop pos)
      · have hbd := bad_dec (l := l.drop pos) (by rw [List.length_drop]; omega) hc
        have hrv : r = 65533 := by rw [hrr, hbd]
        have hdv : d = 1 := by rw [hd, hbd]
        have HI := Lib.hid (INV.out.bad hp')
        rw [← hd, hdv] at hit2
        have hne : (l.drop pos).take 3 ≠ [239, 191, 189] := fun e => by rw [mark_char e] at hc; cases hc
        subst hrv
        by_cases hl3 : pos + 3 ≤ s.size
        · have k1 : decide ((s.size : Int) < (pos : Int) + 3) = false := by simp; omega
          have k2 : ((s.extract pos (pos + 3)).toList == [239, 191, 189]) = false := by
            rw [mark_text s l HL.out]; simpa using hne
          clear hr hrr hW1 hdd hc hbd hd hdv hne
          go_wp2_with (at_builtin; refine append_runes _ (by rfl) (.tmp 36) (.tmp 38) rfl (w1.heap.size + 1) _ _ _ _ rfl (own_below hown2.out ((Below.refl _ _).alloc (Nat.le_refl _) _) (Nat.le_refl _)) rfl (lit_runes W1 [65533]) (by simp; omega) (by have := hsz2.out; simp; omega) ?_)
          intro v' w2 o2 gr
          have R2 := Lib.hid (GoRel.next hit2.out hbw2.out hown2.out hsz2.out B1.out.size HI.out o2 gr)
          clear o2 gr hit2 hbw2 hown2
          go_wp2
          go_roundw
          case rel => exact ⟨_, _, _, rfl, R2.out⟩
          case measure => rw [iterPos_of R2.out.it, hpos0.out]; omega
        · have k1 : decide ((s.size : Int) < (pos : Int) + 3) = true := by simp; omega
          clear hr hrr hW1 hdd hc hbd hd hdv hne
          go_wp2_with (at_builtin; refine append_runes _ (by rfl) (.tmp 36) (.tmp 38) rfl (w1.heap.size + 1) _ _ _ _ rfl (own_below hown2.out ((Below.refl _ _).alloc (Nat.le_refl _) _) (Nat.le_refl _)) rfl (lit_runes W1 [65533]) (by simp; omega) (by have := hsz2.out; simp; omega) ?_)
          intro v' w2 o2 gr
          have R2 := Lib.hid (GoRel.next hit2.out hbw2.out hown2.out hsz2.out B1.out.size HI.out o2 gr)
          clear o2 gr hit2 hbw2 hown2
          go_wp2
          go_roundw
          case rel => exact ⟨_, _, _, rfl, R2.out⟩
          case measure => rw [iterPos_of R2.out.it, hpos0.out]; omega
      · have h1d : 1 ≤ d := by rw [hd]; exact (char_told (by rw [List.length_drop]; omega) hc).2.2.1
        rw [← hd] at hit2
        have HI := Lib.hid (INV.out.char hp' hc)
        rw [← hd, ← hrr] at HI
        by_cases hm : r = 65533
        · have hcm := char_mark hc (hrr.symm.trans hm)
          have hl3 : pos + 3 ≤ s.size := by have := hcm.1; rw [List.length_drop, HLen.out] at this; omega
          have k1 : decide ((s.size : Int) < (pos : Int) + 3) = false := by simp; omega
          have k2 : ((s.extract pos (pos + 3)).toList == [239, 191, 189]) = true := by
            rw [mark_text s l HL.out, hcm.2]; rfl
          subst hm
          clear hr hrr hW1 hdd hc hd hcm
          go_wp2_with (at_builtin; refine append_runes _ (by rfl) (.tmp 36) (.tmp 38) rfl (w1.heap.size + 1) _ _ _ _ rfl (own_below hown2.out ((Below.refl _ _).alloc (Nat.le_refl _) _) (Nat.le_refl _)) rfl (lit_runes W1 [65533]) (by simp; omega) (by have := hsz2.out; simp; omega) ?_)
          intro v' w2 o2 gr
          have R2 := Lib.hid (GoRel.next hit2.out hbw2.out hown2.out hsz2.out B1.out.size HI.out o2 gr)
          clear o2 gr hit2 hbw2 hown2
          go_wp2
          go_roundw
          case rel => exact ⟨_, _, _, rfl, R2.out⟩
          case measure => rw [iterPos_of R2.out.it, hpos0.out]; omega
        · have k1 : ((r : Int) == 65533) = false := by simp; omega
          clear hr hrr hW1 hdd hc hd hm
          go_wp2_with (at_builtin; refine append_runes _ (by rfl) (.tmp 36) (.tmp 38) rfl (w1.heap.size + 1) _ _ _ _ rfl (own_below hown2.out ((Below.refl _ _).alloc (Nat.le_refl _) _) (Nat.le_refl _)) rfl (lit_runes W1 [r]) (by simp; omega) (by have := hsz2.out; simp; omega) ?_)
          intro v' w2 o2 gr
          have R2 := Lib.hid (GoRel.next hit2.out hbw2.out hown2.out hsz2.out B1.out.size HI.out o2 gr)
          clear o2 gr hit2 hbw2 hown2
          go_wp2
          go_roundw
          case rel => exact ⟨_, _, _, rfl, R2.out⟩
          case measure => rw [iterPos_of R2.out.it, hpos0.out]; omega
    · have hpe : pos = l.length := by rw [HLen.out]; omega
      have hnx : ∀ ty, (Instr.next (.pointer (some ⟨w1.heap.size, 0, none⟩)) true ty).run Tryd.prog wr = .ok (.tuple #[.bool false]) wr := fun ty => Lib.run_next_end_at wr w1.heap.size s pos ty hr.it hp
      have hi := hr.inv
      rw [hpe] at hi
      have HO := Lib.hid hr.own
      have HB := Lib.hid hr.old
      clear hpe
      cases wh
      · have hf := hi.fewer
        obtain ⟨A3, c3, rfl, _⟩ := own_shape hr.own
        clear hi hr
        go_wp2_with fail
        refine (all_post s (allD l) (by rw [HL.out]) (by omega) _ (HT.out.below HB.out (Nat.le_refl _))).mono ?_
        rintro e w3 ⟨A, c, n, rfl, ho, hb, hn⟩
        have B3 := Lib.hid (HB.out.trans (hb.mono HB.out.size))
        have q1 : n ≤ out.length := by omega
        have q2 : 0 < n := by omega
        clear ho hb hn hf hnx
        go_wp2
        go_ret
        exact ⟨rfl, B3.out⟩
      · have E := Lib.hid hi.whole
        clear hi hr
        go_wp2_with fail
        refine (all_post s (allD l) (by rw [HL.out]) (by omega) _ (HT.out.below HB.out (Nat.le_refl _))).mono ?_
        rintro e w3 ⟨A, c, n, rfl, ho, hb, hn⟩
        have B3 := Lib.hid (HB.out.trans (hb.mono HB.out.size))
        have R1 : Hid (Runes w3 (.slice A n c) out) := Lib.hid (E.out ▸ own_runes ho)
        have R2 := Lib.hid (own_runes (own_below HO.out hb (Nat.le_refl _)))
        clear ho hb hn hnx
        go_wp2_with fail
        refine (same_yes _ _ _ _ (by omega) R1.out R2.out).mono ?_
        rintro e w9 ⟨rfl, j, rfl⟩
        go_wp2
        go_ret
        exact ⟨rfl, below_drew B3.out _⟩

theorem go_walk (s : ByteArray) (w : World) (hs : s.size ≤ maxLen) (hT : Tabs w) :
    Calls Tryd.prog 7 #[.string s] w fun e w' => e = .returned (.bool true) ∧ Below w.heap.size w w' := by
  by_cases h : 5000 < s.size
  · exact go_big s w hs hT h
  · exact go_small s w (by omega) hT

end Go.Proofs.YtbnclfelkdbbcaaDoor
