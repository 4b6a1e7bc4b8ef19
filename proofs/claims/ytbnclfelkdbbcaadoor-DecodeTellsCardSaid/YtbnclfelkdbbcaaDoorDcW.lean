/- Layer 5: the document's All. -/
import Derived.Test.YtbnclfelkdbbcaaDoorDcU
namespace Go.Proofs.YtbnclfelkdbbcaaDoor
open Go.RowKit Go.Lib Dec

theorem build_ref (W : World) : (Instr.build 32 #[]).run Tryd.prog W = .ok (.agg #[.string ⟨#[]⟩]) W := run_build W 32 #[] _ (by kernel_rfl)
theorem ref_new (w : World) : IsRef (w.alloc (.cells #[.string ⟨#[]⟩] 32)) w.heap.size [] := ⟨Deep.blk_alloc_new _ _, rfl⟩

set_option maxHeartbeats 1000000 in
theorem all_ref (s : ByteArray) (l : List UInt8) (hl : l = s.data.toList) (hs : s.size ≤ 100000) (w : World) :
    Calls Tryd.prog 16 #[.string s] w (AllPost w (allD l)) := by
  have hlen : l.length = s.size := by rw [hl]; rfl
  have HL := Lib.hid hl
  have HLen := Lib.hid hlen
  have kb := build_ref
  clear hl hlen
  go_enter Tryd.func16, Tryd.ntmps16
  go_wp2
  go_loopw [3, 5] (fun v i wr => ∃ k : Nat, k ≤ s.size ∧ i = .int .i64 k ∧ OwnRunes wr w.heap.size v (toldK l k) ∧ IsRef wr w.heap.size (keptK l k) ∧ Below w.heap.size w wr) (fun _ i _ => s.size - (RowKit.intOf i).toNat)
  case atStart => exact ⟨0, Nat.zero_le _, rfl, own_nil _ _, ref_new w, (Below.refl _ _).alloc (Nat.le_refl _) _⟩
  case round =>
    obtain ⟨k, hk, rfl, hown, href, hB⟩ := hrel
    rename_i wr
    by_cases hlt : k < s.size
    · have hlt' : k < l.length := by rw [HLen.out]; exact hlt
      obtain ⟨TS, KS⟩ := told_succ l k hlt'
      have hb : l[k] = s[k] := by have := HL.out; subst this; rfl
      rw [hb] at TS KS
      have hc := comes_count (keptK l k) s[k] href.ok
      have htl := told_len l k
      have C := Lib.hid (ref_byte w.heap.size (keptK l k) s[k] wr href)
      have HTS := Lib.hid TS
      have HKS := Lib.hid KS
      have HO := Lib.hid hown
      have HD := Lib.hid href
      have HB := Lib.hid hB
      clear hown href hB TS KS hb
      go_wp2_with fail
      refine (show Calls _ _ _ _ _ from C.out).mono ?_
      rintro e w1 ⟨u, rfl, hu, hd, hs1⟩
      have RU := Lib.hid (own_runes hu)
      have HD1 := Lib.hid hd
      have HO1 := Lib.hid (own_stirs HO.out HD.out.blk (by decide) hs1)
      have HB1 : Hid (Below w.heap.size w w1) := Lib.hid (hs1.below (Nat.le_refl _) HB.out HB.out.size)
      clear hd hs1 hu HO HB HD C
      go_wp2_with (at_builtin; refine append_runes _ (by rfl) (.tmp 14) (.tmp 19) rfl w.heap.size _ _ _ _ rfl HO1.out rfl RU.out (by omega) HB1.out.size ?_)
      intro v' w2 o2 gr
      have HO2 : Hid (OwnRunes w2 w.heap.size v' (toldK l (k + 1))) := Lib.hid (by rw [HTS.out]; exact o2)
      have HD2 : Hid (IsRef w2 w.heap.size (keptK l (k + 1))) := Lib.hid (by
        rw [HKS.out]
        refine ⟨?_, HD1.out.ok⟩
        rw [gr.block _ (Array.getElem?_eq_some_iff.1 HD1.out.blk).1 (fun e => own_apart HO1.out HD1.out.blk (by decide) e.symm)]
        exact HD1.out.blk)
      have HB2 : Hid (Below w.heap.size w w2) := Lib.hid (HB1.out.grown gr HB1.out.size (own_ge HO1.out))
      clear o2 gr HO1 HB1 HD1 hc
      go_wp2
      go_roundw
      case rel => exact ⟨k + 1, by omega, by go_num, HO2.out, HD2.out, HB2.out⟩
      case measure => simp [RowKit.intOf]; omega
    · have hkn : k = s.size := by omega
      subst hkn
      have he : toldK l s.size = (runsD [] l).1 ∧ keptK l s.size = (runsD [] l).2 := by
        unfold toldK keptK
        rw [List.take_of_length_le (by rw [HLen.out]; exact Nat.le_refl _)]
        exact ⟨rfl, rfl⟩
      rw [he.2] at href
      rw [he.1] at hown
      clear he
      have htl : (runsD [] l).1.length ≤ s.size := by
        have := runs_count [] l rfl
        have := HLen.out
        simp at *
        omega
      have c0 : wr.cell? ⟨w.heap.size, 0, none⟩ = some (.string (strK (runsD [] l).2)) := by rw [cell_of href.blk]; rfl
      by_cases hq : (runsD [] l).2 = []
      · have E : Hid (allD l = (runsD [] l).1) := Lib.hid (by simp [allD, endsD, hq])
        have e0 : (strK (runsD [] l).2).toList.isEmpty = true := by rw [hq]; exact str_none
        obtain ⟨A, c, rfl, _⟩ := own_shape hown
        have HO := Lib.hid hown
        have HB := Lib.hid hB
        clear hown href hB hq
        go_wp2
        go_ret
        exact ⟨A, c, _, rfl, by rw [E.out]; exact HO.out, HB.out, by rw [E.out]⟩
      · have E : Hid (allD l = (runsD [] l).1 ++ [65533]) := Lib.hid (by simp [allD, endsD, hq])
        have e0 : (strK (runsD [] l).2).toList.isEmpty = false := str_some hq
        have HO := Lib.hid hown
        have HB := Lib.hid hB
        clear hown href hB hq
        go_wp2_with (at_builtin; refine append_runes _ (by rfl) (.tmp 26) (.tmp 27) rfl w.heap.size _ _ _ _ rfl (own_below HO.out ((Below.refl _ _).alloc (Nat.le_refl _) _) (Nat.le_refl _)) rfl (lit_runes wr [65533]) (by simp; omega) (by have := HB.out.size; simp; omega) ?_)
        intro v' w2 o2 gr
        have HB2 : Hid (Below w.heap.size w w2) := Lib.hid ((HB.out.alloc HB.out.size _).grown gr (by have := HB.out.size; simp; omega) (own_ge HO.out))
        rw [← E.out] at o2
        obtain ⟨A, c, rfl, _⟩ := own_shape o2
        have HO2 := Lib.hid o2
        clear o2 gr HO HB c0
        go_wp2
        go_ret
        exact ⟨A, c, _, rfl, HO2.out, HB2.out, rfl⟩

end Go.Proofs.YtbnclfelkdbbcaaDoor
