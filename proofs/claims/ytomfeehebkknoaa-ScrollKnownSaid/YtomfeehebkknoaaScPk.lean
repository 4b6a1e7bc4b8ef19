/- Layer 13: the program's Text. -/
import Derived.Test.YtomfeehebkknoaaScPb
import Derived.Test.YtomfeehebkknoaaRwPj
set_option linter.unusedVariables false
namespace Go.Proofs.Ytomfeehebkknoaa.Rw
open Go.RowKit

/-- Texts in memory, of the call's own. -/
def StrsAt (w : World) (v : Value) (ts : List ByteArray) : Prop := ∃ A c, v = .slice A ts.length c ∧ ts.length ≤ c ∧ c ≤ 9223372036854775807 ∧ (0 < ts.length → ∃ b, A = some ⟨b, 0, none⟩ ∧ b < w.heap.size ∧ ∀ k, k < ts.length → w.cell? ⟨b, k, none⟩ = some (.string (ts.getD k ByteArray.empty)))
theorem info_str : (Try.prog.info? 9).map (fun i => (i.zero, i.size, i.bytes)) = some (some (.string ⟨#[]⟩), 1, 16) := by kernel_rfl
theorem under_str : Try.prog.underlying 44 = some (.slice 9) := by kernel_rfl
theorem make_str (w : World) (n : Nat) (hn : n ≤ 1000000) : ∃ w', (Instr.makeSlice 44 (.int .i64 (n : Int)) (.int .i64 (n : Int))).run Try.prog w = .ok (.slice (some ⟨w.heap.size, 0, none⟩) n n) w' ∧ Hdr 9 w w.heap.size n (.string ⟨#[]⟩) w' [] := hdr_make info_str under_str rfl (by decide) w n hn
theorem idx_str (g n k : Nat) (hk : k < n) (W : World) : (Instr.indexAt 44 (.slice (some ⟨g, 0, none⟩) n n) (.int .i64 (k : Int))).run Try.prog W = .ok (.pointer (some ⟨g, k, none⟩)) W := by
  have hs : ∀ W : World, (sizeOf (Try.prog.elem 44)).run Try.prog W = .ok 1 W := fun W => by kernel_rfl
  rw [run_indexAt_slice (P := Try.prog) W 44 ⟨g, 0, none⟩ n n .i64 k (by kernel_rfl), if_pos (by omega), hs]
  simp only [Result.andThen, Int.toNat_natCast, add_oo, Nat.mul_one, Nat.zero_add]

set_option maxRecDepth 100000 in
set_option maxHeartbeats 2000000 in
theorem text_any {F : Nat → Prop} {w : World} {v : Value} {ls : Ls} (h : TabAt F w v ls) (hl : ls.length ≤ 100000) (hw : wideL ls) (hr : ∀ k, runesB (lineV ls k) = true) : Calls Try.prog 15 #[v] w fun e w' => ∃ u, e = .returned u ∧ StrsAt w' u (ls.map textV) ∧ Below w.heap.size w w' := by
  obtain ⟨A, c, rfl, -⟩ := id h
  obtain ⟨n, hn⟩ : ∃ n, n = ls.length := ⟨_, rfl⟩
  obtain ⟨g, hg⟩ : ∃ g, g = w.heap.size := ⟨_, rfl⟩
  rw [← hn] at h hl
  obtain ⟨w1, hr1, hh⟩ := make_str w n (by omega)
  rw [← hg] at hr1 hh
  have H0 := Lib.hid hh
  have HT := Lib.hid h
  have HW := Lib.hid hw
  have HRu := Lib.hid hr
  have HN := Lib.hid hn
  have HG := Lib.hid hg
  have HL := Lib.hid hl
  rw [← hn]
  clear h hh hw hn hg hl hr
  go_enter Try.func15, Try.ntmps15
  go_wp2
  go_loopw [11] (fun i wr => ∃ (k : Nat) (us : List Value), k ≤ n ∧ i = .int .i64 k ∧ Hid (us.length = k) ∧ Hid (us = (ls.take k).map fun l => Value.string (textV l)) ∧ Hid (Hdr 9 w g n (.string ⟨#[]⟩) wr us)) (fun i _ => n - (RowKit.intOf i).toNat)
  case atStart => exact ⟨0, [], Nat.zero_le _, rfl, Lib.hid rfl, Lib.hid rfl, H0⟩
  case round =>
    obtain ⟨k, us, hk, rfl, HU, HS, HP⟩ := hrel
    by_cases hlt : k < n
    · have glt : decide ((k : Int) < (n : Int)) = true := by simp; omega
      obtain ⟨b, o, u, rfl, -, hbl, hu, hru⟩ := HT.out.at_ hlt
      have hli := hru.lies.below (show Below w.heap.size w _ by rw [← HG.out]; exact HP.out.2.2)
      have hu2 := (HP.out.2.2.cell (p := ⟨b, o + k, none⟩) (by rw [HG.out]; exact hbl)).trans hu
      have i1 := idx_tab b o n c k hlt
      have i2 := idx_str g n k hlt
      have KT := Lib.hid (ptext_any u _ _ hli (HW.out k) (HRu.out k))
      obtain ⟨A', c', rfl, -⟩ := id hru
      have HS2 : Hid (us ++ [.string (textV (lineV ls k))] = (ls.take (k + 1)).map fun l => Value.string (textV l)) := Lib.hid (by
        rw [HS.out, List.take_add_one, List.getElem?_eq_getElem (by rw [← HN.out]; exact hlt), line_lt (by rw [← HN.out]; exact hlt), List.map_append]; rfl)
      generalize textV (lineV ls k) = T at *
      generalize (lineV ls k).length = q at *
      clear hu hru hbl hli
      go_wp2_with fail
      refine (show Calls _ _ _ _ _ from KT.out).mono ?_
      rintro e w2 ⟨rfl, hb⟩
      have hc := (HP.out.below hb HP.out.lt).cell HU.out hlt
      have HX := Lib.hid ((HP.out.below hb HP.out.lt).set HU.out hlt (.string T)).1
      have c1 := hc.1
      have f1 := hc.2
      have HU2 : Hid ((us ++ [Value.string T]).length = k + 1) := Lib.hid (by rw [List.length_append, List.length_singleton, HU.out])
      have hn6 := HL.out
      clear hc hb KT hu2 i1
      go_wp2
      go_roundw
      case rel => exact ⟨k + 1, _, by omega, by go_num, HU2, HS2, HX⟩
      case measure => simp [RowKit.intOf]; omega
    · have hkn : k = n := by omega
      subst hkn
      have glt : decide ((k : Int) < (k : Int)) = false := by simp
      have hs := HS.out
      rw [List.take_of_length_le (by rw [HN.out]; exact Nat.le_refl _)] at hs
      have HF := Lib.hid (HP.out.done HU.out (by have := HL.out; omega))
      have HB := Lib.hid HP.out.2.2
      have HSs := Lib.hid hs
      clear hs
      go_wp2
      go_ret
      refine ⟨_, rfl, ?_, by rw [← HG.out]; exact HB.out⟩
      have hml : (ls.map textV).length = k := by rw [List.length_map]; exact HN.out.symm
      have hk6 := HL.out
      refine ⟨some ⟨g, 0, none⟩, k, by rw [hml]; rfl, by rw [hml]; exact Nat.le_refl _, by omega, fun _ => ⟨g, rfl, ?_⟩⟩
      rcases one_shape HF.out with ⟨e, _⟩ | ⟨g', c'', cur, e, _, hgl, hh, _, _, _, hul, hx⟩
      · cases e
      · cases e
        refine ⟨hgl, fun j hj => ?_⟩
        rw [hml] at hj
        rw [cell_of hh, hx j hj, HSs.out, List.getElem?_map, List.getElem?_eq_getElem (by rw [← HN.out]; exact hj), List.getD_eq_getElem?_getD, List.getElem?_map, List.getElem?_eq_getElem (by rw [← HN.out]; exact hj)]
        rfl
end Go.Proofs.Ytomfeehebkknoaa.Rw
