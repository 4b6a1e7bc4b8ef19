/- Layer 13: the program's copied. -/
import Derived.Test.YtomfeehebkknoaaScPa
import Derived.Test.YtomfeehebkknoaaRwPb
set_option linter.unusedVariables false
namespace Go.Proofs.Ytomfeehebkknoaa.Rw
open Go.RowKit

theorem under_tab : Try.prog.underlying 22 = some (.slice 38) := by kernel_rfl
theorem make_tab (w : World) (n : Nat) (hn : n ≤ 1000000) : ∃ w', (Instr.makeSlice 22 (.int .i64 (n : Int)) (.int .i64 (n : Int))).run Try.prog w = .ok (.slice (some ⟨w.heap.size, 0, none⟩) n n) w' ∧ Hdr 38 w w.heap.size n (.slice none 0 0) w' [] := hdr_make info_line under_tab rfl (by decide) w n hn
/-- What stands of the lines so far: the slice, the rows that are made. -/
def PartT (w0 : World) (g n : Nat) (wr : World) (us : List Value) (ls : Ls) : Prop := Hdr 38 w0 g n (.slice none 0 0) wr us ∧ RowsAt (fun b => g < b) wr us ls
theorem part_zero {w0 w' : World} {g n : Nat} (h : Hdr 38 w0 g n (.slice none 0 0) w' []) : PartT w0 g n w' [] [] := ⟨h, rows_nil _ _⟩
/-- One row more is stored. -/
theorem part_set {w0 wr w1 : World} {g n k : Nat} {us : List Value} {ls : Ls} {u : Value} {l : List Ce} (h : PartT w0 g n wr us ls) (hk : us.length = k) (hn : k < n) (hb : Below wr.heap.size wr w1) (ho : OwnC w1 wr.heap.size u l) :
    PartT w0 g n (w1.setCell ⟨g, k, none⟩ u) (us ++ [u]) (ls ++ [l]) ∧ (w1.setCell ⟨g, k, none⟩ u).cell? ⟨g, k, none⟩ = some u ∧ OwnC (w1.setCell ⟨g, k, none⟩ u) wr.heap.size u l := by
  have hg := h.1.lt
  have h1 := h.1.below hb hg
  have h2 := h1.set hk hn u
  have hoth : ∀ b, g < b → (w1.setCell ⟨g, k, none⟩ u).heap[b]? = w1.heap[b]? := fun b hb => Hdr.other (by omega) u
  have hsz : w1.heap.size ≤ (w1.setCell ⟨g, k, none⟩ u).heap.size := by simp
  have ho2 := own_keep (w' := w1.setCell ⟨g, k, none⟩ u) ho fun b hb => hoth b (by have := own_ge ho b hb; omega)
  have hr := RowAt.own (F := fun b => g < b) ho2 (fun b hb => Nat.lt_of_lt_of_le hg hb)
  exact ⟨⟨h2.1, ((h.2.below hb).keep (fun b hb _ => hoth b hb) hsz).append (rows_one hr.1 hr.2)⟩, h2.2, ho2⟩
theorem PartT.own {w0 wr : World} {g n : Nat} {us : List Value} {ls : Ls} (h : PartT w0 g n wr us ls) (hn : us.length = n) (hm : n ≤ 1000000) (hg : g = w0.heap.size) : OwnT wr w0.heap.size (.slice (some ⟨g, 0, none⟩) n n) us ls ∧ Below w0.heap.size w0 wr := by
  subst hg
  refine ⟨⟨?_, h.2.more fun b hb => Nat.le_of_lt hb⟩, h.1.2.2⟩
  have := h.1.done hn hm
  rw [← hn] at this ⊢
  rw [h.2.1] at this ⊢
  exact this
theorem idx_ownT (g n k : Nat) (hk : k < n) (W : World) : (Instr.indexAt 22 (.slice (some ⟨g, 0, none⟩) n n) (.int .i64 (k : Int))).run Try.prog W = .ok (.pointer (some ⟨g, k, none⟩)) W := by
  have := idx_tab g 0 n n k hk W
  rwa [Nat.zero_add] at this
/-- Lines of the call's own are answered. -/
def TabPost (w : World) (ls : Ls) (e : Ending) (w' : World) : Prop := ∃ v us, e = .returned v ∧ OwnT w' w.heap.size v us ls ∧ Below w.heap.size w w'

/-- A row that is copied: its memory, stored, filled. -/
theorem copy_step {w0 wr : World} {g n k : Nat} {us : List Value} {ls : Ls} {u : Value} {l : List Ce} (h : PartT w0 g n wr us ls) (hk : us.length = k) (hn : k < n) (hg : g = w0.heap.size) (hu : Lies w0 u l) (hl : l.length ≤ 100000) :
    ∃ w1 w2 h2, h2 = wr.heap.size ∧ (Instr.makeSlice 38 (.int .i64 (l.length : Int)) (.int .i64 (l.length : Int))).run Try.prog wr = .ok (.slice (some ⟨h2, 0, none⟩) l.length l.length) w1 ∧ w1.cell? ⟨g, k, none⟩ = some (.slice none 0 0) ∧ w1.frozen? ⟨g, k, none⟩ = false ∧
      w1.setCell ⟨g, k, none⟩ (.slice (some ⟨h2, 0, none⟩) l.length l.length) = w2 ∧ w2.cell? ⟨g, k, none⟩ = some (.slice (some ⟨h2, 0, none⟩) l.length l.length) ∧ OwnC w2 h2 (.slice (some ⟨h2, 0, none⟩) l.length l.length) (List.replicate l.length zeroCe) ∧ Lies w2 u l ∧
      (∀ w3, OwnC w3 h2 (.slice (some ⟨h2, 0, none⟩) l.length l.length) l → Below h2 w2 w3 → PartT w0 g n w3 (us ++ [.slice (some ⟨h2, 0, none⟩) l.length l.length]) (ls ++ [l])) := by
  obtain ⟨w1, hr, ho, hb⟩ := make_rows wr .i64 .i64 l.length (by omega)
  have hc := (h.1.below hb h.1.lt).cell hk hn
  have h2 := part_set h hk hn hb ho
  refine ⟨w1, _, _, rfl, hr, hc.1, hc.2, rfl, h2.2.1, h2.2.2, hu.below (by rw [← hg]; exact h2.1.1.2.2), fun w3 ho3 hb3 => ?_⟩
  have hgl := h.1.lt
  refine ⟨h2.1.1.below hb3 hgl, ?_⟩
  have hr3 := RowAt.own (F := fun b => g < b) ho3 (fun b hb => Nat.lt_of_lt_of_le hgl hb)
  have hold : RowsAt (fun b => g < b) (w1.setCell ⟨g, k, none⟩ (.slice (some ⟨wr.heap.size, 0, none⟩) l.length l.length)) us ls := (h.2.below hb).keep (fun b hb' _ => Hdr.other (by omega) _) (by simp)
  have hold0 : RowsAt (fun b => g < b ∧ b < wr.heap.size) (w1.setCell ⟨g, k, none⟩ (.slice (some ⟨wr.heap.size, 0, none⟩) l.length l.length)) us ls := by
    refine ⟨h.2.1, fun j hj => ?_⟩
    obtain ⟨u', hu', ⟨A, c, e, a0, a1, a2⟩, ⟨A', n', c', e', b1, b2⟩⟩ := h.2.2 j hj
    have hkeep : ∀ b, g < b → b < wr.heap.size → (w1.setCell ⟨g, k, none⟩ (.slice (some ⟨wr.heap.size, 0, none⟩) l.length l.length)).heap[b]? = wr.heap[b]? := fun b hb1 hb2 => (Hdr.other (by omega) _).trans (hb.block b hb2)
    refine ⟨u', hu', ⟨A, c, e, a0, a1, fun hp => ?_⟩, ⟨A', n', c', e', b1, fun hp => ?_⟩⟩
    · obtain ⟨b, o, e2, hF, hlt, hcell⟩ := a2 hp
      exact ⟨b, o, e2, ⟨hF, hlt⟩, Nat.lt_of_lt_of_le hlt (by simpa using hb.size), fun i hi j x hj => (World.cell?_of_block (hkeep b hF hlt)).trans (hcell i hi j x hj)⟩
    · obtain ⟨b, o, cs, e2, hF, hh, hsz⟩ := b2 hp
      exact ⟨b, o, cs, e2, ⟨hF, blk_lt hh⟩, (hkeep b hF (blk_lt hh)).trans hh, hsz⟩
  exact ((hold0.keep (fun b hb' _ => hb3.block b hb'.2) hb3.size).more fun b hb' => hb'.1).append (rows_one hr3.1 hr3.2)

set_option maxRecDepth 100000 in
set_option maxHeartbeats 2000000 in
theorem copiedT_any {F : Nat → Prop} {w : World} {v : Value} {ls : Ls} (h : TabAt F w v ls) (hl : ls.length ≤ 1000000) (hw : wideL ls) : Calls Try.prog 19 #[v] w (TabPost w ls) := by
  obtain ⟨A, c, rfl, -⟩ := id h
  obtain ⟨n, hn⟩ : ∃ n, n = ls.length := ⟨_, rfl⟩
  obtain ⟨g, hg⟩ : ∃ g, g = w.heap.size := ⟨_, rfl⟩
  rw [← hn] at h hl
  obtain ⟨w1, hr, hh⟩ := make_tab w n hl
  rw [← hg] at hr hh
  have H0 := Lib.hid (part_zero hh)
  have HT := Lib.hid h
  have HW := Lib.hid hw
  have HN := Lib.hid hn
  have HG := Lib.hid hg
  have HL := Lib.hid hl
  rw [← hn]
  clear h hh hw hn hg hl
  go_enter Try.func19, Try.ntmps19
  go_wp2
  go_loopw [11] (fun i wr => ∃ (k : Nat) (us : List Value), k ≤ n ∧ i = .int .i64 k ∧ Hid (us.length = k) ∧ Hid (PartT w g n wr us (ls.take k))) (fun i _ => n - (RowKit.intOf i).toNat)
  case atStart => exact ⟨0, [], Nat.zero_le _, rfl, Lib.hid rfl, H0⟩
  case round =>
    obtain ⟨k, us, hk, rfl, HU, HP⟩ := hrel
    by_cases hlt : k < n
    · have glt : decide ((k : Int) < (n : Int)) = true := by simp; omega
      obtain ⟨b, o, u, rfl, -, hbl, hu, hru⟩ := HT.out.at_ hlt
      obtain ⟨A', c', rfl, -⟩ := id hru
      have HLi := Lib.hid hru.lies
      have hu2 := (HP.out.1.2.2.cell (p := ⟨b, o + k, none⟩) (by rw [HG.out]; exact hbl)).trans hu
      have i1 := idx_tab b o n c k hlt
      have i2 := idx_ownT g n k hlt
      obtain ⟨w2, w3, h2, -, r1, c1, f1, e2, c2, o2, l2, hnx⟩ := copy_step HP.out HU.out hlt HG.out HLi.out (HW.out k)
      have HS : Hid (ls.take (k + 1) = ls.take k ++ [lineV ls k]) := Lib.hid (by
        rw [List.take_add_one, List.getElem?_eq_getElem (by rw [← HN.out]; exact hlt), line_lt (by rw [← HN.out]; exact hlt)]; rfl)
      have HO2 := Lib.hid o2
      have HL2 := Lib.hid l2
      have HX := Lib.hid hnx
      have HE2 := Lib.hid e2
      have HLen := Lib.hid (show (lineV ls k).length = (List.replicate (lineV ls k).length zeroCe).length by rw [List.length_replicate])
      generalize hm : (lineV ls k).length = m at *
      have HM := Lib.hid hm.symm
      clear hu hru hbl o2 l2 hnx e2
      go_upto_region 6 with fail
      rw [HE2.out]
      clear r1 c1 f1 HE2 hu2 i1
      go_wp2_with (refine wpList_copy_rows rfl (.tmp 25) (.tmp 26) rfl HO2.out HLen.out (Nat.zero_le _) rfl rfl (by omega) (Or.inl (by rw [Nat.zero_mul])) HL2.out h2 w3 (Below.refl _ _) (Nat.le_refl _) ?_)
      intro w4 ho4 hb4
      have e : copyV (List.replicate m zeroCe) 0 (lineV ls k) = lineV ls k := copy_all _ _ (by rw [List.length_replicate]; exact HM.out)
      rw [e] at ho4
      have HF := Lib.hid (HX.out w4 ho4.out hb4)
      have HU2 : Hid ((us ++ [Value.slice (some ⟨h2, 0, none⟩) m m]).length = k + 1) := Lib.hid (by rw [List.length_append, List.length_singleton, HU.out])
      have hn6 := HL.out
      clear e ho4 hb4 c2
      go_wp2
      go_roundw
      case rel => exact ⟨k + 1, _, by omega, by go_num, HU2, Lib.hid (by rw [HS.out]; exact HF.out)⟩
      case measure => simp [RowKit.intOf]; omega
    · have hkn : k = n := by omega
      subst hkn
      have glt : decide ((k : Int) < (k : Int)) = false := by simp
      have HF := Lib.hid (HP.out.own HU.out HL.out HG.out)
      rw [List.take_of_length_le (by rw [HN.out]; exact Nat.le_refl _)] at HF
      go_wp2
      go_ret
      exact ⟨_, us, rfl, HF.out.1, HF.out.2⟩
end Go.Proofs.Ytomfeehebkknoaa.Rw
