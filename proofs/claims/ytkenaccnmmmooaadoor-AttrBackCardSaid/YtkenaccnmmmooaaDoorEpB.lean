/- Layer 8: bytes more for a sequence; an event more. -/
import Derived.Test.YtkenaccnmmmooaaDoorEpA
namespace Go.Proofs.YtkenaccnmmmooaaDoor
open Go.RowKit Ev

theorem getD_more (l : List UInt8) (b : UInt8) (i : Nat) (hi : i < l.length + 1) : (l ++ [b]).getD i 0 = if i = l.length then b else l.getD i 0 := by
  by_cases e : i = l.length
  · subst e; simp [List.getD]
  · have : i < l.length := by omega
    rw [if_neg e]
    simp [List.getD, List.getElem?_append_left this]

namespace IsP
variable {w w' : World} {a : Nat} {q : Q} {L : List EV}
theorem setMid (h : IsP w a q L) (b : UInt8) {n : Nat} (hn : n = q.mids.length) (hl : n < 2) : IsP ((w.setCell ⟨a, 152 + n, none⟩ (.int .u8 b.toNat)).setCell ⟨a, 154, none⟩ (.int .i64 ((n : Int) + 1))) a { q with mids := q.mids ++ [b] } L := by
  have hs : Stirs a 152 3 w ((w.setCell ⟨a, 152 + n, none⟩ (.int .u8 b.toNat)).setCell ⟨a, 154, none⟩ (.int .i64 ((n : Int) + 1))) := ((Stirs.refl a 152 3 w).set _ _ (by omega)).set _ _ (by omega)
  obtain ⟨u, hu⟩ := h.some_cell (i := 154) (by omega)
  obtain ⟨v, hv⟩ := h.some_cell (i := 152 + n) (by omega)
  refine ⟨h.blk_of hs, h.dec_of hs (by omega), (h.stays hs (by omega)).trans h.st, h.par_of hs (by omega), fun i hi => ?_, ?_, (h.stays hs (by omega)).trans h.fin, h.txt_of hs (by omega), (h.stays hs (by omega)).trans h.siz, h.told_of hs (by omega), h.stb⟩
  · obtain ⟨x, h0, h1, h2⟩ := h.mid i hi
    by_cases e : i = n
    · refine ⟨b.toNat, b.toNat_lt, ?_, fun _ => ?_⟩
      · rw [World.cell?_setCell_other _ _ _ _ (by intro e'; injection e' with e'; omega), e]
        exact World.cell?_setCell_same _ _ _ hv
      · show _ = ((q.mids ++ [b]).getD i 0).toNat
        rw [getD_more _ _ _ (by omega), if_pos (by omega)]
    · refine ⟨x, h0, ?_, fun hl' => ?_⟩
      · rw [World.cell?_setCell_other _ _ _ _ (by intro e'; injection e' with e'; omega), World.cell?_setCell_other _ _ _ _ (by intro e'; injection e' with e'; omega)]
        exact h1
      · have hl' : i < (q.mids ++ [b]).length := hl'
        show _ = ((q.mids ++ [b]).getD i 0).toNat
        simp at hl'
        rw [getD_more _ _ _ (by omega), if_neg (by omega)]
        exact h2 (by omega)
  · rw [World.cell?_setCell_same _ _ _ (show _ = some u from by rw [World.cell?_setCell_other _ _ _ _ (by intro e'; injection e' with e'; omega)]; exact hu)]
    simp [hn]
theorem moreMid (h : IsP w a q L) (b : UInt8) {n : Nat} (hn : n = q.mids.length) (hl : 2 ≤ n) : IsP (w.setCell ⟨a, 154, none⟩ (.int .i64 ((n : Int) + 1))) a { q with mids := q.mids ++ [b] } L := by
  have hs : Stirs a 154 1 w (w.setCell ⟨a, 154, none⟩ (.int .i64 ((n : Int) + 1))) := (Stirs.refl a 154 1 w).set _ _ (by omega)
  obtain ⟨u, hu⟩ := h.some_cell (i := 154) (by omega)
  refine ⟨h.blk_of hs, h.dec_of hs (by omega), (h.stays hs (by omega)).trans h.st, h.par_of hs (by omega), fun i hi => ?_, ?_, (h.stays hs (by omega)).trans h.fin, h.txt_of hs (by omega), (h.stays hs (by omega)).trans h.siz, h.told_of hs (by omega), h.stb⟩
  · obtain ⟨x, h0, h1, h2⟩ := h.mid_of hs (by omega) i hi
    refine ⟨x, h0, h1, fun _ => ?_⟩
    show _ = ((q.mids ++ [b]).getD i 0).toNat
    rw [getD_more _ _ _ (by omega), if_neg (by omega)]
    exact h2 (by omega)
  · rw [World.cell?_setCell_same _ _ _ hu]
    simp [hn]
theorem setTxt (h : IsP w a q L) (b : UInt8) {n : Nat} (hn : n = q.text.length) (hl : n < 1024) : IsP ((w.setCell ⟨a, 156 + n, none⟩ (.int .u8 b.toNat)).setCell ⟨a, 1180, none⟩ (.int .i64 ((n : Int) + 1))) a { q with text := q.text ++ [b] } L := by
  have hs : Stirs a 156 1025 w ((w.setCell ⟨a, 156 + n, none⟩ (.int .u8 b.toNat)).setCell ⟨a, 1180, none⟩ (.int .i64 ((n : Int) + 1))) := ((Stirs.refl a 156 1025 w).set _ _ (by omega)).set _ _ (by omega)
  obtain ⟨u, hu⟩ := h.some_cell (i := 1180) (by omega)
  obtain ⟨v, hv⟩ := h.some_cell (i := 156 + n) (by omega)
  refine ⟨h.blk_of hs, h.dec_of hs (by omega), (h.stays hs (by omega)).trans h.st, h.par_of hs (by omega), h.mid_of hs (by omega), (h.stays hs (by omega)).trans h.col, (h.stays hs (by omega)).trans h.fin, fun i hi => ?_, ?_, h.told_of hs (by omega), h.stb⟩
  · obtain ⟨x, h0, h1, h2⟩ := h.txt i hi
    by_cases e : i = n
    · refine ⟨b.toNat, b.toNat_lt, ?_, fun _ => ?_⟩
      · rw [World.cell?_setCell_other _ _ _ _ (by intro e'; injection e' with e'; omega), e]
        exact World.cell?_setCell_same _ _ _ hv
      · show _ = ((q.text ++ [b]).getD i 0).toNat
        rw [getD_more _ _ _ (by omega), if_pos (by omega)]
    · refine ⟨x, h0, ?_, fun hl' => ?_⟩
      · rw [World.cell?_setCell_other _ _ _ _ (by intro e'; injection e' with e'; omega), World.cell?_setCell_other _ _ _ _ (by intro e'; injection e' with e'; omega)]
        exact h1
      · have hl' : i < (q.text ++ [b]).length := hl'
        show _ = ((q.text ++ [b]).getD i 0).toNat
        simp at hl'
        rw [getD_more _ _ _ (by omega), if_neg (by omega)]
        exact h2 (by omega)
  · rw [World.cell?_setCell_same _ _ _ (show _ = some u from by rw [World.cell?_setCell_other _ _ _ _ (by intro e'; injection e' with e'; omega)]; exact hu)]
    simp [hn]
theorem moreTxt (h : IsP w a q L) (b : UInt8) {n : Nat} (hn : n = q.text.length) (hl : 1024 ≤ n) : IsP (w.setCell ⟨a, 1180, none⟩ (.int .i64 ((n : Int) + 1))) a { q with text := q.text ++ [b] } L := by
  have hs : Stirs a 1180 1 w (w.setCell ⟨a, 1180, none⟩ (.int .i64 ((n : Int) + 1))) := (Stirs.refl a 1180 1 w).set _ _ (by omega)
  obtain ⟨u, hu⟩ := h.some_cell (i := 1180) (by omega)
  refine ⟨h.blk_of hs, h.dec_of hs (by omega), (h.stays hs (by omega)).trans h.st, h.par_of hs (by omega), h.mid_of hs (by omega), (h.stays hs (by omega)).trans h.col, (h.stays hs (by omega)).trans h.fin, fun i hi => ?_, ?_, h.told_of hs (by omega), h.stb⟩
  · obtain ⟨x, h0, h1, h2⟩ := h.txt_of hs (by omega) i hi
    refine ⟨x, h0, h1, fun _ => ?_⟩
    show _ = ((q.text ++ [b]).getD i 0).toNat
    rw [getD_more _ _ _ (by omega), if_neg (by omega)]
    exact h2 (by omega)
  · rw [World.cell?_setCell_same _ _ _ hu]
    simp [hn]
/-- An event more, in a new item. -/
theorem putS (h : IsP w a q L) {F B : Option Addr} (c1 : w.cell? ⟨a, 1181, none⟩ = some (.pointer F)) (hp : Pend w F B L) {e : EV} {A : Option Addr} {c g : Nat} (he : P7.TabT w A e.params) (hf : Form A c e.params)
    (hs : Stirs a 1182 1 w w') (hc : w'.cell? ⟨a, 1182, none⟩ = some (.pointer (some ⟨g, 0, none⟩))) (hg : w'.heap[g]? = some (.cells (evCells e A c ++ [Value.pointer B]).toArray 83 (0, 0))) : IsP w' a q (L ++ [e]) := by
  have hk := h.keepI hs
  refine ⟨h.blk_of hs, h.dec_of hs (by omega), (h.stays hs (by omega)).trans h.st, h.par_of hs (by omega), h.mid_of hs (by omega), (h.stays hs (by omega)).trans h.col, (h.stays hs (by omega)).trans h.fin, h.txt_of hs (by omega), (h.stays hs (by omega)).trans h.siz, ?_, h.stb⟩
  obtain ⟨L1, L2, k1, k2, k3⟩ := hp
  exact ⟨F, some ⟨g, 0, none⟩, (h.stays hs (by omega)).trans c1, hc, L1, e :: L2, k1.keep hk, ⟨_, A, c, B, rfl, hg, he.keep hk.num, hf, k2.keep hk⟩, by rw [k3]; simp⟩
end IsP
end Go.Proofs.YtkenaccnmmmooaaDoor
