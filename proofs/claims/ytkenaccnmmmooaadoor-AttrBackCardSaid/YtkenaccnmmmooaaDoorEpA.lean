/- Layer 8: the program's parser in memory: its cells, the events that were told and not taken. -/
import Derived.Test.YtkenaccnmmmooaaDoorEvA
import Derived.Test.YtkenaccnmmmooaaDoorF5DcX
import Derived.Test.YtkenaccnmmmooaaDoorF7PaX
namespace Go.Proofs.YtkenaccnmmmooaaDoor
open Go.RowKit Ev

/-- How a program's event holds its parameters. -/
def Form (A : Option Addr) (c : Nat) (l : List (List Nat)) : Prop := (l = [] ∧ A = none ∧ c = 0) ∨ ∃ g, A = some ⟨g, 0, none⟩ ∧ c = l.length
/-- Items one behind the other. -/
def Chain (w : World) : List EV → Option Addr → Prop
  | [], p => p = none
  | e :: L, p => ∃ g A c n, p = some ⟨g, 0, none⟩ ∧ w.heap[g]? = some (.cells (evCells e A c ++ [Value.pointer n]).toArray 83 (0, 0)) ∧ P7.TabT w A e.params ∧ Form A c e.params ∧ Chain w L n
/-- Blocks of numbers, of rows, and of items stay. -/
structure KeepI (w w' : World) : Prop where
  num : P7.KeepT w w'
  item : ∀ (k : Nat) (cur : Array Value), w.heap[k]? = some (.cells cur 83 (0, 0)) → w'.heap[k]? = w.heap[k]?
theorem KeepI.of_below {w w' : World} (hb : Below w.heap.size w w') : KeepI w w' := ⟨P7.KeepT.of_below hb, fun k _ hk => hb.block k (Array.getElem?_eq_some_iff.1 hk).1⟩
theorem KeepI.trans {w w1 w2 : World} (h : KeepI w w1) (k : KeepI w1 w2) : KeepI w w2 := ⟨h.num.trans k.num, fun j cur hj => (k.item j cur ((h.item j cur hj).trans hj)).trans (h.item j cur hj)⟩
theorem KeepI.refl (w : World) : KeepI w w := ⟨P7.KeepT.refl w, fun _ _ _ => rfl⟩
theorem Chain.keep {w w' : World} (hk : KeepI w w') : ∀ {L : List EV} {p : Option Addr}, Chain w L p → Chain w' L p
  | [], _, h => h
  | _ :: _, _, ⟨g, A, c, n, h1, h2, h3, hf, h4⟩ => ⟨g, A, c, n, h1, (hk.item g _ h2).trans h2, h3.keep hk.num, hf, Chain.keep hk h4⟩
/-- What turns a parser's block alone, keeps all of these. -/
theorem KeepI.of_stirs {w w' : World} {a o n : Nat} {C : Array Value} (hs : Stirs a o n w w') (ha : w.heap[a]? = some (.cells C 70 (0, 0))) : KeepI w w' := by
  have hne : ∀ (k : Nat) (cur : Array Value) (t : TypeId), w.heap[k]? = some (.cells cur t (0, 0)) → t ≠ 70 → w'.heap[k]? = w.heap[k]? := fun k cur t hk ht => hs.block k (Array.getElem?_eq_some_iff.1 hk).1 fun e => by
    subst e
    rw [ha] at hk
    cases hk
    exact ht rfl
  exact ⟨⟨hs.size, fun k cur t hk ht => hne k cur t hk (by rcases ht with e | e <;> rw [e] <;> decide)⟩, fun k cur hk => hne k cur _ hk (by decide)⟩

/-- The events that were told and not taken. -/
def Pend (w : World) (F B : Option Addr) (L : List EV) : Prop := ∃ L1 L2, Chain w L1 F ∧ Chain w L2 B ∧ L = L1 ++ L2.reverse
theorem Pend.keep {w w' : World} {F B : Option Addr} {L : List EV} (hk : KeepI w w') (h : Pend w F B L) : Pend w' F B L := by
  obtain ⟨L1, L2, h1, h2, h3⟩ := h
  exact ⟨L1, L2, h1.keep hk, h2.keep hk, h3⟩

/-- The program's parser in block a; L was told and not taken. -/
structure IsP (w : World) (a : Nat) (q : Q) (L : List EV) : Prop where
  blk : ∃ C, w.heap[a]? = some (.cells C 70 (0, 0)) ∧ C.size = 1183
  dec : D5.IsDec w a 0 q.kept
  st : w.cell? ⟨a, 5, none⟩ = some (.int .i64 q.st)
  par : P7.IsPars w a 6 (P7.Par.runP none q.list)
  mid : ∀ i, i < 2 → ∃ x : Nat, x < 256 ∧ w.cell? ⟨a, 152 + i, none⟩ = some (.int .u8 x) ∧ (i < q.mids.length → x = (q.mids.getD i 0).toNat)
  col : w.cell? ⟨a, 154, none⟩ = some (.int .i64 q.mids.length)
  fin : w.cell? ⟨a, 155, none⟩ = some (.int .u8 q.final)
  txt : ∀ i, i < 1024 → ∃ x : Nat, x < 256 ∧ w.cell? ⟨a, 156 + i, none⟩ = some (.int .u8 x) ∧ (i < q.text.length → x = (q.text.getD i 0).toNat)
  siz : w.cell? ⟨a, 1180, none⟩ = some (.int .i64 q.text.length)
  told : ∃ F B, w.cell? ⟨a, 1181, none⟩ = some (.pointer F) ∧ w.cell? ⟨a, 1182, none⟩ = some (.pointer B) ∧ Pend w F B L
  stb : q.st < 14

namespace IsP
variable {w w' : World} {a : Nat} {q : Q} {L : List EV}
theorem lt (h : IsP w a q L) : a < w.heap.size := by
  obtain ⟨C, h1, _⟩ := h.blk
  exact (Array.getElem?_eq_some_iff.1 h1).1
theorem free (h : IsP w a q L) (i : Nat) : w.frozen? ⟨a, i, none⟩ = false := by
  obtain ⟨C, h1, _⟩ := h.blk
  exact free_at h1 i
theorem ne (h : IsP w a q L) : a ≠ 2 ∧ a ≠ 3 := h.dec.ne
/-- A cell that is there. -/
theorem some_cell (h : IsP w a q L) {i : Nat} (hi : i < 1183) : ∃ u, w.cell? ⟨a, i, none⟩ = some u := by
  obtain ⟨C, h1, h2⟩ := h.blk
  exact ⟨C[i], by rw [cell_at h1]; exact Array.getElem?_eq_getElem (by omega)⟩
/-- What a Stirs leaves. -/
theorem stays (h : IsP w a q L) {o n : Nat} (hs : Stirs a o n w w') {i : Nat} (hi : i < o ∨ o + n ≤ i) : w'.cell? ⟨a, i, none⟩ = w.cell? ⟨a, i, none⟩ := by
  obtain ⟨C, h1, _⟩ := h.blk
  obtain ⟨C', e1, _, e3⟩ := hs.part C _ h1
  rw [cell_at h1, cell_at e1, e3 i hi]
theorem blk_of (h : IsP w a q L) {o n : Nat} (hs : Stirs a o n w w') : ∃ C, w'.heap[a]? = some (.cells C 70 (0, 0)) ∧ C.size = 1183 := by
  obtain ⟨C, h1, h2⟩ := h.blk
  obtain ⟨C', e1, e2, _⟩ := hs.part C _ h1
  exact ⟨C', e1, e2.trans h2⟩
theorem keepI (h : IsP w a q L) {o n : Nat} (hs : Stirs a o n w w') : KeepI w w' := by
  obtain ⟨C, h1, _⟩ := h.blk
  exact KeepI.of_stirs hs h1
/-- Only the cells from o on have turned: what lies ahead and behind stays. -/
theorem dec_of (h : IsP w a q L) {o n : Nat} (hs : Stirs a o n w w') (ho : 5 ≤ o) : D5.IsDec w' a 0 q.kept := ⟨hs.other h.dec.blk (Or.inl (by simp [D5.cellsK]; omega)), h.dec.ok, h.dec.ne⟩
theorem par_of (h : IsP w a q L) {o n : Nat} (hs : Stirs a o n w w') (ho : o + n ≤ 6 ∨ 152 ≤ o) : P7.IsPars w' a 6 (P7.Par.runP none q.list) := ⟨hs.other h.par.blk (by rw [P7.cells_size]; omega), h.par.ok⟩
theorem mid_of (h : IsP w a q L) {o n : Nat} (hs : Stirs a o n w w') (ho : o + n ≤ 152 ∨ 154 ≤ o) : ∀ i, i < 2 → ∃ x : Nat, x < 256 ∧ w'.cell? ⟨a, 152 + i, none⟩ = some (.int .u8 x) ∧ (i < q.mids.length → x = (q.mids.getD i 0).toNat) := fun i hi => by
  obtain ⟨x, h0, h1, h2⟩ := h.mid i hi
  exact ⟨x, h0, (h.stays hs (by omega)).trans h1, h2⟩
theorem txt_of (h : IsP w a q L) {o n : Nat} (hs : Stirs a o n w w') (ho : o + n ≤ 156 ∨ 1180 ≤ o) : ∀ i, i < 1024 → ∃ x : Nat, x < 256 ∧ w'.cell? ⟨a, 156 + i, none⟩ = some (.int .u8 x) ∧ (i < q.text.length → x = (q.text.getD i 0).toNat) := fun i hi => by
  obtain ⟨x, h0, h1, h2⟩ := h.txt i hi
  exact ⟨x, h0, (h.stays hs (by omega)).trans h1, h2⟩
theorem told_of (h : IsP w a q L) {o n : Nat} (hs : Stirs a o n w w') (ho : o + n ≤ 1181) : ∃ F B, w'.cell? ⟨a, 1181, none⟩ = some (.pointer F) ∧ w'.cell? ⟨a, 1182, none⟩ = some (.pointer B) ∧ Pend w' F B L := by
  obtain ⟨F, B, h1, h2, h3⟩ := h.told
  exact ⟨F, B, (h.stays hs (by omega)).trans h1, (h.stays hs (by omega)).trans h2, h3.keep (h.keepI hs)⟩
/-- Behind the decoder's doing. -/
theorem decoded (h : IsP w a q L) (hs : Stirs a 0 5 w w') {k : List UInt8} (hd : D5.IsDec w' a 0 k) : IsP w' a { q with kept := k } L :=
  ⟨h.blk_of hs, hd, (h.stays hs (by omega)).trans h.st, h.par_of hs (by omega), h.mid_of hs (by omega), (h.stays hs (by omega)).trans h.col, (h.stays hs (by omega)).trans h.fin, h.txt_of hs (by omega), (h.stays hs (by omega)).trans h.siz, h.told_of hs (by omega), h.stb⟩
/-- Behind the parameters' doing. -/
theorem pars (h : IsP w a q L) (hs : Stirs a 6 146 w w') {l : List UInt8} (hd : P7.IsPars w' a 6 (P7.Par.runP none l)) : IsP w' a { q with list := l } L :=
  ⟨h.blk_of hs, ⟨hs.other h.dec.blk (Or.inl (by simp [D5.cellsK])), h.dec.ok, h.dec.ne⟩, (h.stays hs (by omega)).trans h.st, hd, h.mid_of hs (by omega), (h.stays hs (by omega)).trans h.col, (h.stays hs (by omega)).trans h.fin, h.txt_of hs (by omega), (h.stays hs (by omega)).trans h.siz, h.told_of hs (by omega), h.stb⟩
/-- The state. -/
theorem setSt (h : IsP w a q L) {n : Nat} (hn : n < 14) : IsP (w.setCell ⟨a, 5, none⟩ (.int .i64 n)) a { q with st := n } L := by
  have hs : Stirs a 5 1 w (w.setCell ⟨a, 5, none⟩ (.int .i64 n)) := (Stirs.refl a 5 1 w).set 5 _ (by omega)
  obtain ⟨u, hu⟩ := h.some_cell (i := 5) (by omega)
  exact ⟨h.blk_of hs, h.dec_of hs (by omega), World.cell?_setCell_same _ _ _ hu, h.par_of hs (by omega), h.mid_of hs (by omega), (h.stays hs (by omega)).trans h.col, (h.stays hs (by omega)).trans h.fin, h.txt_of hs (by omega), (h.stays hs (by omega)).trans h.siz, h.told_of hs (by omega), hn⟩
/-- A string's last byte. -/
theorem setFin (h : IsP w a q L) (x : Nat) : IsP (w.setCell ⟨a, 155, none⟩ (.int .u8 x)) a { q with final := x } L := by
  have hs : Stirs a 155 1 w (w.setCell ⟨a, 155, none⟩ (.int .u8 x)) := (Stirs.refl a 155 1 w).set 155 _ (by omega)
  obtain ⟨u, hu⟩ := h.some_cell (i := 155) (by omega)
  exact ⟨h.blk_of hs, h.dec_of hs (by omega), (h.stays hs (by omega)).trans h.st, h.par_of hs (by omega), h.mid_of hs (by omega), (h.stays hs (by omega)).trans h.col, World.cell?_setCell_same _ _ _ hu, h.txt_of hs (by omega), (h.stays hs (by omega)).trans h.siz, h.told_of hs (by omega), h.stb⟩
/-- Nothing collected, no text. -/
theorem setCol0 (h : IsP w a q L) : IsP (w.setCell ⟨a, 154, none⟩ (.int .i64 0)) a { q with mids := [] } L := by
  have hs : Stirs a 154 1 w (w.setCell ⟨a, 154, none⟩ (.int .i64 0)) := (Stirs.refl a 154 1 w).set 154 _ (by omega)
  obtain ⟨u, hu⟩ := h.some_cell (i := 154) (by omega)
  refine ⟨h.blk_of hs, h.dec_of hs (by omega), (h.stays hs (by omega)).trans h.st, h.par_of hs (by omega), fun i hi => ?_, World.cell?_setCell_same _ _ _ hu, (h.stays hs (by omega)).trans h.fin, h.txt_of hs (by omega), (h.stays hs (by omega)).trans h.siz, h.told_of hs (by omega), h.stb⟩
  obtain ⟨x, h0, h1, _⟩ := h.mid_of hs (by omega) i hi
  exact ⟨x, h0, h1, fun hl => absurd hl (by simp)⟩
theorem setSiz0 (h : IsP w a q L) : IsP (w.setCell ⟨a, 1180, none⟩ (.int .i64 0)) a { q with text := [] } L := by
  have hs : Stirs a 1180 1 w (w.setCell ⟨a, 1180, none⟩ (.int .i64 0)) := (Stirs.refl a 1180 1 w).set 1180 _ (by omega)
  obtain ⟨u, hu⟩ := h.some_cell (i := 1180) (by omega)
  refine ⟨h.blk_of hs, h.dec_of hs (by omega), (h.stays hs (by omega)).trans h.st, h.par_of hs (by omega), h.mid_of hs (by omega), (h.stays hs (by omega)).trans h.col, (h.stays hs (by omega)).trans h.fin, fun i hi => ?_, World.cell?_setCell_same _ _ _ hu, h.told_of hs (by omega), h.stb⟩
  obtain ⟨x, h0, h1, _⟩ := h.txt_of hs (by omega) i hi
  exact ⟨x, h0, h1, fun hl => absurd hl (by simp)⟩
/-- New blocks alone. -/
theorem below (h : IsP w a q L) (hb : Below w.heap.size w w') : IsP w' a q L := by
  have hs : Stirs a 1183 0 w w' := (Stirs.refl a 1183 0 w).andthen hb (Nat.le_refl _) h.lt
  have hk : w'.heap[a]? = w.heap[a]? := hb.block a h.lt
  refine ⟨h.blk_of hs, h.dec_of hs (by omega), (h.stays hs (by omega)).trans h.st, h.par_of hs (by omega), h.mid_of hs (by omega), (h.stays hs (by omega)).trans h.col, (h.stays hs (by omega)).trans h.fin, h.txt_of hs (by omega), (h.stays hs (by omega)).trans h.siz, ?_, h.stb⟩
  obtain ⟨F, B, h1, h2, h3⟩ := h.told
  exact ⟨F, B, (h.stays hs (by omega)).trans h1, (h.stays hs (by omega)).trans h2, h3.keep (h.keepI hs)⟩
/-- What turns another parser's block leaves this one. -/
theorem other (h : IsP w a q L) {b o n : Nat} {C : Array Value} (hs : Stirs b o n w w') (hb : w.heap[b]? = some (.cells C 70 (0, 0))) (hne : a ≠ b) : IsP w' a q L := by
  have hk : w'.heap[a]? = w.heap[a]? := hs.block a h.lt hne
  have hc : ∀ i, w'.cell? ⟨a, i, none⟩ = w.cell? ⟨a, i, none⟩ := fun i => World.cell?_of_block (w := w) hk
  refine ⟨?_, ⟨h.dec.blk.of_block hk, h.dec.ok, h.dec.ne⟩, (hc _).trans h.st, ⟨Part.of_block h.par.blk hk, h.par.ok⟩, fun i hi => ?_, (hc _).trans h.col, (hc _).trans h.fin, fun i hi => ?_, (hc _).trans h.siz, ?_, h.stb⟩
  · rw [hk]; exact h.blk
  · rw [hc]; exact h.mid i hi
  · rw [hc]; exact h.txt i hi
  · obtain ⟨F, B, h1, h2, h3⟩ := h.told
    exact ⟨F, B, (hc _).trans h1, (hc _).trans h2, h3.keep (KeepI.of_stirs hs hb)⟩
end IsP
end Go.Proofs.YtkenaccnmmmooaaDoor
