/- Layer 8: the queue: turn, take; Next. -/
import Derived.Test.YtkenaccnmmmooaaDoorEpX
import Derived.Test.YtkenaccnmmmooaaDoorEpS
namespace Go.Proofs.YtkenaccnmmmooaaDoor
open Go.RowKit Ev

/-- The events told, set anew. -/
theorem IsP.retold {w w' : World} {a : Nat} {q : Q} {L L' : List EV} (h : IsP w a q L) (hs : Stirs a 1181 2 w w') (ht : ∃ F B, w'.cell? ⟨a, 1181, none⟩ = some (.pointer F) ∧ w'.cell? ⟨a, 1182, none⟩ = some (.pointer B) ∧ Pend w' F B L') : IsP w' a q L' :=
  ⟨h.blk_of hs, h.dec_of hs (by omega), (h.stays hs (by omega)).trans h.st, h.par_of hs (by omega), h.mid_of hs (by omega), (h.stays hs (by omega)).trans h.col, (h.stays hs (by omega)).trans h.fin, h.txt_of hs (by omega), (h.stays hs (by omega)).trans h.siz, ht, h.stb⟩
/-- An item's cells. -/
theorem Chain.at_ {w : World} {e : EV} {L : List EV} {p : Option Addr} (h : Chain w (e :: L) p) : ∃ g A c n, p = some ⟨g, 0, none⟩ ∧ (w.cell? ⟨g, 0, none⟩ = some (.int .i64 e.kind) ∧ w.cell? ⟨g, 1, none⟩ = some (.int .i32 e.rune) ∧ w.cell? ⟨g, 2, none⟩ = some (.int .u8 e.final) ∧ w.cell? ⟨g, 3, none⟩ = some (.string (strK e.mids)) ∧ w.cell? ⟨g, 4, none⟩ = some (.slice A e.params.length c) ∧ w.cell? ⟨g, 5, none⟩ = some (.string (strK e.text)) ∧ w.cell? ⟨g, 6, none⟩ = some (.pointer n)) ∧
    w.heap[g]? = some (.cells (evCells e A c ++ [Value.pointer n]).toArray 83 (0, 0)) ∧ P7.TabT w A e.params ∧ Form A c e.params ∧ Chain w L n := by
  obtain ⟨g, A, c, n, h1, h2, h3, h4, h5⟩ := h
  exact ⟨g, A, c, n, h1, ⟨by rw [cell_at h2]; rfl, by rw [cell_at h2]; rfl, by rw [cell_at h2]; rfl, by rw [cell_at h2]; rfl, by rw [cell_at h2]; rfl, by rw [cell_at h2]; rfl, by rw [cell_at h2]; rfl⟩, h2, h3, h4, h5⟩

/-- What turn has done. -/
def Turned (w : World) (a : Nat) (q : Q) (L : List EV) (w' : World) : Prop := ∃ F, w'.cell? ⟨a, 1181, none⟩ = some (.pointer F) ∧ w'.cell? ⟨a, 1182, none⟩ = some (.pointer none) ∧ Chain w' L F ∧ IsP w' a q L ∧ Stirs a 0 1183 w w'

/-- The world behind a round of turn. -/
abbrev turnW (wr : World) (a : Nat) (e : EV) (A : Option Addr) (c : Nat) (F nx : Option Addr) : World := (((wr.setCell ⟨a, 1181, none⟩ (.pointer (some ⟨wr.heap.size, 0, none⟩))).setCell ⟨a, 1182, none⟩ (.pointer nx)).alloc (.cells #[.int .i64 e.kind, .int .i32 e.rune, .int .u8 e.final, .string (strK e.mids), .slice A e.params.length c, .string (strK e.text), .pointer F] 83)).drew
theorem turn_step {wr : World} {a : Nat} {q : Q} {M1 M2 : List EV} {e : EV} {A F nx : Option Addr} {c : Nat} (h : IsP wr a q (M1 ++ (e :: M2).reverse)) (hF : Chain wr M1 F) (ht : P7.TabT wr A e.params) (hf : Form A c e.params) (hn : Chain wr M2 nx) :
    IsP (turnW wr a e A c F nx) a q ((e :: M1) ++ M2.reverse) ∧ (turnW wr a e A c F nx).cell? ⟨a, 1181, none⟩ = some (.pointer (some ⟨wr.heap.size, 0, none⟩)) ∧ (turnW wr a e A c F nx).cell? ⟨a, 1182, none⟩ = some (.pointer nx) ∧ Chain (turnW wr a e A c F nx) (e :: M1) (some ⟨wr.heap.size, 0, none⟩) ∧ Chain (turnW wr a e A c F nx) M2 nx ∧ Stirs a 0 1183 wr (turnW wr a e A c F nx) ∧ (turnW wr a e A c F nx).heap.size = wr.heap.size + 1 := by
  have hl := h.lt
  have hs : Stirs a 1181 2 wr (turnW wr a e A c F nx) := (((((Stirs.refl a 1181 2 wr).set 1181 _ (by omega)).set 1182 _ (by omega)).alloc _ hl)).drew
  have hs0 : Stirs a 0 1183 wr (turnW wr a e A c F nx) := hs.wider (by omega) (by omega)
  obtain ⟨u1, d1⟩ := h.some_cell (i := 1181) (by omega)
  obtain ⟨u2, d2⟩ := h.some_cell (i := 1182) (by omega)
  have c1 : (turnW wr a e A c F nx).cell? ⟨a, 1181, none⟩ = some (.pointer (some ⟨wr.heap.size, 0, none⟩)) := by
    show World.cell? (World.alloc _ _) _ = _
    rw [World.cell?_alloc_lt _ _ _ (by simpa using hl), World.cell?_setCell_other _ _ _ _ (by intro e'; injection e' with e1 e2; omega)]
    exact World.cell?_setCell_same _ _ _ d1
  have c2 : (turnW wr a e A c F nx).cell? ⟨a, 1182, none⟩ = some (.pointer nx) := by
    show World.cell? (World.alloc _ _) _ = _
    rw [World.cell?_alloc_lt _ _ _ (by simpa using hl)]
    exact World.cell?_setCell_same _ _ _ (show _ = some u2 from by rw [World.cell?_setCell_other _ _ _ _ (by intro e'; injection e' with e1 e2; omega)]; exact d2)
  have hk := h.keepI hs
  have hb : (turnW wr a e A c F nx).heap[wr.heap.size]? = some (.cells (evCells e A c ++ [Value.pointer F]).toArray 83 (0, 0)) := by
    have := Deep.blk_alloc_new ((wr.setCell ⟨a, 1181, none⟩ (.pointer (some ⟨wr.heap.size, 0, none⟩))).setCell ⟨a, 1182, none⟩ (.pointer nx)) (.cells #[.int .i64 e.kind, .int .i32 e.rune, .int .u8 e.final, .string (strK e.mids), .slice A e.params.length c, .string (strK e.text), .pointer F] 83)
    rw [show ((wr.setCell ⟨a, 1181, none⟩ (.pointer (some ⟨wr.heap.size, 0, none⟩))).setCell ⟨a, 1182, none⟩ (.pointer nx)).heap.size = wr.heap.size by simp] at this
    exact this
  have hc : Chain (turnW wr a e A c F nx) (e :: M1) (some ⟨wr.heap.size, 0, none⟩) := ⟨_, A, c, F, rfl, hb, ht.keep hk.num, hf, hF.keep hk⟩
  exact ⟨h.retold hs ⟨_, _, c1, c2, e :: M1, M2, hc, hn.keep hk, rfl⟩, c1, c2, hc, hn.keep hk, hs0, by simp [turnW]⟩

theorem not_nilp (g : Nat) (W : World) : (binOp .neq 66 (.pointer (some ⟨g, 0, none⟩)) (.pointer none)).run Tryd.prog W = .ok (.bool true) W := by kernel_rfl

theorem turn_any {w : World} {a : Nat} {q : Q} {L2 : List EV} {B : Option Addr} (h : IsP w a q L2.reverse) (c1 : w.cell? ⟨a, 1181, none⟩ = some (.pointer none)) (c2 : w.cell? ⟨a, 1182, none⟩ = some (.pointer B)) (hB : Chain w L2 B) :
    Calls Tryd.prog 36 #[.pointer (some ⟨a, 1181, none⟩)] w fun e w' => e = .returned (.tuple #[]) ∧ Turned w a q L2.reverse w' := by
  obtain ⟨n, hn⟩ : ∃ n, n = w.heap.size + L2.length := ⟨_, rfl⟩
  have HN := Lib.hid hn
  have H0 : Hid (IsP w a q ([] ++ L2.reverse)) := Lib.hid h
  have HB := Lib.hid hB
  have hC1 := Lib.hid c1
  have hC2 := Lib.hid c2
  clear h hB hn
  go_enter Tryd.func36, Tryd.ntmps36
  clear c1 c2
  go_wp2
  go_loopw [5] (fun _ wr => ∃ (M1 M2 : List EV) (F B : Option Addr), Hid (IsP wr a q (M1 ++ M2.reverse)) ∧ wr.cell? ⟨a, 1181, none⟩ = some (.pointer F) ∧ wr.cell? ⟨a, 1182, none⟩ = some (.pointer B) ∧ Hid (Chain wr M1 F) ∧ Hid (Chain wr M2 B) ∧ Hid (L2.reverse = M2.reverse ++ M1) ∧ Hid (Stirs a 0 1183 w wr) ∧ Hid (wr.heap.size + M2.length = n)) (fun _ wr => n - wr.heap.size)
  case atStart => exact ⟨[], L2, none, B, H0, hC1.out, hC2.out, Lib.hid rfl, HB, Lib.hid (by simp), Lib.hid (Stirs.refl _ _ _ _), Lib.hid (by rw [HN.out])⟩
  case round =>
    obtain ⟨M1, M2, F, B, HI, c1, c2, HF, HBc, HL, HS, HZ⟩ := hrel
    cases M2 with
    | nil =>
      obtain rfl : B = none := HBc.out
      have HT : Hid (Turned w a q L2.reverse wr) := Lib.hid ⟨F, c1, c2, by rw [HL.out]; simpa using HF.out, by rw [HL.out]; simpa using HI.out, HS.out⟩
      clear HI HF HBc HL HS HZ c1
      go_wp2
      go_end0
      exact ⟨rfl, HT.out⟩
    | cons e M2 =>
      obtain ⟨g, A, c, nx, rfl, ⟨k0, k1, k2, k3, k4, k5, k6⟩, hg, ht, hf, hch⟩ := HBc.out.at_
      have HG := Lib.hid hg
      have HTS := Lib.hid (turn_step HI.out HF.out ht hf hch)
      have f1 := HI.out.free 1181
      have f2 := HI.out.free 1182
      have hq := not_nilp g
      have hla : a < wr.heap.size := HI.out.lt
      have hga : g < wr.heap.size := (Array.getElem?_eq_some_iff.1 hg).1
      clear hg ht hf hch
      go_wp2
      go_region
      go_wp2
      go_roundw
      case rel => exact ⟨e :: M1, M2, _, _, Lib.hid HTS.out.1, HTS.out.2.1, HTS.out.2.2.1, Lib.hid HTS.out.2.2.2.1, Lib.hid HTS.out.2.2.2.2.1, Lib.hid (by rw [HL.out]; simp), Lib.hid (HS.out.trans HTS.out.2.2.2.2.2.1), Lib.hid (by have h1 := HTS.out.2.2.2.2.2.2; have h2 := HZ.out; simp only [List.length_cons] at h2; show (turnW wr a e A c F nx).heap.size + M2.length = n; rw [h1]; omega)⟩
      case measure =>
        have h1 := HTS.out.2.2.2.2.2.2
        have h2 := HZ.out
        simp only [List.length_cons] at h2
        show n - (turnW wr a e A c F nx).heap.size < n - wr.heap.size
        rw [h1]
        omega

def TakePost (w : World) (a : Nat) (q : Q) : List EV → Ending → World → Prop
  | [], e, w' => e = .returned (.tuple #[.agg #[.int .i64 0, .int .i32 0, .int .u8 0, .string ⟨#[]⟩, .slice none 0 0, .string ⟨#[]⟩], .bool false]) ∧ IsP w' a q [] ∧ Stirs a 0 1183 w w'
  | x :: L, e, w' => ∃ A c, e = .returned (.tuple #[.agg #[.int .i64 x.kind, .int .i32 x.rune, .int .u8 x.final, .string (strK x.mids), .slice A x.params.length c, .string (strK x.text)], .bool true]) ∧ TabC w' A c x.params ∧ IsP w' a q L ∧ Stirs a 0 1183 w w'

theorem first_nil (W : World) : (binOp .eql 66 (.pointer none) (.pointer none)).run Tryd.prog W = .ok (.bool true) W := by kernel_rfl
theorem first_not (g : Nat) (W : World) : (binOp .eql 66 (.pointer (some ⟨g, 0, none⟩)) (.pointer none)).run Tryd.prog W = .ok (.bool false) W := by kernel_rfl
theorem bNone (W : World) : (Instr.build 45 #[]).run Tryd.prog W = .ok (.agg #[.int .i64 0, .int .i32 0, .int .u8 0, .string ⟨#[]⟩, .slice none 0 0, .string ⟨#[]⟩]) W := run_build W 45 #[] _ (by kernel_rfl)

/-- The result's own block. -/
abbrev resO : Obj := .cells #[.int .i64 0, .int .i32 0, .int .u8 0, .string ⟨#[]⟩, .slice none 0 0, .string ⟨#[]⟩] 45 (0, 0)
abbrev resW (w : World) : World := w.alloc resO
/-- A store into a block of another type leaves a parser. -/
theorem IsP.aside {w : World} {a rb : Nat} {q : Q} {L : List EV} (h : IsP w a q L) {C : Array Value} (hb : w.heap[rb]? = some (.cells C 45 (0, 0))) (i : Nat) (v : Value) : IsP (w.setCell ⟨rb, i, none⟩ v) a q L := by
  have hne : a ≠ rb := fun e => by
    obtain ⟨C', hC, _⟩ := h.blk
    rw [← e, hC] at hb
    cases hb
  have hk : (w.setCell ⟨rb, i, none⟩ v).heap[a]? = w.heap[a]? := Below.heap_setCell _ _ _ _ hne
  have hki : KeepI w (w.setCell ⟨rb, i, none⟩ v) := by
    have hx : ∀ (k : Nat) (cur : Array Value) (t : TypeId), w.heap[k]? = some (.cells cur t (0, 0)) → t ≠ 45 → (w.setCell ⟨rb, i, none⟩ v).heap[k]? = w.heap[k]? := fun k cur t hk' ht => Below.heap_setCell _ _ _ _ fun e => by
      have e : k = rb := e
      subst e
      rw [hb] at hk'
      cases hk'
      exact ht rfl
    exact ⟨⟨by simp, fun k cur t hk ht => hx k cur t hk (by rcases ht with e | e <;> rw [e] <;> decide)⟩, fun k cur hk => hx k cur _ hk (by decide)⟩
  have hc : ∀ i', (w.setCell ⟨rb, i, none⟩ v).cell? ⟨a, i', none⟩ = w.cell? ⟨a, i', none⟩ := fun i' => World.cell?_of_block (w := w) hk
  refine ⟨?_, ⟨h.dec.blk.of_block hk, h.dec.ok, h.dec.ne⟩, (hc _).trans h.st, ⟨Part.of_block h.par.blk hk, h.par.ok⟩, fun i hi => ?_, (hc _).trans h.col, (hc _).trans h.fin, fun i hi => ?_, (hc _).trans h.siz, ?_, h.stb⟩
  · rw [hk]; exact h.blk
  · rw [hc]; exact h.mid i hi
  · rw [hc]; exact h.txt i hi
  · obtain ⟨F, B, h1, h2, h3⟩ := h.told
    exact ⟨F, B, (hc _).trans h1, (hc _).trans h2, h3.keep hki⟩

/-- The result stored. -/
abbrev resS (w1 : World) (rb : Nat) (v0 v1 v2 v3 v4 v5 : Value) : World := (((((w1.setCell ⟨rb, 0, none⟩ v0).setCell ⟨rb, 1, none⟩ v1).setCell ⟨rb, 2, none⟩ v2).setCell ⟨rb, 3, none⟩ v3).setCell ⟨rb, 4, none⟩ v4).setCell ⟨rb, 5, none⟩ v5
theorem res_all {w w1 : World} {a rb : Nat} {q : Q} {L : List EV} {u0 u1 u2 u3 u4 u5 : Value} (hI : IsP w1 a q L) (hS : Stirs a 0 1183 w w1) (hl : a < w.heap.size) (hr : w.heap.size ≤ rb) (hb : w1.heap[rb]? = some (.cells #[u0, u1, u2, u3, u4, u5] 45 (0, 0))) (v0 v1 v2 v3 v4 v5 : Value) :
    (IsP (resS w1 rb v0 v1 v2 v3 v4 v5) a q L ∧ Stirs a 0 1183 w (resS w1 rb v0 v1 v2 v3 v4 v5)) ∧ (∀ A c l, TabC w1 A c l → TabC (resS w1 rb v0 v1 v2 v3 v4 v5) A c l) ∧ (resS w1 rb v0 v1 v2 v3 v4 v5).heap[rb]? = some (.cells #[v0, v1, v2, v3, v4, v5] 45 (0, 0)) := by
  have h0 := heap_setCell_same w1 rb 0 _ _ v0 hb
  have h1 := heap_setCell_same _ rb 1 _ _ v1 h0
  have h2 := heap_setCell_same _ rb 2 _ _ v2 h1
  have h3 := heap_setCell_same _ rb 3 _ _ v3 h2
  have h4 := heap_setCell_same _ rb 4 _ _ v4 h3
  have h5 := heap_setCell_same _ rb 5 _ _ v5 h4
  have hk : ∀ k, k ≠ rb → (resS w1 rb v0 v1 v2 v3 v4 v5).heap[k]? = w1.heap[k]? := fun k hk => by
    unfold resS
    rw [Below.heap_setCell _ _ _ _ hk, Below.heap_setCell _ _ _ _ hk, Below.heap_setCell _ _ _ _ hk, Below.heap_setCell _ _ _ _ hk, Below.heap_setCell _ _ _ _ hk, Below.heap_setCell _ _ _ _ hk]
  refine ⟨⟨(((((hI.aside hb 0 v0).aside h0 1 v1).aside h1 2 v2).aside h2 3 v3).aside h3 4 v4).aside h4 5 v5, ?_⟩, fun A c l ht => ht.keep ⟨by simp [resS], fun k cur t hk' ht' => hk k fun e => ?_⟩, h5⟩
  · exact hS.andthen (B := w.heap.size) (((((((Below.refl _ _).setCell hr _).setCell hr _).setCell hr _).setCell hr _).setCell hr _).setCell hr _) (Nat.le_refl _) hl
  · rw [e, hb] at hk'
    cases hk'
    rcases ht' with e | e <;> exact absurd e (by decide)
theorem res_cells {rb : Nat} {W : World} {v0 v1 v2 v3 v4 v5 : Value} (h : W.heap[rb]? = some (.cells #[v0, v1, v2, v3, v4, v5] 45 (0, 0))) : W.cell? ⟨rb, 0, none⟩ = some v0 ∧ W.cell? ⟨rb, 1, none⟩ = some v1 ∧ W.cell? ⟨rb, 2, none⟩ = some v2 ∧ W.cell? ⟨rb, 3, none⟩ = some v3 ∧ W.cell? ⟨rb, 4, none⟩ = some v4 ∧ W.cell? ⟨rb, 5, none⟩ = some v5 :=
  ⟨by rw [cell_at h]; rfl, by rw [cell_at h]; rfl, by rw [cell_at h]; rfl, by rw [cell_at h]; rfl, by rw [cell_at h]; rfl, by rw [cell_at h]; rfl⟩
theorem res_open {w1 : World} {rb : Nat} (h : w1.heap[rb]? = some resO) : (w1.cell? ⟨rb, 0, none⟩ = some (.int .i64 0) ∧ w1.cell? ⟨rb, 1, none⟩ = some (.int .i32 0) ∧ w1.cell? ⟨rb, 2, none⟩ = some (.int .u8 0) ∧ w1.cell? ⟨rb, 3, none⟩ = some (.string ⟨#[]⟩) ∧ w1.cell? ⟨rb, 4, none⟩ = some (.slice none 0 0) ∧ w1.cell? ⟨rb, 5, none⟩ = some (.string ⟨#[]⟩)) ∧ ∀ j, w1.frozen? ⟨rb, j, none⟩ = false :=
  ⟨⟨by rw [cell_at h]; rfl, by rw [cell_at h]; rfl, by rw [cell_at h]; rfl, by rw [cell_at h]; rfl, by rw [cell_at h]; rfl, by rw [cell_at h]; rfl⟩, fun j => free_at h j⟩

/-- take where nothing is there. -/
theorem take_none {w : World} {a : Nat} {q : Q} (h : IsP w a q []) : Calls Tryd.prog 23 #[.pointer (some ⟨a, 1181, none⟩)] w (TakePost w a q []) := by
  have hla := h.lt
  have hA : Below w.heap.size w (resW w) := (Below.refl _ _).alloc (Nat.le_refl _) _
  obtain ⟨F, B, c1, c2, L1, L2, hF, hB, hL⟩ := (h.below hA).told
  obtain ⟨rfl, h2⟩ : L1 = [] ∧ L2.reverse = [] := List.append_eq_nil_iff.1 hL.symm
  have h2 : L2 = [] := by simpa using h2
  subst h2
  obtain rfl : F = none := hF
  have HC := Lib.hid (turn_any (L2 := []) (h.below hA) c1 c2 hB)
  have e1 : w.cell? ⟨a, 1181, none⟩ = some (.pointer none) := (hA.cell (p := ⟨a, 1181, none⟩) hla).symm.trans c1
  have hq := first_nil
  have kb := bNone
  have HAA := Lib.hid hA
  clear h hB hL c2 c1 hA
  go_enter Tryd.func23, Tryd.ntmps23
  go_wp2_with fail
  refine (show Calls _ _ _ _ _ from HC.out).mono ?_
  rintro e w1 ⟨rfl, F1, d1, d2, hc, hI, hs⟩
  obtain rfl : F1 = none := hc
  have hrb : w1.heap[w.heap.size]? = some resO := (hs.block w.heap.size (by simp) (by omega)).trans (Deep.blk_alloc_new w _)
  have HR := Lib.hid (res_all (L := []) hI ((stirs_below HAA.out hla).trans hs) hla (Nat.le_refl _) hrb (.int .i64 0) (.int .i32 0) (.int .u8 0) (.string ⟨#[]⟩) (.slice none 0 0) (.string ⟨#[]⟩))
  obtain ⟨⟨r0, r1, r2, r3, r4, r5⟩, rf⟩ := res_open hrb
  have rf0 := rf 0; have rf1 := rf 1; have rf2 := rf 2; have rf3 := rf 3; have rf4 := rf 4; have rf5 := rf 5
  clear hI hs HC d2 e1 rf hrb
  go_wp2
  obtain ⟨k0, k1, k2, k3, k4, k5⟩ := res_cells HR.out.2.2
  refine bodyPost_ret (v := .tuple #[.agg #[.int .i64 0, .int .i32 0, .int .u8 0, .string ⟨#[]⟩, .slice none 0 0, .string ⟨#[]⟩], .bool false]) (by simp [results, Tryd.results23, go_sem, r0, r1, r2, r3, r4, r5]) rfl ?_
  exact ⟨rfl, HR.out.1⟩

theorem apart_form {A : Option Addr} {c : Nat} {l : List (List Nat)} (hl : ParOk l) (hf : Form A c l) {w : World} (hT : P7.TabT w A l) : Calls Tryd.prog 37 #[.slice A l.length c] w (ApartPost w l) := by
  rcases hf with ⟨rfl, rfl, rfl⟩ | ⟨g, rfl, rfl⟩
  · exact apart_none w
  · exact apart_some g l.length l w hl hT

/-- The first event is taken. -/
theorem IsP.taken {w : World} {a : Nat} {q : Q} {L : List EV} (h : IsP w a q L) {L1 L2 : List EV} {B nx : Option Addr} (c2 : w.cell? ⟨a, 1182, none⟩ = some (.pointer B)) (hn : Chain w L1 nx) (hB : Chain w L2 B) : IsP (w.setCell ⟨a, 1181, none⟩ (.pointer nx)) a q (L1 ++ L2.reverse) ∧ Stirs a 0 1183 w (w.setCell ⟨a, 1181, none⟩ (.pointer nx)) := by
  have hs : Stirs a 1181 2 w (w.setCell ⟨a, 1181, none⟩ (.pointer nx)) := (Stirs.refl a 1181 2 w).set 1181 _ (by omega)
  obtain ⟨u1, d1⟩ := h.some_cell (i := 1181) (by omega)
  have hk := h.keepI hs
  exact ⟨h.retold hs ⟨nx, B, World.cell?_setCell_same _ _ _ d1, (World.cell?_setCell_other _ _ _ _ (by intro e; injection e with e1 e2; omega)).trans c2, L1, L2, hn.keep hk, hB.keep hk, rfl⟩, hs.wider (by omega) (by omega)⟩

/-- The event's own block. -/
abbrev evO (x : EV) (A : Option Addr) (c : Nat) : Obj := .cells #[.int .i64 x.kind, .int .i32 x.rune, .int .u8 x.final, .string (strK x.mids), .slice A x.params.length c, .string (strK x.text)] 45 (0, 0)
theorem ev_open {w1 : World} {rb : Nat} {x : EV} {A : Option Addr} {c : Nat} (h : w1.heap[rb]? = some (evO x A c)) : (w1.cell? ⟨rb, 0, none⟩ = some (.int .i64 x.kind) ∧ w1.cell? ⟨rb, 1, none⟩ = some (.int .i32 x.rune) ∧ w1.cell? ⟨rb, 2, none⟩ = some (.int .u8 x.final) ∧ w1.cell? ⟨rb, 3, none⟩ = some (.string (strK x.mids)) ∧ w1.cell? ⟨rb, 4, none⟩ = some (.slice A x.params.length c) ∧ w1.cell? ⟨rb, 5, none⟩ = some (.string (strK x.text))) ∧ ∀ j, w1.frozen? ⟨rb, j, none⟩ = false :=
  ⟨⟨by rw [cell_at h]; rfl, by rw [cell_at h]; rfl, by rw [cell_at h]; rfl, by rw [cell_at h]; rfl, by rw [cell_at h]; rfl, by rw [cell_at h]; rfl⟩, fun j => free_at h j⟩
/-- The last part of take: behind the first event's taking, in a world W in which the event's block and the result's are there. -/
theorem take_tail {w W w2 : World} {a rb eb : Nat} {q : Q} {L : List EV} {x : EV} {A A2 : Option Addr} {c c3 : Nat} (hI : IsP W a q L) (hS : Stirs a 0 1183 w W) (hla : a < w.heap.size) (hr : w.heap.size ≤ rb) (hrb : W.heap[rb]? = some resO) (he : w.heap.size ≤ eb) (heb : W.heap[eb]? = some (evO x A c)) (hne : rb ≠ eb) (hb2 : Below W.heap.size W w2) (ht2 : TabC w2 A2 c3 x.params) :
    w2.heap[rb]? = some resO ∧ w2.heap[eb]? = some (evO x A c) ∧ Hid (TabC (resS (w2.setCell ⟨eb, 4, none⟩ (.slice A2 x.params.length c3)) rb (.int .i64 x.kind) (.int .i32 x.rune) (.int .u8 x.final) (.string (strK x.mids)) (.slice A2 x.params.length c3) (.string (strK x.text))) A2 c3 x.params ∧
      IsP (resS (w2.setCell ⟨eb, 4, none⟩ (.slice A2 x.params.length c3)) rb (.int .i64 x.kind) (.int .i32 x.rune) (.int .u8 x.final) (.string (strK x.mids)) (.slice A2 x.params.length c3) (.string (strK x.text))) a q L ∧ Stirs a 0 1183 w (resS (w2.setCell ⟨eb, 4, none⟩ (.slice A2 x.params.length c3)) rb (.int .i64 x.kind) (.int .i32 x.rune) (.int .u8 x.final) (.string (strK x.mids)) (.slice A2 x.params.length c3) (.string (strK x.text)))) := by
  have hl2 : a < W.heap.size := hI.lt
  have h2 : w2.heap[rb]? = some resO := (hb2.block rb (Array.getElem?_eq_some_iff.1 hrb).1).trans hrb
  have h3 : w2.heap[eb]? = some (evO x A c) := (hb2.block eb (Array.getElem?_eq_some_iff.1 heb).1).trans heb
  have h4 : (w2.setCell ⟨eb, 4, none⟩ (.slice A2 x.params.length c3)).heap[rb]? = some resO := (Below.heap_setCell _ _ _ _ hne).trans h2
  have hI3 := (hI.below hb2).aside h3 4 (.slice A2 x.params.length c3)
  have hS3 : Stirs a 0 1183 w (w2.setCell ⟨eb, 4, none⟩ (.slice A2 x.params.length c3)) := (hS.trans (stirs_below hb2 hl2)).andthen (B := w.heap.size) ((Below.refl _ _).setCell he _) (Nat.le_refl _) hla
  have ht3 : TabC (w2.setCell ⟨eb, 4, none⟩ (.slice A2 x.params.length c3)) A2 c3 x.params := ht2.keep ⟨by simp, fun k cur t hk ht => Below.heap_setCell _ _ _ _ fun e => by
    have e : k = eb := e
    rw [e, h3] at hk
    cases hk
    rcases ht with e | e <;> exact absurd e (by decide)⟩
  obtain ⟨⟨k1, k2⟩, k3, k4⟩ := res_all (L := L) hI3 hS3 hla hr h4 (.int .i64 x.kind) (.int .i32 x.rune) (.int .u8 x.final) (.string (strK x.mids)) (.slice A2 x.params.length c3) (.string (strK x.text))
  exact ⟨h2, h3, Lib.hid ⟨k3 _ _ _ ht3, k1, k2⟩⟩

theorem take_first {w : World} {a : Nat} {q : Q} {x : EV} {L1 L2 : List EV} {F B : Option Addr} (h : IsP w a q ((x :: L1) ++ L2.reverse)) (hx : ParOk x.params) (c1 : w.cell? ⟨a, 1181, none⟩ = some (.pointer F)) (c2 : w.cell? ⟨a, 1182, none⟩ = some (.pointer B)) (hF : Chain w (x :: L1) F) (hB : Chain w L2 B) :
    Calls Tryd.prog 23 #[.pointer (some ⟨a, 1181, none⟩)] w (TakePost w a q (x :: (L1 ++ L2.reverse))) := by
  obtain ⟨g, A, c, nx, rfl, ⟨k0, k1, k2, k3, k4, k5, k6⟩, hg, ht, hf, hch⟩ := hF.at_
  obtain ⟨hI, hS⟩ := h.taken c2 hch hB
  have hkk := h.keepI hS
  have hla := h.lt
  have HA : Hid (∀ W, P7.TabT W A x.params → Calls Tryd.prog 37 #[.slice A x.params.length c] W (ApartPost W x.params)) := Lib.hid fun W hW => apart_form hx hf hW
  obtain ⟨W1, hW1⟩ : ∃ W1, W1 = ((w.setCell ⟨a, 1181, none⟩ (.pointer nx)).alloc resO).alloc (evO x A c) := ⟨_, rfl⟩
  have hal : Below (w.setCell ⟨a, 1181, none⟩ (.pointer nx)).heap.size (w.setCell ⟨a, 1181, none⟩ (.pointer nx)) W1 := by rw [hW1]; exact two_below _ _ _
  have HW1 := Lib.hid hW1
  have HT1 : Hid (P7.TabT W1 A x.params) := Lib.hid ((ht.keep hkk.num).keep (P7.KeepT.of_below hal))
  have HI : Hid (IsP W1 a q (L1 ++ L2.reverse)) := Lib.hid (hI.below hal)
  have HS : Hid (Stirs a 0 1183 w W1) := Lib.hid (by rw [hW1]; exact (hS.alloc _ hla).alloc _ hla)
  have hsz : (w.setCell ⟨a, 1181, none⟩ (.pointer nx)).heap.size = w.heap.size := by simp
  have HRB : Hid (W1.heap[w.heap.size]? = some resO) := Lib.hid (by
    have := Deep.blk_alloc_new (w.setCell ⟨a, 1181, none⟩ (.pointer nx)) resO
    rw [hsz] at this
    rw [hW1]
    refine (heap_alloc_old _ _ ?_).trans this
    simp)
  have HEB : Hid (W1.heap[w.heap.size + 1]? = some (evO x A c)) := Lib.hid (by
    have := Deep.blk_alloc_new ((w.setCell ⟨a, 1181, none⟩ (.pointer nx)).alloc resO) (evO x A c)
    rw [show ((w.setCell ⟨a, 1181, none⟩ (.pointer nx)).alloc resO).heap.size = w.heap.size + 1 by simp] at this
    rw [hW1]
    exact this)
  have f1 := h.free 1181
  have hq := first_not g
  have hga : g < w.heap.size := (Array.getElem?_eq_some_iff.1 hg).1
  have hne : g ≠ a := fun e => by
    obtain ⟨C, hC, _⟩ := h.blk
    rw [e, hC] at hg
    cases hg
  clear h hx c2 hF hB hg ht hf hch hI hS hkk hal hW1 hsz
  go_enter Tryd.func23, Tryd.ntmps23
  go_wp2_with fail
  rw [← HW1.out]
  refine (show Calls _ _ _ _ _ from HA.out _ HT1.out).mono ?_
  rintro e w2 ⟨A2, c3, rfl, ht2, hb2⟩
  obtain ⟨hrb, heb, HR⟩ := take_tail (c3 := c3) HI.out HS.out hla (Nat.le_refl _) HRB.out (by omega) HEB.out (by omega) hb2 ht2
  obtain ⟨⟨r0, r1, r2, r3, r4, r5⟩, rf⟩ := res_open hrb
  obtain ⟨⟨t0, t1, t2, t3, t4, t5⟩, tf⟩ := ev_open heb
  have tf4 := tf 4
  have rf0 := rf 0; have rf1 := rf 1; have rf2 := rf 2; have rf3 := rf 3; have rf4 := rf 4; have rf5 := rf 5
  clear ht2 hb2 HA HI HS hrb heb rf tf HT1 HRB HEB HW1
  go_wp2
  refine bodyPost_ret (v := .tuple #[.agg #[.int .i64 x.kind, .int .i32 x.rune, .int .u8 x.final, .string (strK x.mids), .slice A2 x.params.length c3, .string (strK x.text)], .bool true]) (by simp [results, Tryd.results23, go_sem, r0, r1, r2, r3, r4, r5]) rfl ?_
  exact ⟨A2, c3, rfl, HR.out⟩

theorem take_turn {w : World} {a : Nat} {q : Q} {x : EV} {L : List EV} {L2 : List EV} {B : Option Addr} (hL : L2.reverse = x :: L) (h : IsP w a q L2.reverse) (hx : ParOk x.params) (c1 : w.cell? ⟨a, 1181, none⟩ = some (.pointer none)) (c2 : w.cell? ⟨a, 1182, none⟩ = some (.pointer B)) (hB : Chain w L2 B) :
    Calls Tryd.prog 23 #[.pointer (some ⟨a, 1181, none⟩)] w (TakePost w a q (x :: L)) := by
  have hla := h.lt
  have hA : Below w.heap.size w (resW w) := (Below.refl _ _).alloc (Nat.le_refl _) _
  have HC := Lib.hid (turn_any (w := resW w) (L2 := L2) (h.below hA) ((hA.cell (p := ⟨a, 1181, none⟩) hla).trans c1) ((hA.cell (p := ⟨a, 1182, none⟩) hla).trans c2) (hB.keep (KeepI.of_below hA)))
  rw [hL] at HC
  have hq1 := first_nil
  have HX := Lib.hid hx
  have HAA := Lib.hid hA
  clear h hB hL c2 hx hA
  go_enter Tryd.func23, Tryd.ntmps23
  go_wp2_with fail
  refine (show Calls _ _ _ _ _ from HC.out).mono ?_
  rintro e w1 ⟨rfl, F1, d1, d2, hc, h, hs⟩
  obtain ⟨g, A, c, nx, rfl, ⟨k0, k1, k2, k3, k4, k5, k6⟩, hg, ht, hf, hch⟩ := hc.at_
  obtain ⟨hI, hS⟩ := h.taken d2 hch (show Chain w1 [] none from rfl)
  rw [List.reverse_nil, List.append_nil] at hI
  have hkk := h.keepI hS
  have hx := HX.out
  have HA : Hid (∀ W, P7.TabT W A x.params → Calls Tryd.prog 37 #[.slice A x.params.length c] W (ApartPost W x.params)) := Lib.hid fun W hW => apart_form hx hf hW
  have hla1 : a < w1.heap.size := h.lt
  have hrb1 : w1.heap[w.heap.size]? = some resO := (hs.block w.heap.size (by simp) (by omega)).trans (Deep.blk_alloc_new w _)
  have hwz : w.heap.size < w1.heap.size := (Array.getElem?_eq_some_iff.1 hrb1).1
  obtain ⟨W1, hW1⟩ : ∃ W1, W1 = (w1.setCell ⟨a, 1181, none⟩ (.pointer nx)).alloc (evO x A c) := ⟨_, rfl⟩
  have hal : Below (w1.setCell ⟨a, 1181, none⟩ (.pointer nx)).heap.size (w1.setCell ⟨a, 1181, none⟩ (.pointer nx)) W1 := by rw [hW1]; exact (Below.refl _ _).alloc (Nat.le_refl _) _
  have HW1 := Lib.hid hW1
  have HT1 : Hid (P7.TabT W1 A x.params) := Lib.hid ((ht.keep hkk.num).keep (P7.KeepT.of_below hal))
  have HI : Hid (IsP W1 a q L) := Lib.hid (hI.below hal)
  have HS : Hid (Stirs a 0 1183 w W1) := Lib.hid (by rw [hW1]; exact (((stirs_below HAA.out hla).trans hs).trans hS).alloc _ hla)
  have hsz : (w1.setCell ⟨a, 1181, none⟩ (.pointer nx)).heap.size = w1.heap.size := by simp
  have HRB : Hid (W1.heap[w.heap.size]? = some resO) := Lib.hid (by
    rw [hW1]
    exact (heap_alloc_old _ _ (by rw [hsz]; exact hwz)).trans ((Below.heap_setCell _ _ _ _ (by show w.heap.size ≠ a; omega)).trans hrb1))
  have HEB : Hid (W1.heap[w1.heap.size]? = some (evO x A c)) := Lib.hid (by
    have := Deep.blk_alloc_new (w1.setCell ⟨a, 1181, none⟩ (.pointer nx)) (evO x A c)
    rw [hsz] at this
    rw [hW1]
    exact this)
  have f1 := h.free 1181
  have hq := first_not g
  have hga : g < w1.heap.size := (Array.getElem?_eq_some_iff.1 hg).1
  have hne : g ≠ a := fun e => by
    obtain ⟨C, hC, _⟩ := h.blk
    rw [e, hC] at hg
    cases hg
  clear h hs hc hg ht hf hch hI hS hkk HC c1 d2 hx hrb1 hal hW1 hsz
  go_wp2_with fail
  rw [← HW1.out]
  refine (show Calls _ _ _ _ _ from HA.out _ HT1.out).mono ?_
  rintro e w2 ⟨A2, c3, rfl, ht2, hb2⟩
  obtain ⟨hrb, heb, HR⟩ := take_tail (c3 := c3) HI.out HS.out hla (Nat.le_refl _) HRB.out (by omega) HEB.out (by omega) hb2 ht2
  obtain ⟨⟨r0, r1, r2, r3, r4, r5⟩, rf⟩ := res_open hrb
  obtain ⟨⟨t0, t1, t2, t3, t4, t5⟩, tf⟩ := ev_open heb
  have tf4 := tf 4
  have rf0 := rf 0; have rf1 := rf 1; have rf2 := rf 2; have rf3 := rf 3; have rf4 := rf 4; have rf5 := rf 5
  clear ht2 hb2 HA HI HS hrb heb rf tf HT1 HRB HEB HW1
  go_wp2
  refine bodyPost_ret (v := .tuple #[.agg #[.int .i64 x.kind, .int .i32 x.rune, .int .u8 x.final, .string (strK x.mids), .slice A2 x.params.length c3, .string (strK x.text)], .bool true]) (by simp [results, Tryd.results23, go_sem, r0, r1, r2, r3, r4, r5]) rfl ?_
  exact ⟨A2, c3, rfl, HR.out⟩

theorem take_any {w : World} {a : Nat} {q : Q} {L : List EV} (h : IsP w a q L) (hx : ∀ x ∈ L, ParOk x.params) : Calls Tryd.prog 23 #[.pointer (some ⟨a, 1181, none⟩)] w (TakePost w a q L) := by
  cases L with
  | nil => exact take_none h
  | cons x L =>
    obtain ⟨F, B, c1, c2, L1, L2, hF, hB, hL⟩ := h.told
    have hxx := hx x List.mem_cons_self
    cases L1 with
    | nil =>
      have hL2 : L2.reverse = x :: L := hL.symm
      have hF : F = none := hF
      rw [hF] at c1
      exact take_turn hL2 (by rw [hL2]; exact h) hxx c1 c2 hB
    | cons y L1 =>
      obtain ⟨rfl, rfl⟩ : x = y ∧ L = L1 ++ L2.reverse := by simpa using hL
      exact take_first h hxx c1 c2 hF hB

/-- Next. -/
theorem next_any {w : World} {a : Nat} {q : Q} {L : List EV} (h : IsP w a q L) (hx : ∀ x ∈ L, ParOk x.params) : Calls Tryd.prog 14 #[.pointer (some ⟨a, 0, none⟩)] w (TakePost w a q L) := by
  have hla := h.lt
  have hA : Below w.heap.size w (resW w) := (Below.refl _ _).alloc (Nat.le_refl _) _
  have HC := Lib.hid (take_any (h.below hA) hx)
  have HAA := Lib.hid hA
  clear h hx hA
  cases L with
  | nil =>
    go_enter Tryd.func14, Tryd.ntmps14
    go_wp2_with fail
    refine (show Calls _ _ _ _ _ from HC.out).mono ?_
    rintro e w1 ⟨rfl, hI, hs⟩
    have hrb : w1.heap[w.heap.size]? = some resO := (hs.block w.heap.size (by simp) (by omega)).trans (Deep.blk_alloc_new w _)
    have HR := Lib.hid (res_all (L := []) hI ((stirs_below HAA.out hla).trans hs) hla (Nat.le_refl _) hrb (.int .i64 0) (.int .i32 0) (.int .u8 0) (.string ⟨#[]⟩) (.slice none 0 0) (.string ⟨#[]⟩))
    obtain ⟨⟨r0, r1, r2, r3, r4, r5⟩, rf⟩ := res_open hrb
    have rf0 := rf 0; have rf1 := rf 1; have rf2 := rf 2; have rf3 := rf 3; have rf4 := rf 4; have rf5 := rf 5
    clear hI hs HC rf hrb
    go_wp2
    refine bodyPost_ret (v := .tuple #[.agg #[.int .i64 0, .int .i32 0, .int .u8 0, .string ⟨#[]⟩, .slice none 0 0, .string ⟨#[]⟩], .bool false]) (by simp [results, Tryd.results14, go_sem, r0, r1, r2, r3, r4, r5]) rfl ?_
    exact ⟨rfl, HR.out.1⟩
  | cons x L =>
    go_enter Tryd.func14, Tryd.ntmps14
    go_wp2_with fail
    refine (show Calls _ _ _ _ _ from HC.out).mono ?_
    rintro e w2 ⟨A2, c3, rfl, ht2, hI, hs⟩
    have hrb : w2.heap[w.heap.size]? = some resO := (hs.block w.heap.size (by simp) (by omega)).trans (Deep.blk_alloc_new w _)
    obtain ⟨k1, k2, _⟩ := res_all (L := L) hI ((stirs_below HAA.out hla).trans hs) hla (Nat.le_refl _) hrb (.int .i64 x.kind) (.int .i32 x.rune) (.int .u8 x.final) (.string (strK x.mids)) (.slice A2 x.params.length c3) (.string (strK x.text))
    have HR := Lib.hid (And.intro (k2 _ _ _ ht2) k1)
    obtain ⟨⟨r0, r1, r2, r3, r4, r5⟩, rf⟩ := res_open hrb
    have rf0 := rf 0; have rf1 := rf 1; have rf2 := rf 2; have rf3 := rf 3; have rf4 := rf 4; have rf5 := rf 5
    clear hI hs HC rf hrb ht2 k1 k2
    go_wp2
    refine bodyPost_ret (v := .tuple #[.agg #[.int .i64 x.kind, .int .i32 x.rune, .int .u8 x.final, .string (strK x.mids), .slice A2 x.params.length c3, .string (strK x.text)], .bool true]) (by simp [results, Tryd.results14, go_sem, r0, r1, r2, r3, r4, r5]) rfl ?_
    exact ⟨A2, c3, rfl, HR.out⟩
theorem nil_next (w : World) : Calls Tryd.prog 14 #[.pointer none] w fun e w' => e = .returned (.tuple #[.agg #[.int .i64 0, .int .i32 0, .int .u8 0, .string ⟨#[]⟩, .slice none 0 0, .string ⟨#[]⟩], .bool false]) ∧ Below w.heap.size w w' := by
  have kb := bNone
  go_enter Tryd.func14, Tryd.ntmps14
  go_wp2
  refine bodyPost_ret (v := .tuple #[.agg #[.int .i64 0, .int .i32 0, .int .u8 0, .string ⟨#[]⟩, .slice none 0 0, .string ⟨#[]⟩], .bool false]) (by simp [results, Tryd.results14, go_sem]) rfl ?_
  exact ⟨rfl, (Below.refl _ _).alloc (Nat.le_refl _) _⟩
end Go.Proofs.YtkenaccnmmmooaaDoor
