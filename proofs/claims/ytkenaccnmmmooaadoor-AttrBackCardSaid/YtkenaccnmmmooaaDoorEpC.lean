/- Layer 8: the program's small methods: many, mids, words, put, collect, clear. -/
import Derived.Test.YtkenaccnmmmooaaDoorEpB
import Derived.Test.YtkenaccnmmmooaaDoorE6StC
import Derived.Deep.RegionLaw
import Derived.Deep.RegionHeld3
namespace Go.Proofs.YtkenaccnmmmooaaDoor
open Go.RowKit Ev

/-- What a call does to the program's parser. -/
def PStep (w : World) (a : Nat) (q : Q) (L : List EV) (e : Ending) (w' : World) : Prop := e = .returned (.tuple #[]) ∧ IsP w' a q L ∧ Stirs a 0 1183 w w'

theorem PStep.drew {w : World} {a : Nat} {q : Q} {L : List EV} {e : Ending} {w' : World} (h : PStep w a q L e w') : PStep w a q L e w'.drew := ⟨h.1, h.2.1.below (below_drew (Below.refl _ _) 1), h.2.2.drew⟩
theorem many_any {w : World} {a : Nat} {q : Q} {L : List EV} (h : IsP w a q L) : Calls Tryd.prog 54 #[.pointer (some ⟨a, 6, none⟩)] w fun e w' => e = .returned (.bool (decide (2 < q.mids.length))) ∧ w = w' := by
  have c0 := h.col
  obtain ⟨n, hn⟩ : ∃ n, n = q.mids.length := ⟨_, rfl⟩
  rw [← hn] at c0 ⊢
  clear h hn
  go_enter Tryd.func54, Tryd.ntmps54
  go_wp2
  go_ret
  exact ⟨by simp; try omega, rfl⟩

set_option maxRecDepth 100000 in
theorem slice_mid (a n : Nat) (hn : n ≤ 2) (W : World) : (Instr.sliceAt 62 (.pointer (some ⟨a, 152, none⟩)) none (some (.int .i64 (n : Int))) none).run Tryd.prog W = .ok (.slice (some ⟨a, 152, none⟩) n 2) W := by
  have ha : Tryd.prog.arrayLen 62 = 2 := by kernel_rfl
  have := run_sliceAt_array_h (P := Tryd.prog) (w := W) (t := 62) (a := ⟨a, 152, none⟩) Tryd.underlying62 .i64 (n : Int) (by omega) (by rw [ha]; omega)
  rw [this, ha]
  rfl
set_option maxRecDepth 100000 in
theorem slice_txt (a n : Nat) (hn : n ≤ 1024) (W : World) : (Instr.sliceAt 63 (.pointer (some ⟨a, 156, none⟩)) none (some (.int .i64 (n : Int))) none).run Tryd.prog W = .ok (.slice (some ⟨a, 156, none⟩) n 1024) W := by
  have ha : Tryd.prog.arrayLen 63 = 1024 := by kernel_rfl
  have := run_sliceAt_array_h (P := Tryd.prog) (w := W) (t := 63) (a := ⟨a, 156, none⟩) Tryd.underlying63 .i64 (n : Int) (by omega) (by rw [ha]; omega)
  rw [this, ha]
  rfl
theorem get_u8 (l : List UInt8) (j : Nat) (h : j < l.length) : l[j].toNat = (l.getD j 0).toNat := by simp [List.getD, h]
theorem conv_mid {w : World} {a : Nat} {q : Q} {L : List EV} (h : IsP w a q L) (hm : q.mids.length ≤ 2) : (convert 90 9 (.slice (some ⟨a, 152, none⟩) q.mids.length 2)).run Tryd.prog w = .ok (.string (strK q.mids)) w :=
  run_convert_bytes_back (P := Tryd.prog) w 90 9 5 ⟨a, 152, none⟩ 2 q.mids Tryd.underlying90 Tryd.underlying5 Tryd.underlying9 (fun j hj => by
    obtain ⟨x, _, h1, h2⟩ := h.mid j (by omega)
    rw [P7.add_off, h1, h2 hj, get_u8 _ _ hj])
theorem conv_txt {w : World} {a : Nat} {q : Q} {L : List EV} (h : IsP w a q L) (hm : q.text.length ≤ 1024) : (convert 90 9 (.slice (some ⟨a, 156, none⟩) q.text.length 1024)).run Tryd.prog w = .ok (.string (strK q.text)) w :=
  run_convert_bytes_back (P := Tryd.prog) w 90 9 5 ⟨a, 156, none⟩ 1024 q.text Tryd.underlying90 Tryd.underlying5 Tryd.underlying9 (fun j hj => by
    obtain ⟨x, _, h1, h2⟩ := h.txt j (by omega)
    rw [P7.add_off, h1, h2 hj, get_u8 _ _ hj])

theorem mids_any {w : World} {a : Nat} {q : Q} {L : List EV} (h : IsP w a q L) (hm : q.mids.length ≤ 2) : Calls Tryd.prog 55 #[.pointer (some ⟨a, 6, none⟩)] w fun e w' => e = .returned (.string (strK q.mids)) ∧ ∃ j, w' = w.drewN j := by
  have c0 := h.col
  have k1 : ∀ j, (convert 90 9 (.slice (some ⟨a, 152, none⟩) q.mids.length 2)).run Tryd.prog (w.drewN j) = .ok (.string (strK q.mids)) (w.drewN j) := fun j => conv_mid (h.below (below_drew (Below.refl _ _) j)) hm
  have k2 : (convert 90 9 (.slice (some ⟨a, 152, none⟩) q.mids.length 2)).run Tryd.prog w.drew = .ok (.string (strK q.mids)) w.drew := k1 1
  have i1 := slice_mid a q.mids.length hm
  obtain ⟨n, hn⟩ : ∃ n, n = q.mids.length := ⟨_, rfl⟩
  obtain ⟨S, hS⟩ : ∃ S, S = strK q.mids := ⟨_, rfl⟩
  rw [← hn] at c0 k1 k2 i1 hm
  rw [← hS] at k1 k2 ⊢
  clear h hn hS
  go_enter Tryd.func55, Tryd.ntmps55
  go_wp2
  go_region
  go_wp2
  go_ret
  exact ⟨rfl, 1, rfl⟩
theorem words_any {w : World} {a : Nat} {q : Q} {L : List EV} (h : IsP w a q L) (hm : q.text.length ≤ 1024) : Calls Tryd.prog 53 #[.pointer (some ⟨a, 6, none⟩)] w fun e w' => e = .returned (.string (strK q.text)) ∧ ∃ j, w' = w.drewN j := by
  have c0 := h.siz
  have k1 : ∀ j, (convert 90 9 (.slice (some ⟨a, 156, none⟩) q.text.length 1024)).run Tryd.prog (w.drewN j) = .ok (.string (strK q.text)) (w.drewN j) := fun j => conv_txt (h.below (below_drew (Below.refl _ _) j)) hm
  have k2 : (convert 90 9 (.slice (some ⟨a, 156, none⟩) q.text.length 1024)).run Tryd.prog w.drew = .ok (.string (strK q.text)) w.drew := k1 1
  have i1 := slice_txt a q.text.length hm
  obtain ⟨n, hn⟩ : ∃ n, n = q.text.length := ⟨_, rfl⟩
  obtain ⟨S, hS⟩ : ∃ S, S = strK q.text := ⟨_, rfl⟩
  rw [← hn] at c0 k1 k2 i1 hm
  rw [← hS] at k1 k2 ⊢
  clear h hn hS
  go_enter Tryd.func53, Tryd.ntmps53
  go_wp2
  go_region
  go_wp2
  go_ret
  exact ⟨rfl, 1, rfl⟩

/-- put: an event more. -/
theorem put_any {w : World} {a : Nat} {q : Q} {L : List EV} (h : IsP w a q L) (e0 : EV) (k r f : Int) (M X : ByteArray) (A : Option Addr) (n c : Nat) (hv : evCells e0 A c = [.int .i64 k, .int .i32 r, .int .u8 f, .string M, .slice A n c, .string X]) (he : P7.TabT w A e0.params) (hf : Form A c e0.params) :
    Calls Tryd.prog 52 #[.pointer (some ⟨a, 1181, none⟩), .agg #[.int .i64 k, .int .i32 r, .int .u8 f, .string M, .slice A n c, .string X]] w (PStep w a q (L ++ [e0])) := by
  obtain ⟨F, B, c1, c2, hp⟩ := h.told
  have f2 := h.free 1182
  obtain hl := h.lt
  have HP : Hid (PStep w a q (L ++ [e0]) (.returned (.tuple #[])) (((w.setCell ⟨a, 1182, none⟩ (.pointer (some ⟨w.heap.size + 1, 0, none⟩))).alloc (.cells #[.int .i64 k, .int .i32 r, .int .u8 f, .string M, .slice A n c, .string X] 45)).alloc (.cells #[.int .i64 k, .int .i32 r, .int .u8 f, .string M, .slice A n c, .string X, .pointer B] 83)).drew) := Lib.hid (by
    have hs1 : ∀ o, 1182 < o + 1183 → o ≤ 1182 → Stirs a o 1183 w (((w.setCell ⟨a, 1182, none⟩ (.pointer (some ⟨w.heap.size + 1, 0, none⟩))).alloc (.cells #[.int .i64 k, .int .i32 r, .int .u8 f, .string M, .slice A n c, .string X] 45)).alloc (.cells #[.int .i64 k, .int .i32 r, .int .u8 f, .string M, .slice A n c, .string X, .pointer B] 83)).drew := fun o h1 h2 => ((((Stirs.refl a o 1183 w).set 1182 _ (by omega)).alloc _ hl).alloc _ hl).drew
    have hs2 : Stirs a 1182 1 w (((w.setCell ⟨a, 1182, none⟩ (.pointer (some ⟨w.heap.size + 1, 0, none⟩))).alloc (.cells #[.int .i64 k, .int .i32 r, .int .u8 f, .string M, .slice A n c, .string X] 45)).alloc (.cells #[.int .i64 k, .int .i32 r, .int .u8 f, .string M, .slice A n c, .string X, .pointer B] 83)).drew := ((((Stirs.refl a 1182 1 w).set 1182 _ (by omega)).alloc _ hl).alloc _ hl).drew
    refine ⟨rfl, h.putS (g := w.heap.size + 1) (c := c) c1 hp he hf hs2 ?_ ?_, hs1 0 (by omega) (by omega)⟩
    · show World.cell? (World.alloc (World.alloc _ _) _) _ = _
      rw [World.cell?_alloc_lt _ _ _ (by simp; omega), World.cell?_alloc_lt _ _ _ (by simpa using hl)]
      exact World.cell?_setCell_same _ _ _ c2
    · rw [hv]
      have := Deep.blk_alloc_new ((w.setCell ⟨a, 1182, none⟩ (.pointer (some ⟨w.heap.size + 1, 0, none⟩))).alloc (.cells #[.int .i64 k, .int .i32 r, .int .u8 f, .string M, .slice A n c, .string X] 45)) (.cells #[.int .i64 k, .int .i32 r, .int .u8 f, .string M, .slice A n c, .string X, .pointer B] 83)
      rw [show ((w.setCell ⟨a, 1182, none⟩ (.pointer (some ⟨w.heap.size + 1, 0, none⟩))).alloc (.cells #[.int .i64 k, .int .i32 r, .int .u8 f, .string M, .slice A n c, .string X] 45)).heap.size = w.heap.size + 1 by simp] at this
      exact this)
  clear h hp hv he hf c1
  go_enter Tryd.func52, Tryd.ntmps52
  go_wp2
  go_region
  go_wp2
  go_end0
  exact HP.out

theorem collect_any {w : World} {a : Nat} {q : Q} {L : List EV} (h : IsP w a q L) (b : UInt8) (hs : q.mids.length ≤ 1000000) :
    Calls Tryd.prog 59 #[.pointer (some ⟨a, 6, none⟩), .int .u8 (b.toNat : Int)] w (PStep w a { q with mids := q.mids ++ [b] } L) := by
  obtain ⟨n, hn⟩ : ∃ n, n = q.mids.length := ⟨_, rfl⟩
  have c0 : w.cell? ⟨a, 154, none⟩ = some (.int .i64 n) := by rw [h.col, hn]
  have f0 := h.free 154
  rw [← hn] at hs
  by_cases hl : n < 2
  · have d1 : decide ((n : Int) < 2) = true := by simp; omega
    have f1 := h.free (152 + n)
    obtain ⟨u1, c1⟩ := h.some_cell (i := 152 + n) (by omega)
    have ix : ∀ W : World, (Instr.indexAt 62 (.pointer (some ⟨a, 152, none⟩)) (.int .i64 (n : Int))).run Tryd.prog W = .ok (.pointer (some ⟨a, 152 + n, none⟩)) W := fun W => by
      have hl2 : Tryd.prog.arrayLen 62 = 2 := by kernel_rfl
      have hs : ∀ W : World, (sizeOf (Tryd.prog.elem 62)).run Tryd.prog W = .ok 1 W := fun W => by kernel_rfl
      rw [run_indexAt_array (P := Tryd.prog) W 62 ⟨a, 152, none⟩ .i64 n (by kernel_rfl), hl2, if_pos (by omega), hs]
      simp [Result.andThen, Addr.add]
    have HP : Hid (PStep w a { q with mids := q.mids ++ [b] } L (.returned (.tuple #[])) ((w.setCell ⟨a, 152 + n, none⟩ (.int .u8 b.toNat)).drew.setCell ⟨a, 154, none⟩ (.int .i64 ((n : Int) + 1)))) := Lib.hid
      ⟨rfl, ((h.setMid b hn hl).below (below_drew (Below.refl _ _) 1)), ((((Stirs.refl a 0 1183 w).set _ _ (by omega)).drew).set _ _ (by omega))⟩
    have c3 : (w.setCell ⟨a, 152 + n, none⟩ (.int .u8 b.toNat)).drew.cell? ⟨a, 154, none⟩ = some (.int .i64 n) := (World.cell?_setCell_other _ _ _ _ (by intro e; injection e with e1 e2; omega)).trans c0
    have f3 : (w.setCell ⟨a, 152 + n, none⟩ (.int .u8 b.toNat)).drew.frozen? ⟨a, 154, none⟩ = false := (World.frozen?_setCell _ _ _ _).trans f0
    clear h hn hl
    go_enter Tryd.func59, Tryd.ntmps59
    go_wp2
    go_region
    go_wp2
    go_end0
    exact HP.out
  · have d1 : decide ((n : Int) < 2) = false := by simp; omega
    have HP : ∀ j, Hid (PStep w a { q with mids := q.mids ++ [b] } L (.returned (.tuple #[])) ((w.drewN j).setCell ⟨a, 154, none⟩ (.int .i64 ((n : Int) + 1)))) := fun j => Lib.hid
      ⟨rfl, (h.below (below_drew (Below.refl _ _) j)).moreMid b hn (by omega), ((Stirs.refl a 0 1183 w).drewN j).set _ _ (by omega)⟩
    clear h hn hl
    go_enter Tryd.func59, Tryd.ntmps59
    go_wp2
    go_end0
    exact (HP 0).out

theorem text_any {w : World} {a : Nat} {q : Q} {L : List EV} (h : IsP w a q L) (b : UInt8) (hs : q.text.length ≤ 1000000) :
    Calls Tryd.prog 62 #[.pointer (some ⟨a, 6, none⟩), .int .u8 (b.toNat : Int)] w (PStep w a { q with text := q.text ++ [b] } L) := by
  obtain ⟨n, hn⟩ : ∃ n, n = q.text.length := ⟨_, rfl⟩
  have c0 : w.cell? ⟨a, 1180, none⟩ = some (.int .i64 n) := by rw [h.siz, hn]
  have f0 := h.free 1180
  rw [← hn] at hs
  by_cases hl : n < 1024
  · have d1 : decide ((n : Int) < 1024) = true := by simp; omega
    have f1 := h.free (156 + n)
    obtain ⟨u1, c1⟩ := h.some_cell (i := 156 + n) (by omega)
    have ix : ∀ W : World, (Instr.indexAt 63 (.pointer (some ⟨a, 156, none⟩)) (.int .i64 (n : Int))).run Tryd.prog W = .ok (.pointer (some ⟨a, 156 + n, none⟩)) W := fun W => by
      have hl2 : Tryd.prog.arrayLen 63 = 1024 := by kernel_rfl
      have hs : ∀ W : World, (sizeOf (Tryd.prog.elem 63)).run Tryd.prog W = .ok 1 W := fun W => by kernel_rfl
      rw [run_indexAt_array (P := Tryd.prog) W 63 ⟨a, 156, none⟩ .i64 n (by kernel_rfl), hl2, if_pos (by omega), hs]
      simp [Result.andThen, Addr.add]
    have HP : Hid (PStep w a { q with text := q.text ++ [b] } L (.returned (.tuple #[])) ((w.setCell ⟨a, 156 + n, none⟩ (.int .u8 b.toNat)).drew.setCell ⟨a, 1180, none⟩ (.int .i64 ((n : Int) + 1)))) := Lib.hid
      ⟨rfl, ((h.setTxt b hn hl).below (below_drew (Below.refl _ _) 1)), ((((Stirs.refl a 0 1183 w).set _ _ (by omega)).drew).set _ _ (by omega))⟩
    have c3 : (w.setCell ⟨a, 156 + n, none⟩ (.int .u8 b.toNat)).drew.cell? ⟨a, 1180, none⟩ = some (.int .i64 n) := (World.cell?_setCell_other _ _ _ _ (by intro e; injection e with e1 e2; omega)).trans c0
    have f3 : (w.setCell ⟨a, 156 + n, none⟩ (.int .u8 b.toNat)).drew.frozen? ⟨a, 1180, none⟩ = false := (World.frozen?_setCell _ _ _ _).trans f0
    clear h hn hl
    go_enter Tryd.func62, Tryd.ntmps62
    go_wp2
    go_region
    go_wp2
    go_end0
    exact HP.out
  · have d1 : decide ((n : Int) < 1024) = false := by simp; omega
    have HP : ∀ j, Hid (PStep w a { q with text := q.text ++ [b] } L (.returned (.tuple #[])) ((w.drewN j).setCell ⟨a, 1180, none⟩ (.int .i64 ((n : Int) + 1)))) := fun j => Lib.hid
      ⟨rfl, (h.below (below_drew (Below.refl _ _) j)).moreTxt b hn (by omega), ((Stirs.refl a 0 1183 w).drewN j).set _ _ (by omega)⟩
    clear h hn hl
    go_enter Tryd.func62, Tryd.ntmps62
    go_wp2
    go_end0
    exact (HP 0).out

theorem clear_seq {w : World} {a : Nat} {q : Q} {L : List EV} (h : IsP w a q L) :
    Calls Tryd.prog 34 #[.pointer (some ⟨a, 6, none⟩)] w (PStep w a { q with list := [], mids := [], text := [] } L) := by
  have HC := Lib.hid (P7.clear_any a 6 _ w h.par)
  have H := Lib.hid h
  clear h
  go_enter Tryd.func34, Tryd.ntmps34
  go_wp2_with fail
  refine (show Calls _ _ _ _ _ from HC.out).mono ?_
  rintro e w1 ⟨rfl, h1, h2⟩
  have h3 := H.out.pars (l := []) h2 h1
  have HP : Hid (PStep w a { q with list := [], mids := [], text := [] } L (.returned (.tuple #[])) ((w1.setCell ⟨a, 154, none⟩ (.int .i64 0)).setCell ⟨a, 1180, none⟩ (.int .i64 0))) := Lib.hid
    ⟨rfl, h3.setCol0.setSiz0, ((h2.wider (by omega) (by omega)).set _ _ (by omega)).set _ _ (by omega)⟩
  obtain ⟨u1, c1⟩ := h3.some_cell (i := 154) (by omega)
  obtain ⟨u2, c2⟩ := h3.some_cell (i := 1180) (by omega)
  have f1 := h3.free 154
  have f2 := h3.free 1180
  clear h1 h2 h3 H HC
  go_wp2
  go_end0
  exact HP.out
end Go.Proofs.YtkenaccnmmmooaaDoor
