/- Layer 4: numbers in memory; New, Next, Given. -/
import Derived.Test.YtbknfbobidgkkaaDoorIdLB
import Derived.Laws.LoneSync
import Derived.IntWalk
import Derived.Deep.DeepCutAuto
namespace Go.Proofs.YtbknfbobidgkkaaDoor
open Go.RowKit Lat

/-- Numbers in memory: d their struct, g the counters' row, n labels, T what was given. -/
structure IsIds (w : World) (d g n : Nat) (T : Nat → Nat) : Prop where
  blk : w.heap[d]? = some (.cells #[.slice (some ⟨g, 0, none⟩) n n] 46 (0, 0))
  row : w.rowIs g 64 n (fun i => .int .i64 (T i : Nat))
  le : n ≤ 64

/-- Is it a label? -/
def labB (n : Nat) (a : Int) : Bool := decide (0 ≤ a) && decide (a < n)

theorem lab_true {n : Nat} {a : Int} (h : labB n a = true) : ∃ i : Nat, a = i ∧ i < n := by
  simp only [labB, Bool.and_eq_true, decide_eq_true_eq] at h
  exact ⟨a.toNat, by omega, by omega⟩
theorem lab_of {n i : Nat} (h : i < n) : labB n i = true := by simp [labB, h]

theorem IsIds.lt {w : World} {d g n : Nat} {T : Nat → Nat} (h : IsIds w d g n T) : d < w.heap.size ∧ g < w.heap.size := ⟨lt_of h.blk, h.row.lt⟩
theorem IsIds.ne {w : World} {d g n : Nat} {T : Nat → Nat} (h : IsIds w d g n T) : g ≠ d := row_ne h.row h.blk (by decide)

/-- What keeps the struct and the row keeps the numbers. -/
theorem IsIds.keep {w w' : World} {d g n : Nat} {T : Nat → Nat} (h : IsIds w d g n T) (hd : w'.heap[d]? = w.heap[d]?) (hg : w'.heap[g]? = w.heap[g]?) : IsIds w' d g n T := ⟨hd.trans h.blk, h.row.of_block hg, h.le⟩
theorem IsIds.below {w w' : World} {d g n : Nat} {T : Nat → Nat} (h : IsIds w d g n T) (hb : Below w.heap.size w w') : IsIds w' d g n T := h.keep (hb.block d h.lt.1) (hb.block g h.lt.2)
theorem IsIds.drewN {w : World} {d g n : Nat} {T : Nat → Nat} (h : IsIds w d g n T) (j : Nat) : IsIds (w.drewN j) d g n T := h.keep rfl rfl

/-- Only block g, and new blocks, have turned. -/
structure Stirs (g : Nat) (w w' : World) : Prop where
  os : w'.os = w.os
  tape : w'.tape = w.tape
  output : w'.output = w.output
  size : w.heap.size ≤ w'.heap.size
  block : ∀ k, k < w.heap.size → k ≠ g → w'.heap[k]? = w.heap[k]?

theorem Stirs.below {g B : Nat} {w0 w w' : World} (h : Stirs g w w') (hg : B ≤ g) (hb : Below B w0 w) (hs : B ≤ w.heap.size) : Below B w0 w' :=
  hb.trans ⟨h.os, h.tape, h.output, h.size, fun k hk => h.block k (by omega) (by omega)⟩

/-- One more given for a label. -/
def more (T : Nat → Nat) (a : Nat) : Nat → Nat := fun i => if i = a then T i + 1 else T i

theorem IsIds.more {w : World} {d g n : Nat} {T : Nat → Nat} (h : IsIds w d g n T) (a : Nat) :
    IsIds (w.setCell ⟨g, a, none⟩ (.int .i64 ((T a : Nat) + 1))) d g n (more T a) ∧ Stirs g w (w.setCell ⟨g, a, none⟩ (.int .i64 ((T a : Nat) + 1))) := by
  have hoth : ∀ k, k ≠ g → (w.setCell ⟨g, a, none⟩ (.int .i64 ((T a : Nat) + 1))).heap[k]? = w.heap[k]? := fun k hk => RowKit.Below.heap_setCell _ _ _ _ hk
  refine ⟨⟨(hoth d h.ne.symm).trans h.blk, (h.row.set a _).congr fun i _ => ?_, h.le⟩, rfl, rfl, rfl, by simp [World.setCell], fun k _ hk => hoth k hk⟩
  unfold Go.Proofs.YtbknfbobidgkkaaDoor.more
  by_cases e : i = a
  · subst e; simp
  · rw [if_neg e, if_neg e]

/-! ### The counters -/

theorem load_any (g i : Nat) (x : Int) (w : World) (c0 : w.cell? ⟨g, i, none⟩ = some (.int .i64 x)) :
    Calls Tryd.prog 31 #[.pointer (some ⟨g, i, none⟩)] w fun e w' => e = .returned (.int .i64 x) ∧ w = w' := by
  have hl := run_call_load (P := Tryd.prog) Tryd.func37 (by kernel_rfl) (by kernel_rfl) (by kernel_rfl) .i64 (by kernel_rfl) c0
  go_enter Tryd.func31, Tryd.ntmps31
  go_wp2
  go_ret
  exact ⟨rfl, rfl⟩

theorem add_any (g i : Nat) (x : Int) (w : World) (c0 : w.cell? ⟨g, i, none⟩ = some (.int .i64 x)) (f0 : w.frozen? ⟨g, i, none⟩ = false) (hx : 0 ≤ x ∧ x ≤ 1099511627776) :
    Calls Tryd.prog 30 #[.pointer (some ⟨g, i, none⟩), .int .i64 1] w fun e w' => e = .returned (.int .i64 (x + 1)) ∧ w' = w.setCell ⟨g, i, none⟩ (.int .i64 (x + 1)) := by
  have hl := run_call_add (P := Tryd.prog) Tryd.func36 (by kernel_rfl) (by kernel_rfl) (by kernel_rfl) .i64 (by kernel_rfl) (y := 1) (s := x + 1) c0 f0 (by simp [go_sem, IntWalk.i64_in (x + 1) (by omega)])
  go_enter Tryd.func30, Tryd.ntmps30
  go_wp2
  go_ret
  exact ⟨rfl, rfl⟩

/-! ### isLabel -/

theorem isLabel_nil (a : Int) (w : World) : Calls Tryd.prog 29 #[.pointer none, .int .i64 a] w fun e w' => e = .returned (.bool false) ∧ w = w' := by
  go_enter Tryd.func29, Tryd.ntmps29
  go_wp2
  go_ret
  exact ⟨rfl, rfl⟩

theorem isLabel_any (d n : Nat) (A : Option Addr) (a : Int) (w : World) (_ : n ≤ 64) (c0 : w.cell? ⟨d, 0, none⟩ = some (.slice A n n)) :
    Calls Tryd.prog 29 #[.pointer (some ⟨d, 0, none⟩), .int .i64 a] w fun e w' => e = .returned (.bool (labB n a)) ∧ w = w' := by
  by_cases h0 : 0 ≤ a
  · have E1 := Lib.hid (show labB n a = decide (a < n) by simp [labB, h0])
    have hd : decide (0 ≤ a) = true := by simpa using h0
    go_enter Tryd.func29, Tryd.ntmps29
    go_wp2
    go_ret
    exact ⟨ret_bool (by rw [E1.out]), rfl⟩
  · have E1 := Lib.hid (show labB n a = false by simp [labB, h0])
    have hd : decide (0 ≤ a) = false := by simpa using h0
    go_enter Tryd.func29, Tryd.ntmps29
    go_wp2
    go_ret
    exact ⟨ret_bool (by rw [E1.out]), rfl⟩

/-! ### Next, Given: of what is no label, of numbers of any kind -/

/-- Nil numbers, or some whose struct is there. -/
def Some0 (w : World) (v : Value) (n : Nat) : Prop := (v = .pointer none ∧ n = 0) ∨ ∃ d A, v = .pointer (some ⟨d, 0, none⟩) ∧ n ≤ 64 ∧ w.cell? ⟨d, 0, none⟩ = some (.slice A n n)

theorem isLabel_not (v : Value) (n : Nat) (a : Int) (w : World) (h : Some0 w v n) (hl : labB n a = false) :
    Calls Tryd.prog 29 #[v, .int .i64 a] w fun e w' => e = .returned (.bool false) ∧ w = w' := by
  rcases h with ⟨rfl, rfl⟩ | ⟨d, A, rfl, hn, hc⟩
  · exact isLabel_nil a w
  · exact hl ▸ isLabel_any d n A a w hn hc

theorem next_not (v : Value) (n : Nat) (a : Int) (w : World) (h : Some0 w v n) (hl : labB n a = false) :
    Calls Tryd.prog 16 #[v, .int .i64 a] w fun e w' => e = .returned (.tuple #[.int .i64 0, .bool false]) ∧ w = w' := by
  have H := Lib.hid (isLabel_not v n a w h hl)
  clear h hl
  go_enter Tryd.func16, Tryd.ntmps16
  go_wp2_with fail
  refine H.out.mono ?_
  rintro e w' ⟨rfl, rfl⟩
  go_wp2
  go_ret2
  exact ⟨rfl, rfl⟩

theorem given_not (v : Value) (n : Nat) (a : Int) (w : World) (h : Some0 w v n) (hl : labB n a = false) :
    Calls Tryd.prog 17 #[v, .int .i64 a] w fun e w' => e = .returned (.int .i64 0) ∧ w = w' := by
  have H := Lib.hid (isLabel_not v n a w h hl)
  clear h hl
  go_enter Tryd.func17, Tryd.ntmps17
  go_wp2_with fail
  refine H.out.mono ?_
  rintro e w' ⟨rfl, rfl⟩
  go_wp2
  go_ret
  exact ⟨rfl, rfl⟩

theorem IsIds.cell {w : World} {d g n : Nat} {T : Nat → Nat} (h : IsIds w d g n T) : w.cell? ⟨d, 0, none⟩ = some (.slice (some ⟨g, 0, none⟩) n n) := by rw [cell_of h.blk]; rfl
theorem IsIds.some {w : World} {d g n : Nat} {T : Nat → Nat} (h : IsIds w d g n T) : Some0 w (.pointer (some ⟨d, 0, none⟩)) n := Or.inr ⟨d, _, rfl, h.le, h.cell⟩

/-- What Given answers of a label. -/
theorem given_lab (d g n i : Nat) (T : Nat → Nat) (w : World) (h : IsIds w d g n T) (hi : i < n) :
    Calls Tryd.prog 17 #[.pointer (some ⟨d, 0, none⟩), .int .i64 i] w fun e w' => e = .returned (.int .i64 (T i : Nat)) ∧ w = w' := by
  have HL := Lib.hid (isLabel_any d n _ i w h.le h.cell)
  have E := Lib.hid (lab_of hi)
  have c0 := h.cell
  have hn := h.le
  have HC := Lib.hid (load_any g i (T i) w (h.row.cell hi))
  clear h
  go_enter Tryd.func17, Tryd.ntmps17
  go_wp2_with fail
  refine HL.out.mono ?_
  rintro e w' ⟨rfl, rfl⟩
  have e1 := E.out
  go_wp2_with fail
  refine HC.out.mono ?_
  rintro e w' ⟨rfl, rfl⟩
  go_wp2
  go_ret
  exact ⟨rfl, rfl⟩

/-- What Next answers of a label. -/
def NextPost (w : World) (d g n : Nat) (T : Nat → Nat) (i : Nat) (e : Ending) (w' : World) : Prop :=
  e = .returned (.tuple #[.int .i64 (T i : Nat), .bool true]) ∧ IsIds w' d g n (more T i) ∧ Stirs g w w'

theorem next_lab (d g n i : Nat) (T : Nat → Nat) (w : World) (h : IsIds w d g n T) (hi : i < n) (hT : T i ≤ 1000000) :
    Calls Tryd.prog 16 #[.pointer (some ⟨d, 0, none⟩), .int .i64 i] w (NextPost w d g n T i) := by
  have HL := Lib.hid (isLabel_any d n _ i w h.le h.cell)
  have E := Lib.hid (lab_of hi)
  have c0 := h.cell
  have hn := h.le
  have HC := Lib.hid (add_any g i (T i) w (h.row.cell hi) (h.row.frozen i) (by omega))
  have HM := Lib.hid (h.more i)
  clear h
  go_enter Tryd.func16, Tryd.ntmps16
  go_wp2_with fail
  refine HL.out.mono ?_
  rintro e w' ⟨rfl, rfl⟩
  have e1 := E.out
  go_wp2_with fail
  refine HC.out.mono ?_
  rintro e w' ⟨rfl, rfl⟩
  go_wp2
  go_ret2
  exact ⟨rfl, HM.out⟩

/-! ### New -/

def NewPost (w : World) (n : Nat) (e : Ending) (w' : World) : Prop := ∃ d g, e = .returned (.pointer (some ⟨d, 0, none⟩)) ∧ w.heap.size ≤ d ∧ w.heap.size ≤ g ∧ IsIds w' d g n (fun _ => 0) ∧ Below w.heap.size w w'

theorem info_count : (Tryd.prog.info? 64).map (fun i => (i.zero, i.size, i.bytes)) = some (some (.agg #[.int .i64 0]), 1, 8) := by kernel_rfl

theorem make_counts (n : Nat) (hn : n ≤ 64) (w : World) :
    (Instr.makeSlice 44 (.int .i64 (n : Int)) (.int .i64 (n : Int))).run Tryd.prog w = .ok (.slice (some ⟨w.heap.size, 0, none⟩) n n) (w.alloc (.cells (madeCells #[.int .i64 0] n) 64)) := by
  obtain ⟨i, hi, hzz⟩ := Option.map_eq_some_iff.1 info_count
  simp only [Prod.mk.injEq] at hzz
  obtain ⟨hz, hs, hb⟩ := hzz
  have hr := run_make (P := Tryd.prog) w 44 64 i _ Tryd.underlying44 hi hz .i64 .i64 n n (by omega) (Int.le_refl _) (by rw [hb]; omega) (by omega)
  simp only [Int.toNat_natCast, hs, Nat.mul_one] at hr
  exact hr

theorem new_of (n : Nat) (v : Value) (w : World) (hn : n ≤ 64) (hL : Calls Tryd.prog 28 #[v] w fun e w' => e = .returned (.int .i64 n) ∧ w = w') (hv : ∃ A, v = .pointer A) :
    Calls Tryd.prog 15 #[v] w (NewPost w n) := by
  obtain ⟨A, rfl⟩ := hv
  have HL := Lib.hid hL
  have hmk := make_counts n hn
  have hn' := Lib.hid hn
  clear hL hn
  go_enter Tryd.func15, Tryd.ntmps15
  go_wp2_with fail
  refine HL.out.mono ?_
  rintro e w' ⟨rfl, rfl⟩
  go_wp2
  go_ret
  have r0 := (World.rowIs_made w (.int .i64 0) n 64).alloc (.cells #[.slice (some ⟨w.heap.size, 0, none⟩) n n] 46)
  have b0 := Deep.blk_alloc_new (w.alloc (.cells (madeCells #[.int .i64 0] n) 64)) (.cells #[.slice (some ⟨w.heap.size, 0, none⟩) n n] 46)
  simp only [World.size_alloc] at b0
  exact ⟨w.heap.size + 1, w.heap.size, by simp, by omega, Nat.le_refl _, ⟨b0, r0, hn'.out⟩, ((Below.refl _ w).alloc (Nat.le_refl _) _).alloc (by simp) _⟩

theorem new_any (lb n : Nat) (T : Nat → Nat → Bool) (w : World) (h : IsLat w lb n T) : Calls Tryd.prog 15 #[.pointer (some ⟨lb, 0, none⟩)] w (NewPost w n) := by
  have hn : n ≤ 64 := by obtain ⟨_, _, _, _, _, h⟩ := h; exact h.le
  exact new_of n _ w hn (len_any lb n T w h) ⟨_, rfl⟩

theorem new_nil (w : World) : Calls Tryd.prog 15 #[.pointer none] w (NewPost w 0) := new_of 0 _ w (by omega) (len_nil w) ⟨_, rfl⟩

end Go.Proofs.YtbknfbobidgkkaaDoor
