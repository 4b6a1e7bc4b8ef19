/- Layer 7: a list in memory; addPart, addParam, addDigit. -/
import Derived.Test.YtkenaccnmmmooaaDoorProg
import Derived.WalkKit
import Derived.KernelRfl
import Derived.Lib.Hide
import Derived.Deep.QuietTactic
import Derived.BigQuiet
import Derived.Below
import Derived.OneCell
import Derived.Laws.Rows
import Derived.Deep.Heap
import Derived.Test.YtkenaccnmmmooaaDoorE7PaM
import Derived.Test.YtkenaccnmmmooaaDoorEvP
namespace Go.Proofs.YtkenaccnmmmooaaDoor.P7
open Go.RowKit Par

/-- The cells of a list: parts, sizes, how many parameters, over. -/
structure PM where
  P : Nat → Nat → Nat
  S : Nat → Nat
  n : Nat
  ov : Bool

def cellM (m : PM) (k : Nat) : Value := if k < 128 then .int .i64 (m.P (k / 8) (k % 8)) else if k < 144 then .int .i64 (m.S (k - 128)) else if k = 144 then .int .i64 m.n else .bool m.ov
def cellsM (m : PM) : Array Value := Array.ofFn fun k : Fin 146 => cellM m k

theorem cells_get (m : PM) {k : Nat} (h : k < 146) : (cellsM m)[k]? = some (cellM m k) := by simp [cellsM, h]
theorem cells_set (m m' : PM) (k : Nat) (v : Value) (hk : k < 146) (h1 : v = cellM m' k) (h : ∀ i, i < 146 → i ≠ k → cellM m i = cellM m' i) : (cellsM m).setIfInBounds k v = cellsM m' := by
  apply Array.ext
  · simp [cellsM]
  · intro i h2 h3
    have hi : i < 146 := by simpa [cellsM] using h3
    have hk' : k < (cellsM m).size := by simpa [cellsM] using hk
    by_cases e : k = i
    · subst e; simp [cellsM, h1]
    · rw [Array.getElem_setIfInBounds_ne (by simpa [cellsM] using hi) e]
      simpa [cellsM] using h i hi (fun e' => e e'.symm)

theorem cellM_part (m : PM) {i j : Nat} (hi : i < 16) (hj : j < 8) : cellM m (i * 8 + j) = .int .i64 (m.P i j) := by
  have h1 : i * 8 + j < 128 := by omega
  have h2 : (i * 8 + j) / 8 = i := by omega
  have h3 : (i * 8 + j) % 8 = j := by omega
  simp [cellM, h1, h2, h3]
theorem cellM_size (m : PM) {i : Nat} (hi : i < 16) : cellM m (128 + i) = .int .i64 (m.S i) := by
  have h1 : ¬ 128 + i < 128 := by omega
  have h2 : 128 + i < 144 := by omega
  simp only [cellM, h1, h2, if_false, if_true, Nat.add_sub_cancel_left]

/-- A list in memory, cell by cell, from cell f of block a on. -/
def PB (w : World) (a f : Nat) (m : PM) : Prop := Part w a f (cellsM m)
theorem cells_size (m : PM) : (cellsM m).size = 146 := by simp [cellsM]
theorem PB.at_ {w : World} {a f : Nat} {m : PM} (h : PB w a f m) {i : Nat} (hi : i < 146) : w.cell? ⟨a, f + i, none⟩ = some (cellM m i) := by rw [Part.cell h (by rw [cells_size]; exact hi), cells_get m hi]
theorem PB.part {w : World} {a f : Nat} {m : PM} (h : PB w a f m) {i j : Nat} (hi : i < 16) (hj : j < 8) : w.cell? ⟨a, f + i * 8 + j, none⟩ = some (.int .i64 (m.P i j)) := by rw [Nat.add_assoc, h.at_ (by omega), cellM_part m hi hj]
theorem PB.size {w : World} {a f : Nat} {m : PM} (h : PB w a f m) {i : Nat} (hi : i < 16) : w.cell? ⟨a, f + 128 + i, none⟩ = some (.int .i64 (m.S i)) := by rw [Nat.add_assoc, h.at_ (by omega), cellM_size m hi]
theorem PB.len {w : World} {a f : Nat} {m : PM} (h : PB w a f m) : w.cell? ⟨a, f + 144, none⟩ = some (.int .i64 m.n) := by rw [h.at_ (by omega)]; rfl
theorem PB.over {w : World} {a f : Nat} {m : PM} (h : PB w a f m) : w.cell? ⟨a, f + 145, none⟩ = some (.bool m.ov) := by rw [h.at_ (by omega)]; rfl
theorem PB.free {w : World} {a f : Nat} {m : PM} (h : PB w a f m) (i : Nat) : w.frozen? ⟨a, i, none⟩ = false := Part.free h i
theorem PB.lt {w : World} {a f : Nat} {m : PM} (h : PB w a f m) : a < w.heap.size := Part.lt h
theorem PB.set {w : World} {a f : Nat} {m : PM} (h : PB w a f m) (m' : PM) (k : Nat) (v : Value) (hk : k < 146) (h1 : v = cellM m' k) (h2 : ∀ i, i < 146 → i ≠ k → cellM m i = cellM m' i) : PB (w.setCell ⟨a, f + k, none⟩ v) a f m' := by
  have := Part.set h k v (by rw [cells_size]; exact hk)
  rw [cells_set m m' k v hk h1 h2] at this
  exact this
theorem PB.setOver {w : World} {a f : Nat} {m : PM} (h : PB w a f m) (b : Bool) : PB (w.setCell ⟨a, f + 145, none⟩ (.bool b)) a f { m with ov := b } := by
  refine h.set _ 145 _ (by omega) rfl fun i hi hne => ?_
  have : i < 144 ∨ i = 144 := by omega
  unfold cellM
  rcases this with h | h
  · simp [h]
  · subst h; rfl
theorem PB.setLen {w : World} {a f : Nat} {m : PM} (h : PB w a f m) (n : Nat) : PB (w.setCell ⟨a, f + 144, none⟩ (.int .i64 n)) a f { m with n := n } := by
  refine h.set _ 144 _ (by omega) rfl fun i hi hne => ?_
  unfold cellM
  simp [hne]
theorem PB.setSize {w : World} {a f : Nat} {m : PM} (h : PB w a f m) (k x : Nat) (hk : k < 16) : PB (w.setCell ⟨a, f + 128 + k, none⟩ (.int .i64 x)) a f { m with S := fun i => if i = k then x else m.S i } := by
  rw [Nat.add_assoc]
  refine h.set _ (128 + k) _ (by omega) ?_ fun i hi hne => ?_
  · rw [cellM_size _ hk]; simp
  · unfold cellM
    by_cases h1 : i < 128
    · simp [h1]
    · by_cases h2 : i < 144
      · have : ¬ i - 128 = k := by omega
        simp [h1, h2, this]
      · simp [h1, h2]
theorem PB.setPart {w : World} {a f : Nat} {m : PM} (h : PB w a f m) (k j x : Nat) (hk : k < 16) (hj : j < 8) : PB (w.setCell ⟨a, f + k * 8 + j, none⟩ (.int .i64 x)) a f { m with P := fun i l => if i = k ∧ l = j then x else m.P i l } := by
  rw [Nat.add_assoc]
  refine h.set _ (k * 8 + j) _ (by omega) ?_ fun i hi hne => ?_
  · rw [cellM_part _ hk hj]; simp
  · unfold cellM
    by_cases h1 : i < 128
    · have : ¬ (i / 8 = k ∧ i % 8 = j) := by omega
      simp [h1, this]
    · simp [h1]

theorem idx_size (a f k : Nat) (hk : k < 16) (W : World) : (Instr.indexAt 59 (.pointer (some ⟨a, f + 128, none⟩)) (.int .i64 (k : Int))).run Tryd.prog W = .ok (.pointer (some ⟨a, f + 128 + k, none⟩)) W := by
  have hl : Tryd.prog.arrayLen 59 = 16 := by kernel_rfl
  have hs : ∀ W : World, (sizeOf (Tryd.prog.elem 59)).run Tryd.prog W = .ok 1 W := fun W => by kernel_rfl
  rw [run_indexAt_array (P := Tryd.prog) W 59 ⟨a, f + 128, none⟩ .i64 k (by kernel_rfl), hl, if_pos (by omega), hs]
  simp [Result.andThen, Addr.add]
theorem idx_row (a f k : Nat) (hk : k < 16) (W : World) : (Instr.indexAt 58 (.pointer (some ⟨a, f, none⟩)) (.int .i64 (k : Int))).run Tryd.prog W = .ok (.pointer (some ⟨a, f + k * 8, none⟩)) W := by
  have hl : Tryd.prog.arrayLen 58 = 16 := by kernel_rfl
  have hs : ∀ W : World, (sizeOf (Tryd.prog.elem 58)).run Tryd.prog W = .ok 8 W := fun W => by kernel_rfl
  rw [run_indexAt_array (P := Tryd.prog) W 58 ⟨a, f, none⟩ .i64 k (by kernel_rfl), hl, if_pos (by omega), hs]
  simp [Result.andThen, Addr.add]
theorem idx_part (a b j : Nat) (hj : j < 8) (W : World) : (Instr.indexAt 37 (.pointer (some ⟨a, b, none⟩)) (.int .i64 (j : Int))).run Tryd.prog W = .ok (.pointer (some ⟨a, b + j, none⟩)) W := by
  have hl : Tryd.prog.arrayLen 37 = 8 := by kernel_rfl
  have hs : ∀ W : World, (sizeOf (Tryd.prog.elem 37)).run Tryd.prog W = .ok 1 W := fun W => by kernel_rfl
  rw [run_indexAt_array (P := Tryd.prog) W 37 ⟨a, b, none⟩ .i64 j (by kernel_rfl), hl, if_pos (by omega), hs]
  simp [Result.andThen, Addr.add]

/-- What a call does to a list. -/
def PPost (w : World) (a f : Nat) (m : PM) (e : Ending) (w' : World) : Prop := e = .returned (.tuple #[]) ∧ PB w' a f m ∧ Stirs a f 146 w w'

def partM (m : PM) (k : Nat) : PM := if m.S k = 8 then { m with ov := true } else { m with ov := false, S := fun i => if i = k then m.S k + 1 else m.S i }

theorem part_any (a f : Nat) (m : PM) (k : Nat) (hn : m.n = k + 1) (hk : k < 16) (w : World) (h : PB w a f m) (hs : m.S k ≤ 8) :
    Calls Tryd.prog 74 #[.pointer (some ⟨a, f, none⟩)] w (PPost w a f (partM m k)) := by
  obtain ⟨s, e⟩ : ∃ s, s = m.S k := ⟨_, rfl⟩
  have c0 := h.len
  have c1 := h.size hk
  have c2 := h.over
  have f1 := h.free (f + 128 + k)
  have f2 := h.free (f + 145)
  have d0 : w.cell? ⟨a, f + 144, none⟩ = some (.int .i64 ((k : Int) + 1)) := by rw [c0, hn]; rfl
  have ix := idx_size a f k hk
  clear c0
  rw [← e] at c1 hs
  by_cases h8 : s = 8
  · subst h8
    have HP : ∀ j, Hid (PPost w a f (partM m k) (.returned (.tuple #[])) ((w.drewN j).setCell ⟨a, f + 145, none⟩ (.bool true))) := fun j => Lib.hid (by
      unfold partM
      rw [if_pos e.symm]
      exact ⟨rfl, PB.setOver (w := w.drewN j) h true, ((Stirs.refl a f 146 w).drewN j).set _ _ (by omega)⟩)
    clear h hn e
    go_enter Tryd.func74, Tryd.ntmps74
    go_wp2
    go_quiet (fail)
    go_wp2
    go_end0
    exact (HP _).out
  · have d8 : ((s : Int) == 8) = false := by simp; omega
    have HP : ∀ j, Hid (PPost w a f (partM m k) (.returned (.tuple #[])) (((w.drewN j).setCell ⟨a, f + 145, none⟩ (.bool false)).setCell ⟨a, f + 128 + k, none⟩ (.int .i64 ((s : Int) + 1)))) := fun j => Lib.hid (by
      unfold partM
      rw [if_neg (by omega)]
      refine ⟨rfl, ?_, (((Stirs.refl a f 146 w).drewN j).set _ _ (by omega)).set _ _ (by omega)⟩
      rw [← e]
      exact PB.setSize (PB.setOver (w := w.drewN j) h false) k (s + 1) hk)
    clear h hn e h8
    go_enter Tryd.func74, Tryd.ntmps74
    go_wp2
    go_quiet (fail)
    go_wp2
    go_end0
    exact (HP _).out

def paramM (m : PM) : PM := if m.n = 16 then { m with ov := true } else { m with n := m.n + 1, ov := false, S := fun i => if i = m.n then 1 else m.S i }

theorem param_any (a f : Nat) (m : PM) (hn : m.n ≤ 16) (w : World) (h : PB w a f m) (hs : m.n < 16 → m.S m.n = 0) :
    Calls Tryd.prog 73 #[.pointer (some ⟨a, f, none⟩)] w (PPost w a f (paramM m)) := by
  obtain ⟨n, e⟩ : ∃ n, n = m.n := ⟨_, rfl⟩
  have c0 := h.len
  have c2 := h.over
  have f1 := h.free (f + 144)
  have f2 := h.free (f + 145)
  rw [← e] at c0 hn hs
  by_cases h8 : n = 16
  · subst h8
    have HP : Hid (PPost w a f (paramM m) (.returned (.tuple #[])) (w.setCell ⟨a, f + 145, none⟩ (.bool true))) := Lib.hid (by
      unfold paramM
      rw [if_pos e.symm]
      exact ⟨rfl, h.setOver true, (Stirs.refl a f 146 w).set _ _ (by omega)⟩)
    clear h hn hs e
    go_enter Tryd.func73, Tryd.ntmps73
    go_wp2
    go_end0
    exact HP.out
  · have d8 : ((n : Int) == 16) = false := by simp; omega
    have hlt : n < 16 := by omega
    obtain ⟨m1, e1⟩ : ∃ m1 : PM, m1 = { m with ov := false, n := n + 1 } := ⟨_, rfl⟩
    have H1 : Hid (PB ((w.setCell ⟨a, f + 145, none⟩ (.bool false)).setCell ⟨a, f + 144, none⟩ (.int .i64 ((n : Int) + 1))) a f m1) := Lib.hid (by
      rw [e1]
      exact (h.setOver false).setLen (n + 1))
    have HS : Hid (Stirs a f 146 w ((w.setCell ⟨a, f + 145, none⟩ (.bool false)).setCell ⟨a, f + 144, none⟩ (.int .i64 ((n : Int) + 1)))) := Lib.hid (((Stirs.refl a f 146 w).set _ _ (by omega)).set _ _ (by omega))
    have s0 := hs hlt
    have hq : partM m1 n = paramM m := by
      rw [e1]
      unfold partM paramM
      simp only
      rw [if_neg (by rw [s0]; omega), if_neg (by omega), s0, ← e]
    have HC := fun W (hW : PB W a f m1) => part_any a f m1 n (by rw [e1]) hlt W hW (by rw [e1]; show m.S n ≤ 8; omega)
    rw [hq] at HC
    have HC := Lib.hid HC
    clear h hn hs e h8 s0 hq e1
    go_enter Tryd.func73, Tryd.ntmps73
    go_wp2_with fail
    refine (HC.out _ H1.out).mono ?_
    rintro e w' ⟨rfl, h1, h2⟩
    have HP : Hid (PPost w a f (paramM m) (.returned (.tuple #[])) w') := Lib.hid ⟨rfl, h1, HS.out.trans h2⟩
    clear h1 h2
    go_wp2
    go_end0
    exact HP.out

def digitM (m : PM) (k j d : Nat) : PM := { m with P := fun i l => if i = k ∧ l = j then (if 9999 < 10 * m.P k j + d then 9999 else 10 * m.P k j + d) else m.P i l }

theorem digit_any (a f : Nat) (m : PM) (k j d : Nat) (hn : m.n = k + 1) (hk : k < 16) (hs : m.S k = j + 1) (hj : j < 8) (hp : m.P k j ≤ 9999) (hd : d < 256) (w : World) (h : PB w a f m) :
    Calls Tryd.prog 75 #[.pointer (some ⟨a, f, none⟩), .int .i64 (d : Int)] w (PPost w a f (digitM m k j d)) := by
  obtain ⟨x, e⟩ : ∃ x, x = m.P k j := ⟨_, rfl⟩
  have c0 := h.len
  have c1 := h.size hk
  have c3 := h.part hk hj
  have f3 := h.free (f + k * 8 + j)
  have d0 : w.cell? ⟨a, f + 144, none⟩ = some (.int .i64 ((k : Int) + 1)) := by rw [c0, hn]; rfl
  have d1 : w.cell? ⟨a, f + 128 + k, none⟩ = some (.int .i64 ((j : Int) + 1)) := by rw [c1, hs]; rfl
  rw [← e] at c3 hp
  have i1 := idx_size a f k hk
  have i2 := idx_row a f k hk
  have i3 := idx_part a (f + k * 8) j hj
  clear c0 c1
  by_cases h9 : 9999 < 10 * x + d
  · have HP : ∀ t, Hid (PPost w a f (digitM m k j d) (.returned (.tuple #[])) ((w.drewN t).setCell ⟨a, f + k * 8 + j, none⟩ (.int .i64 9999))) := fun t => Lib.hid (by
      unfold digitM
      rw [← e, if_pos h9]
      exact ⟨rfl, PB.setPart (w := w.drewN t) h k j 9999 hk hj, ((Stirs.refl a f 146 w).drewN t).set _ _ (by omega)⟩)
    clear h hn e
    go_enter Tryd.func75, Tryd.ntmps75
    go_wp2
    go_quiet (fail)
    go_wp2
    go_end0
    exact (HP _).out
  · have HP : ∀ t, Hid (PPost w a f (digitM m k j d) (.returned (.tuple #[])) ((w.drewN t).setCell ⟨a, f + k * 8 + j, none⟩ (.int .i64 ((x : Int) * 10 + (d : Int))))) := fun t => Lib.hid (by
      unfold digitM
      rw [← e, if_neg h9]
      have := PB.setPart (w := w.drewN t) h k j (10 * x + d) hk hj
      rw [show ((10 * x + d : Nat) : Int) = (x : Int) * 10 + (d : Int) by omega] at this
      exact ⟨rfl, this, ((Stirs.refl a f 146 w).drewN t).set _ _ (by omega)⟩)
    clear h hn e
    go_enter Tryd.func75, Tryd.ntmps75
    go_wp2
    go_quiet (fail)
    go_wp2
    go_end0
    exact (HP _).out
end Go.Proofs.YtkenaccnmmmooaaDoor.P7
