/- Layer 5: small lemmas that all texts use; what unicode/utf8.FullRune answers. -/
import Derived.Test.YtkenaccnmmmooaaDoorProg
import Derived.WalkKit
import Derived.KernelRfl
import Derived.Lib.Hide
import Derived.Test.YtkenaccnmmmooaaDoorE5DcM
import Derived.Test.YtkenaccnmmmooaaDoorEvP
import Derived.Deep.QuietTactic
import Derived.BigQuiet
import Derived.IntWalk
namespace Go.Proofs.YtkenaccnmmmooaaDoor.D5
open Go.RowKit Go.Lib

theorem ret_bool {a b : Bool} (h : a = b) : Ending.returned (.bool a) = .returned (.bool b) := by rw [h]
theorem ret_int {k : IntKind} {a b : Int} (h : a = b) : Ending.returned (.int k a) = .returned (.int k b) := by rw [h]
theorem still_left {P : Program} {f : FuncId} {args : Array Value} {w : World} {n : Nat} {v : Value} (h : Calls P f args (w.drewN n) fun e w' => e = .returned v ∧ w.drewN n = w') :
    Calls P f args (w.drewN n) fun e w'' => e = .returned v ∧ ∃ m, w'' = w.drewN m := h.mono fun _ _ hh => ⟨hh.1, n, hh.2.symm⟩

theorem full_240 (a z n cap : Nat) (b0 X : Nat) (w : World) (hn : 1 ≤ n) (hm : n ≤ 4) (c0 : w.cell? ⟨a, z, none⟩ = some (.int .u8 b0)) (hb : b0 < 256) (hX : X = 240 ∨ X = 241 ∨ (X = 2 ∧ 2 ≤ n) ∨ ((X = 19 ∨ X = 3 ∨ X = 35) ∧ 3 ≤ n) ∨ ((X = 52 ∨ X = 4 ∨ X = 68) ∧ 4 ≤ n)) (ct : w.cell? ⟨2, b0, none⟩ = some (.int .u8 X)) :
    Calls Tryd.prog 71 #[.slice (some ⟨a, z, none⟩) n cap] w fun e w' => e = .returned (.bool true) ∧ w = w' := by
  rcases hX with rfl | rfl | ⟨rfl, _⟩ | ⟨rfl | rfl | rfl, _⟩ | ⟨rfl | rfl | rfl, _⟩
  all_goals
    go_enter Tryd.func71, Tryd.ntmps71
    go_wp2
    go_ret
    exact ⟨rfl, rfl⟩

/-- What lay stands behind the making of a block, and so does the block. -/
theorem alloc_cell {w : World} {a o : Nat} {v : Value} (h : w.cell? ⟨a, o, none⟩ = some v) (x : Obj) : (w.alloc x).cell? ⟨a, o, none⟩ = some v := by
  have hl : a < w.heap.size := by
    unfold World.cell? at h
    cases hx : w.heap[a]? with
    | none => simp [hx] at h
    | some y => exact (Array.getElem?_eq_some_iff.1 hx).1
  rw [World.cell?_of_block (w := w) (Below.heap_alloc w x a hl)]
  exact h

/-- A road that goes into the ranges: of one byte. -/
theorem full_one (a z cap : Nat) (b0 X lo hi : Nat) (w : World) (c0 : w.cell? ⟨a, z, none⟩ = some (.int .u8 b0)) (hb : b0 < 256) (hX : X < 256) (hs : 1 < X % 8) (ct : w.cell? ⟨2, b0, none⟩ = some (.int .u8 X))
    (cl : w.cell? ⟨3, X / 16 * 2, none⟩ = some (.int .u8 lo)) (ch : w.cell? ⟨3, X / 16 * 2 + 1, none⟩ = some (.int .u8 hi)) :
    Calls Tryd.prog 71 #[.slice (some ⟨a, z, none⟩) (1 : Nat) cap] w fun e w' => e = .returned (.bool false) ∧ Below w.heap.size w w' := by
    have hs' : ¬ ((1 : Int) ≥ (X : Int) % 8) := by omega
    go_enter Tryd.func71, Tryd.ntmps71
    go_wp2
    go_quiet (fail)
    go_wp2
    go_ret
    exact ⟨rfl, below_drew ((Below.refl _ _).alloc (Nat.le_refl _) _) _⟩

theorem full_2_low (a z cap : Nat) (b0 X lo hi : Nat) (w : World) (c0 : w.cell? ⟨a, z, none⟩ = some (.int .u8 b0)) (hb : b0 < 256) (hX : X < 256) (hs : 2 < X % 8) (ct : w.cell? ⟨2, b0, none⟩ = some (.int .u8 X))
    (cl : w.cell? ⟨3, X / 16 * 2, none⟩ = some (.int .u8 lo)) (ch : w.cell? ⟨3, X / 16 * 2 + 1, none⟩ = some (.int .u8 hi)) (b1 : Nat) (c1 : w.cell? ⟨a, z + 1, none⟩ = some (.int .u8 b1)) (h1 : b1 < lo) : Calls Tryd.prog 71 #[.slice (some ⟨a, z, none⟩) (2 : Nat) cap] w fun e w' => e = .returned (.bool true) ∧ Below w.heap.size w w' := by
    have hs' : ¬ ((2 : Int) ≥ (X : Int) % 8) := by omega
    have k1 : decide ((b1 : Int) < lo) = true := by simpa using h1
    go_enter Tryd.func71, Tryd.ntmps71
    go_wp2
    obtain ⟨W, hW⟩ : ∃ W, W = w.alloc (.cells #[.int .u8 lo, .int .u8 hi] 120) := ⟨_, rfl⟩
    obtain ⟨g, hg⟩ : ∃ g, g = w.heap.size := ⟨_, rfl⟩
    have d1 : W.cell? ⟨a, z + 1, none⟩ = some (.int .u8 b1) := hW ▸ alloc_cell c1 _
    have x0 : W.cell? ⟨g, 0, none⟩ = some (.int .u8 lo) := by rw [hW, hg]; simp
    have x1 : W.cell? ⟨g, 1, none⟩ = some (.int .u8 hi) := by rw [hW, hg]; simp
    have HB : Hid (Below w.heap.size w W) := Lib.hid (by rw [hW]; exact (Below.refl _ _).alloc (Nat.le_refl _) _)
    rw [← hW, ← hg]
    clear hW hg c0 c1 ct cl ch
    go_quiet (fail)
    go_wp2
    go_ret
    exact ⟨rfl, below_drew HB.out _⟩

theorem full_2_high (a z cap : Nat) (b0 X lo hi : Nat) (w : World) (c0 : w.cell? ⟨a, z, none⟩ = some (.int .u8 b0)) (hb : b0 < 256) (hX : X < 256) (hs : 2 < X % 8) (ct : w.cell? ⟨2, b0, none⟩ = some (.int .u8 X))
    (cl : w.cell? ⟨3, X / 16 * 2, none⟩ = some (.int .u8 lo)) (ch : w.cell? ⟨3, X / 16 * 2 + 1, none⟩ = some (.int .u8 hi)) (b1 : Nat) (c1 : w.cell? ⟨a, z + 1, none⟩ = some (.int .u8 b1)) (h1 : ¬ b1 < lo) (h2 : hi < b1) : Calls Tryd.prog 71 #[.slice (some ⟨a, z, none⟩) (2 : Nat) cap] w fun e w' => e = .returned (.bool true) ∧ Below w.heap.size w w' := by
    have hs' : ¬ ((2 : Int) ≥ (X : Int) % 8) := by omega
    have k1 : decide ((b1 : Int) < lo) = false := by simpa using h1
    have k2 : decide ((hi : Int) < b1) = true := by simpa using h2
    go_enter Tryd.func71, Tryd.ntmps71
    go_wp2
    obtain ⟨W, hW⟩ : ∃ W, W = w.alloc (.cells #[.int .u8 lo, .int .u8 hi] 120) := ⟨_, rfl⟩
    obtain ⟨g, hg⟩ : ∃ g, g = w.heap.size := ⟨_, rfl⟩
    have d1 : W.cell? ⟨a, z + 1, none⟩ = some (.int .u8 b1) := hW ▸ alloc_cell c1 _
    have x0 : W.cell? ⟨g, 0, none⟩ = some (.int .u8 lo) := by rw [hW, hg]; simp
    have x1 : W.cell? ⟨g, 1, none⟩ = some (.int .u8 hi) := by rw [hW, hg]; simp
    have HB : Hid (Below w.heap.size w W) := Lib.hid (by rw [hW]; exact (Below.refl _ _).alloc (Nat.le_refl _) _)
    rw [← hW, ← hg]
    clear hW hg c0 c1 ct cl ch
    go_quiet (fail)
    go_wp2
    go_ret
    exact ⟨rfl, below_drew HB.out _⟩

theorem full_2_in (a z cap : Nat) (b0 X lo hi : Nat) (w : World) (c0 : w.cell? ⟨a, z, none⟩ = some (.int .u8 b0)) (hb : b0 < 256) (hX : X < 256) (hs : 2 < X % 8) (ct : w.cell? ⟨2, b0, none⟩ = some (.int .u8 X))
    (cl : w.cell? ⟨3, X / 16 * 2, none⟩ = some (.int .u8 lo)) (ch : w.cell? ⟨3, X / 16 * 2 + 1, none⟩ = some (.int .u8 hi)) (b1 : Nat) (c1 : w.cell? ⟨a, z + 1, none⟩ = some (.int .u8 b1)) (h1 : ¬ b1 < lo) (h2 : ¬ hi < b1) : Calls Tryd.prog 71 #[.slice (some ⟨a, z, none⟩) (2 : Nat) cap] w fun e w' => e = .returned (.bool false) ∧ Below w.heap.size w w' := by
    have hs' : ¬ ((2 : Int) ≥ (X : Int) % 8) := by omega
    have k1 : decide ((b1 : Int) < lo) = false := by simpa using h1
    have k2 : decide ((hi : Int) < b1) = false := by simpa using h2
    go_enter Tryd.func71, Tryd.ntmps71
    go_wp2
    obtain ⟨W, hW⟩ : ∃ W, W = w.alloc (.cells #[.int .u8 lo, .int .u8 hi] 120) := ⟨_, rfl⟩
    obtain ⟨g, hg⟩ : ∃ g, g = w.heap.size := ⟨_, rfl⟩
    have d1 : W.cell? ⟨a, z + 1, none⟩ = some (.int .u8 b1) := hW ▸ alloc_cell c1 _
    have x0 : W.cell? ⟨g, 0, none⟩ = some (.int .u8 lo) := by rw [hW, hg]; simp
    have x1 : W.cell? ⟨g, 1, none⟩ = some (.int .u8 hi) := by rw [hW, hg]; simp
    have HB : Hid (Below w.heap.size w W) := Lib.hid (by rw [hW]; exact (Below.refl _ _).alloc (Nat.le_refl _) _)
    rw [← hW, ← hg]
    clear hW hg c0 c1 ct cl ch
    go_quiet (fail)
    go_wp2
    go_ret
    exact ⟨rfl, below_drew HB.out _⟩

theorem full_3_low (a z cap : Nat) (b0 X lo hi : Nat) (w : World) (c0 : w.cell? ⟨a, z, none⟩ = some (.int .u8 b0)) (hb : b0 < 256) (hX : X < 256) (hs : 3 < X % 8) (ct : w.cell? ⟨2, b0, none⟩ = some (.int .u8 X))
    (cl : w.cell? ⟨3, X / 16 * 2, none⟩ = some (.int .u8 lo)) (ch : w.cell? ⟨3, X / 16 * 2 + 1, none⟩ = some (.int .u8 hi)) (b1 : Nat) (c1 : w.cell? ⟨a, z + 1, none⟩ = some (.int .u8 b1)) (b2 : Nat) (c2 : w.cell? ⟨a, z + 2, none⟩ = some (.int .u8 b2)) (h1 : b1 < lo) : Calls Tryd.prog 71 #[.slice (some ⟨a, z, none⟩) (3 : Nat) cap] w fun e w' => e = .returned (.bool true) ∧ Below w.heap.size w w' := by
    have hs' : ¬ ((3 : Int) ≥ (X : Int) % 8) := by omega
    have k1 : decide ((b1 : Int) < lo) = true := by simpa using h1
    go_enter Tryd.func71, Tryd.ntmps71
    go_wp2
    obtain ⟨W, hW⟩ : ∃ W, W = w.alloc (.cells #[.int .u8 lo, .int .u8 hi] 120) := ⟨_, rfl⟩
    obtain ⟨g, hg⟩ : ∃ g, g = w.heap.size := ⟨_, rfl⟩
    have d1 : W.cell? ⟨a, z + 1, none⟩ = some (.int .u8 b1) := hW ▸ alloc_cell c1 _
    have d2 : W.cell? ⟨a, z + 2, none⟩ = some (.int .u8 b2) := hW ▸ alloc_cell c2 _
    have x0 : W.cell? ⟨g, 0, none⟩ = some (.int .u8 lo) := by rw [hW, hg]; simp
    have x1 : W.cell? ⟨g, 1, none⟩ = some (.int .u8 hi) := by rw [hW, hg]; simp
    have HB : Hid (Below w.heap.size w W) := Lib.hid (by rw [hW]; exact (Below.refl _ _).alloc (Nat.le_refl _) _)
    rw [← hW, ← hg]
    clear hW hg c0 c1 c2 ct cl ch
    go_quiet (fail)
    go_wp2
    go_ret
    exact ⟨rfl, below_drew HB.out _⟩

theorem full_3_high (a z cap : Nat) (b0 X lo hi : Nat) (w : World) (c0 : w.cell? ⟨a, z, none⟩ = some (.int .u8 b0)) (hb : b0 < 256) (hX : X < 256) (hs : 3 < X % 8) (ct : w.cell? ⟨2, b0, none⟩ = some (.int .u8 X))
    (cl : w.cell? ⟨3, X / 16 * 2, none⟩ = some (.int .u8 lo)) (ch : w.cell? ⟨3, X / 16 * 2 + 1, none⟩ = some (.int .u8 hi)) (b1 : Nat) (c1 : w.cell? ⟨a, z + 1, none⟩ = some (.int .u8 b1)) (b2 : Nat) (c2 : w.cell? ⟨a, z + 2, none⟩ = some (.int .u8 b2)) (h1 : ¬ b1 < lo) (h2 : hi < b1) : Calls Tryd.prog 71 #[.slice (some ⟨a, z, none⟩) (3 : Nat) cap] w fun e w' => e = .returned (.bool true) ∧ Below w.heap.size w w' := by
    have hs' : ¬ ((3 : Int) ≥ (X : Int) % 8) := by omega
    have k1 : decide ((b1 : Int) < lo) = false := by simpa using h1
    have k2 : decide ((hi : Int) < b1) = true := by simpa using h2
    go_enter Tryd.func71, Tryd.ntmps71
    go_wp2
    obtain ⟨W, hW⟩ : ∃ W, W = w.alloc (.cells #[.int .u8 lo, .int .u8 hi] 120) := ⟨_, rfl⟩
    obtain ⟨g, hg⟩ : ∃ g, g = w.heap.size := ⟨_, rfl⟩
    have d1 : W.cell? ⟨a, z + 1, none⟩ = some (.int .u8 b1) := hW ▸ alloc_cell c1 _
    have d2 : W.cell? ⟨a, z + 2, none⟩ = some (.int .u8 b2) := hW ▸ alloc_cell c2 _
    have x0 : W.cell? ⟨g, 0, none⟩ = some (.int .u8 lo) := by rw [hW, hg]; simp
    have x1 : W.cell? ⟨g, 1, none⟩ = some (.int .u8 hi) := by rw [hW, hg]; simp
    have HB : Hid (Below w.heap.size w W) := Lib.hid (by rw [hW]; exact (Below.refl _ _).alloc (Nat.le_refl _) _)
    rw [← hW, ← hg]
    clear hW hg c0 c1 c2 ct cl ch
    go_quiet (fail)
    go_wp2
    go_ret
    exact ⟨rfl, below_drew HB.out _⟩

theorem full_3_low2 (a z cap : Nat) (b0 X lo hi : Nat) (w : World) (c0 : w.cell? ⟨a, z, none⟩ = some (.int .u8 b0)) (hb : b0 < 256) (hX : X < 256) (hs : 3 < X % 8) (ct : w.cell? ⟨2, b0, none⟩ = some (.int .u8 X))
    (cl : w.cell? ⟨3, X / 16 * 2, none⟩ = some (.int .u8 lo)) (ch : w.cell? ⟨3, X / 16 * 2 + 1, none⟩ = some (.int .u8 hi)) (b1 : Nat) (c1 : w.cell? ⟨a, z + 1, none⟩ = some (.int .u8 b1)) (b2 : Nat) (c2 : w.cell? ⟨a, z + 2, none⟩ = some (.int .u8 b2)) (h1 : ¬ b1 < lo) (h2 : ¬ hi < b1) (h3 : b2 < 128) : Calls Tryd.prog 71 #[.slice (some ⟨a, z, none⟩) (3 : Nat) cap] w fun e w' => e = .returned (.bool true) ∧ Below w.heap.size w w' := by
    have hs' : ¬ ((3 : Int) ≥ (X : Int) % 8) := by omega
    have k1 : decide ((b1 : Int) < lo) = false := by simpa using h1
    have k2 : decide ((hi : Int) < b1) = false := by simpa using h2
    have k3 : decide ((b2 : Int) < 128) = true := by simp; omega
    go_enter Tryd.func71, Tryd.ntmps71
    go_wp2
    obtain ⟨W, hW⟩ : ∃ W, W = w.alloc (.cells #[.int .u8 lo, .int .u8 hi] 120) := ⟨_, rfl⟩
    obtain ⟨g, hg⟩ : ∃ g, g = w.heap.size := ⟨_, rfl⟩
    have d1 : W.cell? ⟨a, z + 1, none⟩ = some (.int .u8 b1) := hW ▸ alloc_cell c1 _
    have d2 : W.cell? ⟨a, z + 2, none⟩ = some (.int .u8 b2) := hW ▸ alloc_cell c2 _
    have x0 : W.cell? ⟨g, 0, none⟩ = some (.int .u8 lo) := by rw [hW, hg]; simp
    have x1 : W.cell? ⟨g, 1, none⟩ = some (.int .u8 hi) := by rw [hW, hg]; simp
    have HB : Hid (Below w.heap.size w W) := Lib.hid (by rw [hW]; exact (Below.refl _ _).alloc (Nat.le_refl _) _)
    rw [← hW, ← hg]
    clear hW hg c0 c1 c2 ct cl ch
    go_quiet (fail)
    go_wp2
    go_ret
    exact ⟨rfl, below_drew HB.out _⟩

theorem full_3_high2 (a z cap : Nat) (b0 X lo hi : Nat) (w : World) (c0 : w.cell? ⟨a, z, none⟩ = some (.int .u8 b0)) (hb : b0 < 256) (hX : X < 256) (hs : 3 < X % 8) (ct : w.cell? ⟨2, b0, none⟩ = some (.int .u8 X))
    (cl : w.cell? ⟨3, X / 16 * 2, none⟩ = some (.int .u8 lo)) (ch : w.cell? ⟨3, X / 16 * 2 + 1, none⟩ = some (.int .u8 hi)) (b1 : Nat) (c1 : w.cell? ⟨a, z + 1, none⟩ = some (.int .u8 b1)) (b2 : Nat) (c2 : w.cell? ⟨a, z + 2, none⟩ = some (.int .u8 b2)) (h1 : ¬ b1 < lo) (h2 : ¬ hi < b1) (_h3 : ¬ b2 < 128) (h4 : 191 < b2) : Calls Tryd.prog 71 #[.slice (some ⟨a, z, none⟩) (3 : Nat) cap] w fun e w' => e = .returned (.bool true) ∧ Below w.heap.size w w' := by
    have hs' : ¬ ((3 : Int) ≥ (X : Int) % 8) := by omega
    have k1 : decide ((b1 : Int) < lo) = false := by simpa using h1
    have k2 : decide ((hi : Int) < b1) = false := by simpa using h2
    have k3 : decide ((b2 : Int) < 128) = false := by simp; omega
    have k4 : decide ((191 : Int) < b2) = true := by simp; omega
    go_enter Tryd.func71, Tryd.ntmps71
    go_wp2
    obtain ⟨W, hW⟩ : ∃ W, W = w.alloc (.cells #[.int .u8 lo, .int .u8 hi] 120) := ⟨_, rfl⟩
    obtain ⟨g, hg⟩ : ∃ g, g = w.heap.size := ⟨_, rfl⟩
    have d1 : W.cell? ⟨a, z + 1, none⟩ = some (.int .u8 b1) := hW ▸ alloc_cell c1 _
    have d2 : W.cell? ⟨a, z + 2, none⟩ = some (.int .u8 b2) := hW ▸ alloc_cell c2 _
    have x0 : W.cell? ⟨g, 0, none⟩ = some (.int .u8 lo) := by rw [hW, hg]; simp
    have x1 : W.cell? ⟨g, 1, none⟩ = some (.int .u8 hi) := by rw [hW, hg]; simp
    have HB : Hid (Below w.heap.size w W) := Lib.hid (by rw [hW]; exact (Below.refl _ _).alloc (Nat.le_refl _) _)
    rw [← hW, ← hg]
    clear hW hg c0 c1 c2 ct cl ch
    go_quiet (fail)
    go_wp2
    go_ret
    exact ⟨rfl, below_drew HB.out _⟩

theorem full_3_in (a z cap : Nat) (b0 X lo hi : Nat) (w : World) (c0 : w.cell? ⟨a, z, none⟩ = some (.int .u8 b0)) (hb : b0 < 256) (hX : X < 256) (hs : 3 < X % 8) (ct : w.cell? ⟨2, b0, none⟩ = some (.int .u8 X))
    (cl : w.cell? ⟨3, X / 16 * 2, none⟩ = some (.int .u8 lo)) (ch : w.cell? ⟨3, X / 16 * 2 + 1, none⟩ = some (.int .u8 hi)) (b1 : Nat) (c1 : w.cell? ⟨a, z + 1, none⟩ = some (.int .u8 b1)) (b2 : Nat) (c2 : w.cell? ⟨a, z + 2, none⟩ = some (.int .u8 b2)) (h1 : ¬ b1 < lo) (h2 : ¬ hi < b1) (h3 : ¬ b2 < 128) (h4 : ¬ 191 < b2) : Calls Tryd.prog 71 #[.slice (some ⟨a, z, none⟩) (3 : Nat) cap] w fun e w' => e = .returned (.bool false) ∧ Below w.heap.size w w' := by
    have hs' : ¬ ((3 : Int) ≥ (X : Int) % 8) := by omega
    have k1 : decide ((b1 : Int) < lo) = false := by simpa using h1
    have k2 : decide ((hi : Int) < b1) = false := by simpa using h2
    have k3 : decide ((b2 : Int) < 128) = false := by simp; omega
    have k4 : decide ((191 : Int) < b2) = false := by simp; omega
    go_enter Tryd.func71, Tryd.ntmps71
    go_wp2
    obtain ⟨W, hW⟩ : ∃ W, W = w.alloc (.cells #[.int .u8 lo, .int .u8 hi] 120) := ⟨_, rfl⟩
    obtain ⟨g, hg⟩ : ∃ g, g = w.heap.size := ⟨_, rfl⟩
    have d1 : W.cell? ⟨a, z + 1, none⟩ = some (.int .u8 b1) := hW ▸ alloc_cell c1 _
    have d2 : W.cell? ⟨a, z + 2, none⟩ = some (.int .u8 b2) := hW ▸ alloc_cell c2 _
    have x0 : W.cell? ⟨g, 0, none⟩ = some (.int .u8 lo) := by rw [hW, hg]; simp
    have x1 : W.cell? ⟨g, 1, none⟩ = some (.int .u8 hi) := by rw [hW, hg]; simp
    have HB : Hid (Below w.heap.size w W) := Lib.hid (by rw [hW]; exact (Below.refl _ _).alloc (Nat.le_refl _) _)
    rw [← hW, ← hg]
    clear hW hg c0 c1 c2 ct cl ch
    go_quiet (fail)
    go_wp2
    go_ret
    exact ⟨rfl, below_drew HB.out _⟩

/-- What the library's two tables hold. -/
def Tabs (w : World) : Prop :=
  (∀ c, c < 256 → w.cell? ⟨2, c, none⟩ = some (.int .u8 (firstT c))) ∧
  (∀ i, i < 16 → w.cell? ⟨3, 2 * i, none⟩ = some (.int .u8 (accLo i)) ∧ w.cell? ⟨3, 2 * i + 1, none⟩ = some (.int .u8 (accHi i)))

theorem full_any (a z n cap : Nat) (b0 b1 b2 : Nat) (w : World) (hT : Tabs w) (hn : 1 ≤ n) (hm : n ≤ 4) (hb : b0 < 256) (c0 : w.cell? ⟨a, z, none⟩ = some (.int .u8 b0))
    (c1 : 1 < n → w.cell? ⟨a, z + 1, none⟩ = some (.int .u8 b1)) (c2 : 2 < n → w.cell? ⟨a, z + 2, none⟩ = some (.int .u8 b2)) :
    Calls Tryd.prog 71 #[.slice (some ⟨a, z, none⟩) n cap] w fun e w' => e = .returned (.bool (fullN n b0 b1 b2)) ∧ Below w.heap.size w w' := by
  have ct := hT.1 b0 hb
  have hX := first_nine b0
  by_cases hl : firstT b0 % 8 ≤ n
  · rw [fullN_long hl]
    refine (full_240 a z n cap b0 (firstT b0) w hn hm c0 hb ?_ ct).mono fun e w' ⟨h1, h2⟩ => ⟨h1, h2 ▸ Below.refl _ _⟩
    rcases hX with h | h | h | h | h | h | h | h | h <;> rw [h] at hl ⊢ <;> simp at hl ⊢ <;> omega
  · have hXl : firstT b0 < 256 := by rcases hX with h | h | h | h | h | h | h | h | h <;> omega
    obtain ⟨cl, ch⟩ := hT.2 (firstT b0 / 16) (by omega)
    rw [Nat.mul_comm] at cl ch
    obtain ⟨lo, hlo⟩ : ∃ lo, lo = accLo (firstT b0 / 16) := ⟨_, rfl⟩
    obtain ⟨hi, hhi⟩ : ∃ hi, hi = accHi (firstT b0 / 16) := ⟨_, rfl⟩
    rw [← hlo] at cl
    rw [← hhi] at ch
    have F : fullN n b0 b1 b2 = ((decide (1 < n) && (decide (b1 < lo) || decide (hi < b1))) || (decide (2 < n) && (decide (b2 < 128) || decide (191 < b2)))) := by
      simp [fullN, hl, hlo, hhi]
    rw [F]
    have h4 : firstT b0 % 8 ≤ 4 := by rcases hX with h | h | h | h | h | h | h | h | h <;> omega
    obtain rfl | rfl | rfl : n = 1 ∨ n = 2 ∨ n = 3 := by omega
    · simpa using full_one a z cap b0 _ lo hi w c0 hb hXl (by omega) ct cl ch
    · by_cases h1 : b1 < lo
      · simpa [h1] using full_2_low a z cap b0 _ lo hi w c0 hb hXl (by omega) ct cl ch b1 (c1 (by omega)) h1
      · by_cases h2 : hi < b1
        · simpa [h1, h2] using full_2_high a z cap b0 _ lo hi w c0 hb hXl (by omega) ct cl ch b1 (c1 (by omega)) h1 h2
        · simpa [h1, h2] using full_2_in a z cap b0 _ lo hi w c0 hb hXl (by omega) ct cl ch b1 (c1 (by omega)) h1 h2
    · by_cases h1 : b1 < lo
      · simpa [h1] using full_3_low a z cap b0 _ lo hi w c0 hb hXl (by omega) ct cl ch b1 (c1 (by omega)) b2 (c2 (by omega)) h1
      · by_cases h2 : hi < b1
        · simpa [h1, h2] using full_3_high a z cap b0 _ lo hi w c0 hb hXl (by omega) ct cl ch b1 (c1 (by omega)) b2 (c2 (by omega)) h1 h2
        · by_cases h3 : b2 < 128
          · simpa [h1, h2, h3] using full_3_low2 a z cap b0 _ lo hi w c0 hb hXl (by omega) ct cl ch b1 (c1 (by omega)) b2 (c2 (by omega)) h1 h2 h3
          · by_cases h4 : 191 < b2
            · simpa [h1, h2, h3, h4] using full_3_high2 a z cap b0 _ lo hi w c0 hb hXl (by omega) ct cl ch b1 (c1 (by omega)) b2 (c2 (by omega)) h1 h2 h3 h4
            · simpa [h1, h2, h3, h4] using full_3_in a z cap b0 _ lo hi w c0 hb hXl (by omega) ct cl ch b1 (c1 (by omega)) b2 (c2 (by omega)) h1 h2 h3 h4

end Go.Proofs.YtkenaccnmmmooaaDoor.D5
