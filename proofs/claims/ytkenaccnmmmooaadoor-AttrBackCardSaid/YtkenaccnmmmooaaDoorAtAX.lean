/- Layer 10: lists of parameters in memory; what the document's small functions tell. Layer 10: the document's bit and short. Layer 10: the document's digits, says, Right, Between. Layer 10: the document's Right and Between. -/
import Derived.Test.YtkenaccnmmmooaaDoorProg
import Derived.Test.YtkenaccnmmmooaaDoorAtM
import Derived.WalkKit
import Derived.Below
import Derived.LoopTactic
import Derived.IntWalk
import Derived.Deep.Heap
import Derived.BigQuiet
import Derived.Deep.QuietTactic
import Derived.Deep.RegionHeld3
import Derived.Laws.BitsAll
/-! ## Layer 10: lists of parameters in memory; what the document's small functions tell. -/
set_option linter.unusedVariables false
namespace Go.Proofs.YtkenaccnmmmooaaDoor.A10
open Go.RowKit Sgr

def coA (c : Co) : Value := .agg #[.int .u8 c.kind, .int .u32 c.n]
def atA (a : At) : Value := .agg #[.int .u16 a.fl, .int .u8 a.fg.kind, .int .u32 a.fg.n, .int .u8 a.bg.kind, .int .u32 a.bg.n]

/-- A parameter in memory. -/
def RowL (w : World) (A : Option Addr) (p : List Int) : Prop := ∀ c, c < p.length → ∃ a, A = some a ∧ w.cell? (a.add c) = some (.int .i64 (partV p c)) ∧ -9223372036854775808 ≤ partV p c ∧ partV p c ≤ 9223372036854775807
/-- A list of parameters in memory. -/
def TabL (w : World) (A : Option Addr) (l : List (List Int)) : Prop := ∀ r, r < l.length → ∃ a A' C, A = some a ∧ w.cell? (a.add r) = some (.slice A' (l.getD r []).length C) ∧ ((l.getD r []).length ≤ C ∧ C ≤ 9223372036854775807) ∧ RowL w A' (l.getD r [])
theorem cell_lt {w : World} {p : Addr} {v : Value} (h : w.cell? p = some v) : p.block < w.heap.size := World.block_lt_of_cell? w p h
theorem addL_block (a : Addr) (n : Nat) : (a.add n).block = a.block := by unfold Addr.add; split <;> rfl
theorem RowL.below {w w' : World} {A : Option Addr} {p : List Int} (h : RowL w A p) (hb : Below w.heap.size w w') : RowL w' A p := fun c hc => by
  obtain ⟨a, e, h1, h2⟩ := h c hc
  exact ⟨a, e, (hb.cell (cell_lt h1)).trans h1, h2⟩
theorem TabL.below {w w' : World} {A : Option Addr} {l : List (List Int)} (h : TabL w A l) (hb : Below w.heap.size w w') : TabL w' A l := fun r hr => by
  obtain ⟨a, A', C, e, h1, h2, h3⟩ := h r hr
  exact ⟨a, A', C, e, (hb.cell (cell_lt h1)).trans h1, h2, h3.below hb⟩

end Go.Proofs.YtkenaccnmmmooaaDoor.A10

/-! ## Layer 10: the document's bit and short. -/
set_option linter.unusedVariables false
namespace Go.Proofs.YtkenaccnmmmooaaDoor.A10
open Go.RowKit Sgr

theorem pow_le {k n : Nat} (h : k < n) (h5 : n ≤ 5) : 2 ^ (k - 1) ≤ 8 := by
  have : k - 1 ≤ 3 := by omega
  exact Nat.le_trans (Nat.pow_le_pow_right (by decide) this) (by decide)
/-! ### short -/
end Go.Proofs.YtkenaccnmmmooaaDoor.A10

/-! ## Layer 10: the document's digits, says, Right, Between. -/
set_option linter.unusedVariables false
namespace Go.Proofs.YtkenaccnmmmooaaDoor.A10
open Go.RowKit Sgr

def strL (l : List UInt8) : ByteArray := ⟨l.toArray⟩
theorem str_add (a b : List UInt8) : strL a ++ strL b = strL (a ++ b) := by
  apply ByteArray.ext
  simp [strL, ByteArray.data_append]
theorem str_size (l : List UInt8) : (strL l).size = l.length := by simp [strL, ByteArray.size]
theorem digits_len (k : Nat) : ∀ n, n < 10 ^ (k + 1) → (Lib.decDigits n).length ≤ k + 1 := by
  induction k with
  | zero => intro n hn; rw [Lib.decDigits_one (by simpa using hn)]; simp
  | succ k ih =>
    intro n hn
    by_cases h : n < 10
    · rw [Lib.decDigits_one h]; simp
    · rw [Lib.decDigits, dif_neg h, List.length_append]
      have := ih (n / 10) (by rw [Nat.pow_succ] at hn; omega)
      simp
      omega
theorem digits_ten {n : Nat} (h : n < 4294967296) : (Lib.decDigits n).length ≤ 10 := digits_len 9 n (by omega)

theorem digit_chars (n : Nat) (hn : n < 10) (c : UInt8) (hcc : c = UInt8.ofNat (48 + n)) (w : World) :
    (convert 90 9 (.slice (some ⟨w.heap.size, 0, none⟩) 1 1)).run Tryd.prog (w.alloc (.cells #[.int .u8 (48 + (n : Int))] 5)) = .ok (.string ⟨#[c]⟩) (w.alloc (.cells #[.int .u8 (48 + (n : Int))] 5)) := by
  exact run_convert_bytes_back (P := Tryd.prog) _ 90 9 5 ⟨w.heap.size, 0, none⟩ 1 [c] Tryd.underlying90 Tryd.underlying5 Tryd.underlying9 (fun j hj => by
    have hj0 : j = 0 := by simpa using hj
    subst hj0
    have e : (c.toNat : Int) = 48 + (n : Int) := by rw [hcc]; simp; omega
    simp only [List.getElem_cons_zero]
    rw [e]
    simp [Addr.add])
/-- A box that a call makes. -/
theorem cell_of {w : World} {b : Nat} {c : Array Value} {t : TypeId} (h : w.heap[b]? = some (.cells c t (0, 0))) (i : Nat) : w.cell? ⟨b, i, none⟩ = c[i]? := by
  simp [World.cell?, h]
theorem box_cell (w : World) (c : Array Value) (t : TypeId) (i : Nat) (v : Value) (hi : c[i]? = some v) : (w.alloc (.cells c t)).cell? ⟨w.heap.size, i, none⟩ = some v := (cell_of (Deep.blk_alloc_new _ _) i).trans hi
theorem still_left {P : Program} {f : FuncId} {args : Array Value} {w : World} {n : Nat} {v : Value} (h : Calls P f args (w.drewN n) fun e w' => e = .returned v ∧ w.drewN n = w') :
    Calls P f args (w.drewN n) fun e w'' => e = .returned v ∧ ∃ m, w'' = w.drewN m := h.mono fun _ _ hh => ⟨hh.1, n, hh.2.symm⟩
theorem below_drew {B : Nat} {a w : World} (h : Below B a w) (n : Nat) : Below B a (w.drewN n) := ⟨h.os, h.tape, h.output, h.size, h.block⟩
end Go.Proofs.YtkenaccnmmmooaaDoor.A10

/-! ## Layer 10: the document's Right and Between. -/
set_option linter.unusedVariables false
namespace Go.Proofs.YtkenaccnmmmooaaDoor.A10
open Go.RowKit Sgr

/-! ### Between -/
/-- The numbers of flags below k. -/
def setsK (f k : Nat) : List Nat := (List.range k).filter fun (n : Nat) => f &&& bitV (n : Int) != 0
theorem sets_end (f : Nat) : setsK f 10 = setsV f := by
  have e : List.range 10 = [0, 1, 2, 3, 4, 5, 6, 7, 8, 9] := rfl
  have e0 : bitV ((0 : Nat) : Int) = 0 := rfl
  have e6 : bitV ((6 : Nat) : Int) = 0 := rfl
  unfold setsK setsV flagsN
  rw [e]
  simp only [List.filter_cons, e0, e6, Nat.and_zero, bne_self_eq_false, Bool.false_eq_true, if_false]
theorem sets_one (f : Nat) : setsK f 1 = [] := by
  have e0 : bitV 0 = 0 := rfl
  simp [setsK, List.range_succ, e0]
theorem sets_yes {f k : Nat} (h : f &&& bitV (k : Int) ≠ 0) : setsK f (k + 1) = setsK f k ++ [k] := by
  simp [setsK, List.range_succ, List.filter_append, h]
theorem sets_no {f k : Nat} (h : f &&& bitV (k : Int) = 0) : setsK f (k + 1) = setsK f k := by
  simp [setsK, List.range_succ, List.filter_append, h]
theorem setsK_len (f k : Nat) : (setsK f k).length ≤ k := Nat.le_trans (List.length_filter_le _ _) (by simp)
theorem setsK_lt (f k : Nat) : ∀ n ∈ setsK f k, n < k := fun n hn => by simpa using (List.mem_filter.1 hn).1
theorem flagT_len : ∀ (l : List Nat), (∀ n ∈ l, n < 10) → (flagT l).length = 2 * l.length
  | [], _ => rfl
  | n :: l, h => by
    have h1 := flagT_len l fun x hx => h x (List.mem_cons_of_mem _ hx)
    have e : flagT (n :: l) = (59 :: Lib.decDigits n) ++ flagT l := by simp [flagT]
    rw [e, Lib.decDigits_one (h n (List.mem_cons_self ..)), List.length_append, h1]
    simp; omega
/-- What is said so far. -/
def soT (f k : Nat) : List UInt8 := [27, 91, 48] ++ flagT (setsK f k)
theorem so_len {f k : Nat} (hk : k ≤ 10) : (soT f k).length ≤ 30 := by
  have h1 := flagT_len (setsK f k) fun n hn => Nat.lt_of_lt_of_le (setsK_lt f k n hn) hk
  have h2 := setsK_len f k
  unfold soT
  rw [List.length_append, h1]
  simp; omega
theorem so_yes {f k : Nat} (h : f &&& bitV (k : Int) ≠ 0) : strL (soT f (k + 1)) = strL (soT f k) ++ ⟨#[59]⟩ ++ strL (Lib.decDigits k) := by
  unfold soT
  rw [sets_yes h]
  apply ByteArray.ext
  simp [strL, flagT, ByteArray.data_append]
theorem so_no {f k : Nat} (h : f &&& bitV (k : Int) = 0) : soT f (k + 1) = soT f k := by unfold soT; rw [sets_no h]
theorem so_end (b : At) : strL (saysT b) = strL (soT b.fl 10) ++ strL (colT 38 b.fg) ++ strL (colT 48 b.bg) ++ ⟨#[109]⟩ := by
  unfold soT saysT
  rw [sets_end]
  apply ByteArray.ext
  simp [strL, ByteArray.data_append]
theorem col_size (m : Nat) (hm : m < 100) (c : Co) (hc : CoOk c) : (strL (colT m c)).size ≤ 60 := by
  rw [str_size]
  have s1 := digits_ten (n := m) (by omega)
  have s2 := digits_ten (n := c.n) hc.2
  have s3 := digits_ten (n := c.n / 65536) (by have := hc.2; omega)
  have s4 := digits_ten (n := c.n / 256 % 256) (by omega)
  have s5 := digits_ten (n := c.n % 256) (by omega)
  unfold colT
  split
  · simp; omega
  split
  · simp; omega
  · simp

theorem eq_attr (a b : At) (w : World) : (binOp .eql 27 (atA a) (atA b)).run Tryd.prog w = .ok (.bool (decide (a = b))) w := by
  obtain ⟨f, ⟨k, n⟩, ⟨l, m⟩⟩ := a
  obtain ⟨f', ⟨k', n'⟩, ⟨l', m'⟩⟩ := b
  unfold atA
  dsimp only
  go_simp
  by_cases h1 : f = f'
  · by_cases h2 : k = k'
    · by_cases h3 : n = n'
      · by_cases h4 : l = l'
        · by_cases h5 : m = m'
          · simp [h1, h2, h3, h4, h5]
          · have g : ¬ (m : Int) = m' := by omega
            simp [h1, h2, h3, h4, h5, g]
        · have g : ¬ (l : Int) = l' := by omega
          simp [h1, h2, h3, h4, g]
      · have g : ¬ (n : Int) = n' := by omega
        simp [h1, h2, h3, g]
    · have g : ¬ (k : Int) = k' := by omega
      simp [h1, h2, g]
  · have g : ¬ (f : Int) = f' := by omega
    simp [h1, g]

theorem and_u16 (a b : Nat) (ha : a < 65536) (hb : b < 65536) : bits .and .u16 (a : Int) (b : Int) = ((a &&& b : Nat) : Int) := by
  simpa using u16_and a b (by omega) (by omega) (by omega) (by omega)

end Go.Proofs.YtkenaccnmmmooaaDoor.A10
