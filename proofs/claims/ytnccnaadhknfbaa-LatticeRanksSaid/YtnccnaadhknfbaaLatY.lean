/- Layer 1: the document's Rank, the table built row by row: what stands in memory. -/
import Derived.Test.YtnccnaadhknfbaaLatX
namespace Go.Proofs.Ytnccnaadhknfbaa
open Go.RowKit Lat

/-- A square table, all of it from block lo on. -/
def GridIn (w : World) (lo : Nat) (A : Option Addr) (n : Nat) (T : Nat → Nat → Bool) : Prop :=
  0 < n → ∃ b, A = some ⟨b, 0, none⟩ ∧ lo ≤ b ∧ b < w.heap.size ∧ ∀ r, r < n → ∃ g C, w.cell? ⟨b, r, none⟩ = some (.slice (some ⟨g, 0, none⟩) n C) ∧ lo ≤ g ∧ g < w.heap.size ∧ ∀ c, c < n → w.cell? ⟨g, c, none⟩ = some (.bool (T r c))

theorem GridIn.sq {w : World} {lo n lb : Nat} {A : Option Addr} {T : Nat → Nat → Bool} (h : GridIn w lo A n T) (hn : n ≤ 100) (hlb : lb < lo) : ∀ w', Keeps lb w w' → Sq w' w.heap.size A n T := fun w' hk => ⟨fun hp => by
  obtain ⟨b, rfl, hlo, hb, hr⟩ := h hp
  refine ⟨_, rfl, hb, fun r hlt => ?_⟩
  obtain ⟨g, C, hc, hg, hg2, hx⟩ := hr r hlt
  refine ⟨_, C, ?_, by show n ≤ _; omega, fun c hcl => ⟨⟨g, 0, none⟩, rfl, hg2, ?_⟩⟩
  · rw [add_zero]
    exact (World.cell?_of_block (w := w) (a := ⟨b, r, none⟩) (hk.block b hb (by omega))).trans hc
  · rw [add_zero]
    exact (World.cell?_of_block (w := w) (a := ⟨g, c, none⟩) (hk.block g hg2 (by omega))).trans (hx c hcl), hn⟩

/-- A block of bools whose first n cells are row r of T. -/
def BoolRow (w : World) (g n : Nat) (f : Nat → Bool) : Prop := ∃ cur : Array Value, w.heap[g]? = some (.cells cur 4 (0, 0)) ∧ ∀ c, c < n → cur[c]? = some (.bool (f c))

theorem BoolRow.cell {w : World} {g n : Nat} {f : Nat → Bool} (h : BoolRow w g n f) {c : Nat} (hc : c < n) : w.cell? ⟨g, c, none⟩ = some (.bool (f c)) := by
  obtain ⟨cur, hh, hx⟩ := h
  rw [cell_of hh, hx c hc]
theorem BoolRow.lt {w : World} {g n : Nat} {f : Nat → Bool} (h : BoolRow w g n f) : g < w.heap.size := by
  obtain ⟨cur, hh, _⟩ := h
  exact lt_of hh
theorem BoolRow.of_block {w w' : World} {g n : Nat} {f : Nat → Bool} (h : BoolRow w g n f) (e : w'.heap[g]? = w.heap[g]?) : BoolRow w' g n f := by
  obtain ⟨cur, hh, hx⟩ := h
  exact ⟨cur, e.trans hh, hx⟩

/-- The table while it is built: i rows done, the next one has k cells. -/
structure Rk (w wr : World) (n : Nat) (T : Nat → Nat → Bool) (Bi i k : Nat) (tv rv : Value) : Prop where
  old : Below w.heap.size w wr
  lo : w.heap.size ≤ Bi
  bi : Bi ≤ wr.heap.size
  tab : ∃ G C : Nat → Nat, wr.ownsRow w.heap.size 26 1 tv i ((List.range i).map fun r => Value.slice (some ⟨G r, 0, none⟩) n (C r)) ∧ ∀ r, r < i → w.heap.size ≤ G r ∧ G r < Bi ∧ BoolRow wr (G r) n (T r)
  tlt : ∀ g, tv.ownBlock = some g → g < Bi
  row : wr.ownsRow Bi 4 1 rv k ((List.range k).map fun c => Value.bool (T i c))

theorem Rk.drewN {w wr : World} {n : Nat} {T : Nat → Nat → Bool} {Bi i k : Nat} {tv rv : Value} (h : Rk w wr n T Bi i k tv rv) (q : Nat) : Rk w (wr.drewN q) n T Bi i k tv rv := ⟨below_drew h.old q, h.lo, h.bi, h.tab, h.tlt, h.row⟩

theorem Rk.start (w : World) (n : Nat) (T : Nat → Nat → Bool) : Rk w w n T w.heap.size 0 0 (.slice none 0 0) (.slice none 0 0) :=
  ⟨Below.refl _ _, Nat.le_refl _, Nat.le_refl _, ⟨fun _ => 0, fun _ => 0, ⟨rfl, Or.inl ⟨rfl, rfl⟩⟩, fun r hr => by omega⟩, fun g hg => by simp [Value.ownBlock] at hg, ⟨rfl, Or.inl ⟨rfl, rfl⟩⟩⟩

/-- One cell more in the row. -/
theorem Rk.put {w wr w1 : World} {n : Nat} {T : Nat → Nat → Bool} {Bi i k : Nat} {tv rv v' : Value} (h : Rk w wr n T Bi i k tv rv)
    (hown : w1.ownsRow Bi 4 1 v' (k + 1) (((List.range k).map fun c => Value.bool (T i c)) ++ [.bool (T i k)])) (hg : (wr.alloc (.cells #[.bool (T i k)] 4)).grownBy w1 rv.ownBlock) :
    Rk w w1 n T Bi i (k + 1) tv v' := by
  have hge := own_ge' h.row
  have hbi := h.bi
  have hlo := h.lo
  have hblk : ∀ b, b < Bi → w1.heap[b]? = wr.heap[b]? := fun b hb =>
    (hg.block b (by simp; omega) (fun e => by have := hge b e.symm; omega)).trans (Below.heap_alloc wr _ b (by omega))
  refine ⟨?_, h.lo, ?_, ?_, h.tlt, ?_⟩
  · exact (h.old.alloc h.old.size _).grown hg (by have := h.old.size; simp; omega) (fun b hb => by have := hge b hb; omega)
  · have := hg.size
    simp at this
    omega
  · obtain ⟨G, C, ho, hr⟩ := h.tab
    refine ⟨G, C, ⟨ho.1, ho.2.imp id ?_⟩, fun r hlt => ?_⟩
    · rintro ⟨g, cap, cur, rfl, hb, hh, rest⟩
      exact ⟨g, cap, cur, rfl, hb, (hblk g (h.tlt g rfl)).trans hh, rest⟩
    · obtain ⟨q1, q2, q3⟩ := hr r hlt
      exact ⟨q1, q2, q3.of_block (hblk _ q2)⟩
  · rw [List.range_succ, List.map_append]
    exact hown

/-- What a row that is done is. -/
theorem own_row {w : World} {base n : Nat} {v : Value} {f : Nat → Bool} (h : w.ownsRow base 4 1 v n ((List.range n).map fun c => Value.bool (f c))) (hn : 0 < n) : ∃ g cap, v = .slice (some ⟨g, 0, none⟩) n cap ∧ base ≤ g ∧ BoolRow w g n f := by
  rcases h.2 with ⟨_, h0⟩ | ⟨g, cap, cur, rfl, hb, hh, hle, _, hsz, htake⟩
  · omega
  · refine ⟨g, cap, rfl, hb, cur, hh, fun c hc => ?_⟩
    have h1 : (List.take (n * 1) cur.toList)[c]? = some (.bool (f c)) := by rw [htake]; simp [hc]
    rw [List.getElem?_take] at h1
    simp only [Nat.mul_one, hc, if_true] at h1
    simpa using h1

/-- The row goes into the table: the next row begins. -/
theorem Rk.push {w wr w1 : World} {n : Nat} {T : Nat → Nat → Bool} {Bi i g cap : Nat} {tv v' : Value} (h : Rk w wr n T Bi i n tv (.slice (some ⟨g, 0, none⟩) n cap)) (hg : Bi ≤ g) (hB : BoolRow wr g n (T i))
    (G C : Nat → Nat) (hrows : ∀ r, r < i → w.heap.size ≤ G r ∧ G r < Bi ∧ BoolRow wr (G r) n (T r))
    (hown : w1.ownsRow w.heap.size 26 1 v' (i + 1) (((List.range i).map fun r => Value.slice (some ⟨G r, 0, none⟩) n (C r)) ++ [.slice (some ⟨g, 0, none⟩) n cap]))
    (hgr : (wr.alloc (.cells #[.slice (some ⟨g, 0, none⟩) n cap] 26)).grownBy w1 tv.ownBlock) :
    Rk w w1 n T w1.heap.size (i + 1) 0 v' (.slice none 0 0) := by
  obtain ⟨_, _, ho, _⟩ := h.tab
  have hge := own_ge' ho
  have hbi := h.bi
  have hlo := h.lo
  have hsz := hgr.size
  simp at hsz
  -- a block of bools is not the table's own
  have keepB : ∀ b f, BoolRow wr b n f → BoolRow w1 b n f := fun b f hb => by
    have hlt := hb.lt
    refine hb.of_block ((hgr.block b (by simp; omega) (fun e => ?_)).trans (Below.heap_alloc wr _ b hlt))
    obtain ⟨cur, hh, _⟩ := hb
    rcases ho.2 with ⟨rfl, _⟩ | ⟨g', cap', cur', rfl, _, hh', _⟩
    · simp [Value.ownBlock] at e
    · have e' : b = g' := by simpa [Value.ownBlock] using e
      subst e'
      rw [hh] at hh'
      injection hh' with hh'
      injection hh' with _ ht
      exact absurd ht (by decide)
  refine ⟨?_, by omega, Nat.le_refl _, ?_, fun b hb => ?_, ⟨rfl, Or.inl ⟨rfl, rfl⟩⟩⟩
  · exact (h.old.alloc h.old.size _).grown hgr (by have := h.old.size; simp; omega) hge
  · refine ⟨fun r => if r = i then g else G r, fun r => if r = i then cap else C r, ?_, fun r hr => ?_⟩
    · have e : ((List.range (i + 1)).map fun r => Value.slice (some ⟨if r = i then g else G r, 0, none⟩) n (if r = i then cap else C r)) = ((List.range i).map fun r => Value.slice (some ⟨G r, 0, none⟩) n (C r)) ++ [.slice (some ⟨g, 0, none⟩) n cap] := by
        rw [List.range_succ, List.map_append]
        congr 1
        · refine List.map_congr_left fun r hr => ?_
          have := List.mem_range.1 hr
          simp only [show ¬ r = i from by omega, if_false]
        · simp
      rw [e]
      exact hown
    · by_cases e : r = i
      · subst e
        simp only [if_true]
        have := (keepB g _ hB).lt
        exact ⟨by omega, this, keepB g _ hB⟩
      · simp only [e, if_false]
        obtain ⟨q1, q2, q3⟩ := hrows r (by omega)
        exact ⟨q1, by omega, keepB _ _ q3⟩
  · rcases hown.2 with ⟨rfl, h0⟩ | ⟨g', cap', cur', rfl, _, hh', _⟩
    · omega
    · have e' : b = g' := by
        have := hb
        simp [Value.ownBlock] at this
        omega
      rw [e']
      exact lt_of hh'

theorem Rk.grid {w wr : World} {n : Nat} {T : Nat → Nat → Bool} {Bi : Nat} {tv rv : Value} (h : Rk w wr n T Bi n 0 tv rv) (hn : 0 < n) : ∃ A cap, tv = .slice A n cap ∧ GridIn wr w.heap.size A n T := by
  obtain ⟨G, C, ho, hr⟩ := h.tab
  obtain ⟨b, cap, rfl, hb, hlt⟩ := ho.form hn
  have hbi := h.bi
  refine ⟨_, cap, rfl, fun _ => ⟨b, rfl, hb, hlt, fun r hrl => ?_⟩⟩
  obtain ⟨q1, q2, q3⟩ := hr r hrl
  refine ⟨G r, C r, ?_, q1, by omega, fun c hc => q3.cell hc⟩
  have := World.ownsRow.cells ho (g := b) rfl r (.slice (some ⟨G r, 0, none⟩) n (C r)) (by simp [hrl])
  rw [add_zero] at this
  exact this

/-- The document's order of ranks and sets, bit by bit, is the program's. -/
def bitsOk (x y s : Nat) : Bool := (List.range s).all fun i => x / 2 ^ i % 2 == 0 || y / 2 ^ i % 2 == 1

theorem bits_all : ∀ x : Nat, x < 64 → ∀ y : Nat, y < 64 → (bits .andNot .i64 (x : Int) (y : Int) == 0) = bitsOk x y 6 := by decide +kernel

theorem bitsOk_more (x y s : Nat) (hx : x < 2 ^ s) : ∀ m, s ≤ m → bitsOk x y m = bitsOk x y s := fun m hm => by
  induction m with
  | zero => rw [show s = 0 from by omega]
  | succ m ih =>
    by_cases e : s = m + 1
    · rw [e]
    · rw [← ih (by omega)]
      unfold bitsOk
      rw [List.range_succ, List.all_append]
      have h0 : x / 2 ^ m = 0 := Nat.div_eq_of_lt (Nat.lt_of_lt_of_le hx (Nat.pow_le_pow_right (by omega) (by omega)))
      simp [h0]
theorem bitsOk_succ (x y j : Nat) : bitsOk x y (j + 1) = (bitsOk x y j && (x / 2 ^ j % 2 == 0 || y / 2 ^ j % 2 == 1)) := by
  unfold bitsOk
  rw [List.range_succ, List.all_append]
  simp

theorem rankT_bits (r s a b : Nat) (hs : s ≤ 6) (ha : a < r * 2 ^ s) (hb : b < r * 2 ^ s) : rankT r a b = (decide (a % r ≤ b % r) && bitsOk (a / r) (b / r) s) := by
  have hp : 2 ^ s ≤ 2 ^ 6 := Nat.pow_le_pow_right (by omega) hs
  have hx : a / r < 2 ^ s := Nat.div_lt_of_lt_mul ha
  have hy : b / r < 2 ^ s := Nat.div_lt_of_lt_mul hb
  unfold rankT
  rw [bits_all (a / r) (by omega) (b / r) (by omega), bitsOk_more (a / r) (b / r) s hx 6 hs]
end Go.Proofs.Ytnccnaadhknfbaa
