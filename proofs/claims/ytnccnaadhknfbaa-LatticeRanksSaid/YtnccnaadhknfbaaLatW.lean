/- Layer 1: a table turned over, built row by row: LatticeTurned's loops. -/
import Derived.Test.YtnccnaadhknfbaaLatV
import Derived.Deep.AppendLies
import Derived.Deep.RegionLaw
namespace Go.Proofs.Ytnccnaadhknfbaa
open Go.RowKit Lat

/-- The turned table while it is built: rows ahead of i are done, row i has its first k cells. -/
structure Turn (w wr : World) (ub Bi n : Nat) (T : Nat → Nat → Bool) (i k : Nat) (v : Value) : Prop where
  old : Below w.heap.size w wr
  nu : w.heap.size ≤ ub
  ui : ub < Bi
  bi : Bi ≤ wr.heap.size
  top : ∃ (F : Nat → Value) (G C : Nat → Nat), wr.rowIs ub 26 n F ∧ (i < n → F i = v) ∧ (∀ r, i < r → r < n → F r = .slice none 0 0) ∧
    ∀ r, r < i → r < n → F r = .slice (some ⟨G r, 0, none⟩) n (C r) ∧ ub < G r ∧ G r < Bi ∧ ∀ c, c < n → wr.cell? ⟨G r, c, none⟩ = some (.bool (T c r))
  row : wr.ownsRow Bi 4 1 v k ((List.range k).map fun c => Value.bool (T c i))

theorem own_ge' {w : World} {base : Nat} {e : TypeId} {size n : Nat} {v : Value} {l : List Value} (h : w.ownsRow base e size v n l) : ∀ g, v.ownBlock = some g → base ≤ g := by
  intro g hg
  rcases h.2 with ⟨rfl, _⟩ | ⟨g', cap, cur, rfl, hb, _⟩
  · simp [Value.ownBlock] at hg
  · have : g' = g := by simpa [Value.ownBlock] using hg
    omega

theorem Turn.drew {w wr : World} {ub Bi n : Nat} {T : Nat → Nat → Bool} {i k : Nat} {v : Value} (h : Turn w wr ub Bi n T i k v) : Turn w wr.drew ub Bi n T i k v := ⟨h.old.drew, h.nu, h.ui, h.bi, h.top, h.row⟩

/-- One cell more: behind the append and the store. -/
theorem Turn.put {w wr wa w1 : World} {ub Bi n : Nat} {T : Nat → Nat → Bool} {i k g cap : Nat} {v : Value} (h : Turn w wr ub Bi n T i k v) (ha : Below wr.heap.size wr wa)
    (hown : w1.ownsRow Bi 4 1 (.slice (some ⟨g, 0, none⟩) (k + 1) cap) (k + 1) (((List.range k).map fun c => Value.bool (T c i)) ++ [.bool (T k i)])) (hg : wa.grownBy w1 v.ownBlock) :
    Turn w (w1.setCell ⟨ub, i, none⟩ (.slice (some ⟨g, 0, none⟩) (k + 1) cap)) ub Bi n T i (k + 1) (.slice (some ⟨g, 0, none⟩) (k + 1) cap) := by
  have hge := own_ge' h.row
  have hblk : ∀ b, b < Bi → w1.heap[b]? = wr.heap[b]? := fun b hb =>
    (hg.block b (Nat.lt_of_lt_of_le (Nat.lt_of_lt_of_le hb h.bi) ha.size) (fun e => by have := hge b e.symm; omega)).trans (ha.block b (Nat.lt_of_lt_of_le hb h.bi))
  have hui := h.ui
  refine ⟨?_, h.nu, h.ui, ?_, ?_, ?_⟩
  · exact ((h.old.trans (ha.mono h.old.size)).grown hg (Nat.le_trans h.old.size ha.size) (fun b hb => by have := hge b hb; have := h.nu; omega)).setCell h.nu _
  · have := hg.size
    have := ha.size
    have := h.bi
    simp [World.setCell]
    omega
  · obtain ⟨F, G, C, hr, h1, h2, h3⟩ := h.top
    refine ⟨fun r => if r = i then .slice (some ⟨g, 0, none⟩) (k + 1) cap else F r, G, C, (hr.of_block (hblk ub h.ui)).set i _, fun _ => by simp, fun r hr1 hr2 => ?_, fun r hr1 hr2 => ?_⟩
    · simp only [show ¬ r = i from by omega, if_false]
      exact h2 r hr1 hr2
    · simp only [show ¬ r = i from by omega, if_false]
      obtain ⟨q1, q2, q3, q4⟩ := h3 r hr1 hr2
      refine ⟨q1, q2, q3, fun c hc => ?_⟩
      rw [World.cell?_setCell_other _ _ _ _ (by intro e; injection e with e; omega)]
      exact (World.cell?_of_block (hblk (G r) q3)).trans (q4 c hc)
  · have := ownsRow_setCell_below hown (a := ⟨ub, i, none⟩) h.ui (.slice (some ⟨g, 0, none⟩) (k + 1) cap)
    rw [List.range_succ, List.map_append]
    exact this

/-- The next row. -/
theorem Turn.next {w wr : World} {ub Bi n : Nat} {T : Nat → Nat → Bool} {i : Nat} {v : Value} (h : Turn w wr ub Bi n T i n v) (hi : i < n) : Turn w wr ub wr.heap.size n T (i + 1) 0 (.slice none 0 0) := by
  have hform := h.row.form (by omega)
  obtain ⟨g, cap, rfl, hg, hlt⟩ := hform
  obtain ⟨F, G, C, hr, h1, h2, h3⟩ := h.top
  have hui := h.ui
  have hbi := h.bi
  refine ⟨h.old, h.nu, by omega, Nat.le_refl _, ⟨F, fun r => if r = i then g else G r, fun r => if r = i then cap else C r, hr, fun hlt => h2 (i + 1) (by omega) hlt, fun r h4 h5 => h2 r (by omega) h5, fun r h4 h5 => ?_⟩, ⟨rfl, Or.inl ⟨rfl, rfl⟩⟩⟩
  by_cases e : r = i
  · subst e
    simp only [if_true]
    refine ⟨h1 hi, by omega, hlt, fun c hc => ?_⟩
    have := World.ownsRow.cells h.row (g := g) rfl c (.bool (T c r)) (by simp [hc])
    rw [add_zero] at this
    exact this
  · simp only [e, if_false]
    obtain ⟨q1, q2, q3, q4⟩ := h3 r (by omega) h5
    exact ⟨q1, q2, by omega, q4⟩

/-- All rows done: a square table, the first one turned over. -/
theorem Turn.grid {w wr : World} {ub Bi n : Nat} {T : Nat → Nat → Bool} {v : Value} (h : Turn w wr ub Bi n T n 0 v) (hn : n ≤ 100) : Grid wr wr.heap.size (some ⟨ub, 0, none⟩) n (fun _ => n) (flipT T) := by
  intro hp
  obtain ⟨F, G, C, hr, _, _, h3⟩ := h.top
  have hui := h.ui
  have hbi := h.bi
  refine ⟨_, rfl, by show ub < _; omega, fun r hlt => ?_⟩
  obtain ⟨q1, q2, q3, q4⟩ := h3 r hlt hlt
  refine ⟨_, _, by rw [add_zero, hr.cell hlt, q1], by show n ≤ _; omega, fun c hc => ⟨_, rfl, by show G r < _; omega, ?_⟩⟩
  rw [add_zero]
  exact q4 c hc

theorem Turn.start (w : World) (n : Nat) (T : Nat → Nat → Bool) : Turn w (w.alloc (.cells (madeCells #[.slice none 0 0] n) 26)) w.heap.size (w.heap.size + 1) n T 0 0 (.slice none 0 0) :=
  ⟨(Below.refl _ w).alloc (Nat.le_refl _) _, Nat.le_refl _, by omega, by simp, ⟨fun _ => .slice none 0 0, fun _ => 0, fun _ => 0, World.rowIs_made w (.slice none 0 0) n 26, fun _ => rfl, fun _ _ _ => rfl, fun r hr => by omega⟩, ⟨rfl, Or.inl ⟨rfl, rfl⟩⟩⟩
end Go.Proofs.Ytnccnaadhknfbaa
