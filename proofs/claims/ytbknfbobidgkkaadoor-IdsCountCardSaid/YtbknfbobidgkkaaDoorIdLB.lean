/- Layer 1 for a seat that has Rank and Len alone: a lattice in memory; Len. -/
import Derived.Test.YtbknfbobidgkkaaDoorIdLA
import Derived.Deep.OwnRows
namespace Go.Proofs.YtbknfbobidgkkaaDoor
open Go.RowKit Lat

/-- A row of words in a block of its own whose bits are T's. -/
def Side (w : World) (b n : Nat) (T : Nat → Nat → Bool) : Prop := ∃ U : Nat → Nat, w.rowIs b 86 n (fun i => .int .u64 (U i)) ∧ ∀ i, i < n → BitsOf n (U i) (T i)

/-- A table of n rows of n numbers, each row in a block of its own. -/
def Table (w : World) (v : Value) (n : Nat) (J : Nat → Nat → Int) : Prop :=
  ∃ (jb : Nat) (R : Nat → Nat), v = .slice (some ⟨jb, 0, none⟩) n n ∧ w.rowIs jb 33 n (fun i => .slice (some ⟨R i, 0, none⟩) n n) ∧ ∀ i, i < n → w.rowIs (R i) 3 n (fun j => .int .i64 (J i j))

/-- A lattice's struct in memory, part by part; d: whether joins and meets have been made. -/
structure LatAt (w : World) (lb ub db n : Nat) (T : Nat → Nat → Bool) (d : Int) (js ms : Value) : Prop where
  blk : w.heap[lb]? = some (.cells #[.slice (some ⟨ub, 0, none⟩) n n, .slice (some ⟨db, 0, none⟩) n n, .int .u32 d, .int .i32 0, .int .u32 0, js, ms] 85 (0, 0))
  up : Side w ub n T
  dn : Side w db n (flipT T)
  le : n ≤ 64
  pos : 1 ≤ n
  made : (d = 0 ∧ js = .slice none 0 0 ∧ ms = .slice none 0 0) ∨ (d = 1 ∧ Table w js n (joinT n T) ∧ Table w ms n (joinT n (flipT T)))

def IsLat (w : World) (lb n : Nat) (T : Nat → Nat → Bool) : Prop := ∃ ub db d js ms, LatAt w lb ub db n T d js ms

/-- Nothing that was there has turned, but block x; nothing else of the world has. -/
structure Keeps (x : Nat) (w w' : World) : Prop where
  os : w'.os = w.os
  tape : w'.tape = w.tape
  output : w'.output = w.output
  size : w.heap.size ≤ w'.heap.size
  block : ∀ k, k < w.heap.size → k ≠ x → w'.heap[k]? = w.heap[k]?

theorem cell_of {w : World} {b : Nat} {c : Array Value} {t : TypeId} (h : w.heap[b]? = some (.cells c t (0, 0))) (i : Nat) : w.cell? ⟨b, i, none⟩ = c[i]? := by simp [World.cell?, h]
theorem frozen_of {w : World} {b : Nat} {c : Array Value} {t : TypeId} (h : w.heap[b]? = some (.cells c t (0, 0))) (i : Nat) : w.frozen? ⟨b, i, none⟩ = false := by simp [World.frozen?, h]
theorem lt_of {w : World} {b : Nat} {o : Obj} (h : w.heap[b]? = some o) : b < w.heap.size := by
  obtain ⟨hlt, _⟩ := Array.getElem?_eq_some_iff.1 h
  exact hlt

theorem Side.of_block {w w' : World} {b n : Nat} {T : Nat → Nat → Bool} (h : Side w b n T) (e : w'.heap[b]? = w.heap[b]?) : Side w' b n T := by
  obtain ⟨U, hr, hu⟩ := h
  exact ⟨U, hr.of_block e, hu⟩
theorem Side.lt {w : World} {b n : Nat} {T : Nat → Nat → Bool} (h : Side w b n T) : b < w.heap.size := by
  obtain ⟨U, hr, _⟩ := h
  exact hr.lt
/-- Blocks of unlike element types are not one. -/
theorem row_ne {w : World} {b : Nat} {t : TypeId} {n : Nat} {f : Nat → Value} (h : w.rowIs b t n f) {g : Nat} {c : Array Value} {t' : TypeId} (hg : w.heap[g]? = some (.cells c t' (0, 0))) (hne : t ≠ t') : b ≠ g := by
  rintro rfl
  obtain ⟨c', hb, _⟩ := h
  rw [hb] at hg
  injection hg with hg
  injection hg with _ ht
  exact hne ht

theorem LatAt.cells {w : World} {lb ub db n : Nat} {T : Nat → Nat → Bool} {d : Int} {js ms : Value} (h : LatAt w lb ub db n T d js ms) :
    w.cell? ⟨lb, 0, none⟩ = some (.slice (some ⟨ub, 0, none⟩) n n) ∧ w.cell? ⟨lb, 1, none⟩ = some (.slice (some ⟨db, 0, none⟩) n n) ∧ w.cell? ⟨lb, 2, none⟩ = some (.int .u32 d) ∧ w.cell? ⟨lb, 3, none⟩ = some (.int .i32 0) ∧
      w.cell? ⟨lb, 4, none⟩ = some (.int .u32 0) ∧ w.cell? ⟨lb, 5, none⟩ = some js ∧ w.cell? ⟨lb, 6, none⟩ = some ms := by
  refine ⟨?_, ?_, ?_, ?_, ?_, ?_, ?_⟩ <;> rw [cell_of h.blk] <;> rfl

theorem row_keep {w w' : World} {b : Nat} {t : TypeId} {n : Nat} {f : Nat → Value} (h : w.rowIs b t n f) (hb : ∀ c : Array Value, w.heap[b]? = some (.cells c t (0, 0)) → w'.heap[b]? = w.heap[b]?) : w'.rowIs b t n f := by
  have h' := h
  obtain ⟨c, hc, _⟩ := h'
  exact h.of_block (hb c hc)

/-- All blocks of a lattice, other than its struct, have other element types than its struct: what keeps these, and the struct, keeps the lattice. -/
def KeepsBut (lb : Nat) (w w' : World) : Prop := ∀ k (c : Array Value) t, w.heap[k]? = some (.cells c t (0, 0)) → (k = lb ∨ t ≠ 85) → w'.heap[k]? = w.heap[k]?

theorem Side.keep {w w' : World} {b n : Nat} {T : Nat → Nat → Bool} (h : Side w b n T) {lb : Nat} (hk : KeepsBut lb w w') : Side w' b n T := by
  obtain ⟨U, hr, hu⟩ := h
  exact ⟨U, row_keep hr fun c hc => hk b c _ hc (Or.inr (by decide)), hu⟩

theorem Table.keep {w w' : World} {v : Value} {n : Nat} {J : Nat → Nat → Int} (h : Table w v n J) {lb : Nat} (hk : KeepsBut lb w w') : Table w' v n J := by
  obtain ⟨jb, R, hv, hr, hR⟩ := h
  exact ⟨jb, R, hv, row_keep hr fun c hc => hk jb c _ hc (Or.inr (by decide)), fun i hi => row_keep (hR i hi) fun c hc => hk (R i) c _ hc (Or.inr (by decide))⟩

theorem LatAt.keep {w w' : World} {lb ub db n : Nat} {T : Nat → Nat → Bool} {d : Int} {js ms : Value} (h : LatAt w lb ub db n T d js ms) (hk : KeepsBut lb w w') : LatAt w' lb ub db n T d js ms where
  blk := (hk lb _ _ h.blk (Or.inl rfl)).trans h.blk
  up := h.up.keep hk
  dn := h.dn.keep hk
  le := h.le
  pos := h.pos
  made := h.made.imp id fun ⟨a, b, c⟩ => ⟨a, b.keep hk, c.keep hk⟩

theorem IsLat.keep {w w' : World} {lb n : Nat} {T : Nat → Nat → Bool} (h : IsLat w lb n T) (hk : KeepsBut lb w w') : IsLat w' lb n T := by
  obtain ⟨ub, db, d, js, ms, h⟩ := h
  exact ⟨ub, db, d, js, ms, h.keep hk⟩

theorem IsLat.drewN {w : World} {lb n : Nat} {T : Nat → Nat → Bool} (h : IsLat w lb n T) (m : Nat) : IsLat (w.drewN m) lb n T := h.keep fun _ _ _ _ _ => rfl
theorem IsLat.below {w w' : World} {lb n : Nat} {T : Nat → Nat → Bool} (h : IsLat w lb n T) {B : Nat} (hb : Below B w w') (hB : w.heap.size ≤ B) : IsLat w' lb n T :=
  h.keep fun k _ _ hk _ => hb.block k (Nat.lt_of_lt_of_le (lt_of hk) hB)
theorem IsLat.lt {w : World} {lb n : Nat} {T : Nat → Nat → Bool} (h : IsLat w lb n T) : lb < w.heap.size := by
  obtain ⟨ub, db, d, js, ms, h⟩ := h
  exact lt_of h.blk
/-- Another lattice's struct may turn. -/
theorem IsLat.other {w w' : World} {lb n : Nat} {T : Nat → Nat → Bool} (h : IsLat w lb n T) {lb' n' : Nat} {T' : Nat → Nat → Bool} (h' : IsLat w lb' n' T') (hk : Keeps lb' w w') (hne : lb ≠ lb') : IsLat w' lb n T :=
  h.keep fun k c t hc ht => hk.block k (lt_of hc) (by
    rintro rfl
    obtain ⟨ub, db, d, js, ms, h'⟩ := h'
    rcases ht with rfl | ht
    · exact hne rfl
    · have := h'.blk
      rw [hc] at this
      injection this with this
      injection this with _ e
      exact ht e)

theorem IsLat.len {w : World} {lb n : Nat} {T : Nat → Nat → Bool} (h : IsLat w lb n T) : ∃ ub, w.cell? ⟨lb, 0, none⟩ = some (.slice (some ⟨ub, 0, none⟩) n n) := by
  obtain ⟨ub, db, d, js, ms, h⟩ := h
  exact ⟨ub, h.cells.1⟩

theorem len_any (lb n : Nat) (T : Nat → Nat → Bool) (w : World) (h : IsLat w lb n T) :
    Calls Tryd.prog 28 #[.pointer (some ⟨lb, 0, none⟩)] w fun e w' => e = .returned (.int .i64 n) ∧ w = w' := by
  obtain ⟨ub, h0⟩ := h.len
  clear h
  go_enter Tryd.func28, Tryd.ntmps28
  go_wp2
  go_ret
  exact ⟨rfl, rfl⟩

theorem len_nil (w : World) : Calls Tryd.prog 28 #[.pointer none] w fun e w' => e = .returned (.int .i64 0) ∧ w = w' := by
  go_enter Tryd.func28, Tryd.ntmps28
  go_wp2
  go_ret
  exact ⟨rfl, rfl⟩

end Go.Proofs.YtbknfbobidgkkaaDoor
