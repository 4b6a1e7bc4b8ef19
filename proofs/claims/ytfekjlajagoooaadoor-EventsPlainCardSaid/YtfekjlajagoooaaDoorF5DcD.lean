/- Layer 5: All. -/
import Derived.Test.YtfekjlajagoooaaDoorF5DcC
import Derived.OwnWalk
import Derived.LoopTactic
namespace Go.Proofs.YtfekjlajagoooaaDoor.D5
open Go.RowKit Go.Lib Dec

def runeV (l : List Nat) : List Value := l.map fun r : Nat => Value.int .i32 (r : Int)

theorem add_zero (g k : Nat) : (⟨g, 0, none⟩ : Addr).add k = ⟨g, k, none⟩ := by
  unfold Addr.add
  split
  · rename_i h; subst h; rfl
  · simp

/-- A slice of the call's own that holds these characters. -/
def OwnRunes (w : World) (base : Nat) (v : Value) (l : List Nat) : Prop := w.ownsRow base 21 1 v l.length (runeV l)

theorem own_ge {w : World} {base : Nat} {v : Value} {l : List Nat} (h : OwnRunes w base v l) : ∀ g, v.ownBlock = some g → base ≤ g := by
  intro g hg
  rcases h.2 with ⟨rfl, _⟩ | ⟨g', cap, cur, rfl, hb, _⟩
  · simp [Value.ownBlock] at hg
  · have : g' = g := by simpa [Value.ownBlock] using hg
    omega

/-- It is no block of another type. -/
theorem own_apart {w : World} {base a : Nat} {v : Value} {l : List Nat} {c : Array Value} {t : TypeId} (h : OwnRunes w base v l) (hb : w.heap[a]? = some (.cells c t (0, 0))) (ht : t ≠ 21) : v.ownBlock ≠ some a := by
  rcases h.2 with ⟨rfl, _⟩ | ⟨g', cap, cur, rfl, _, hh, _⟩
  · simp [Value.ownBlock]
  · intro e
    have e' : g' = a := by simpa [Value.ownBlock] using e
    subst e'
    rw [hb] at hh
    cases hh
    exact ht rfl

/-- It stays where its block stays. -/
theorem own_keep {w w' : World} {base : Nat} {v : Value} {l : List Nat} (h : OwnRunes w base v l) (hk : ∀ g, v.ownBlock = some g → w'.heap[g]? = w.heap[g]?) : OwnRunes w' base v l := by
  refine ⟨h.1, ?_⟩
  rcases h.2 with h0 | ⟨g, cap, cur, rfl, h1, h2, h3⟩
  · exact Or.inl h0
  · exact Or.inr ⟨g, cap, cur, rfl, h1, (hk g rfl).trans h2, h3⟩

theorem own_lt {w : World} {base : Nat} {v : Value} {l : List Nat} (h : OwnRunes w base v l) : ∀ g, v.ownBlock = some g → g < w.heap.size := by
  intro g hg
  rcases h.2 with ⟨rfl, _⟩ | ⟨g', cap, cur, rfl, _, hh, _⟩
  · simp [Value.ownBlock] at hg
  · have : g' = g := by simpa [Value.ownBlock] using hg
    subst this
    exact (Array.getElem?_eq_some_iff.1 hh).1


theorem own_below {w w' : World} {base B : Nat} {v : Value} {l : List Nat} (h : OwnRunes w base v l) (hb : Below B w w') (hB : w.heap.size ≤ B) : OwnRunes w' base v l :=
  own_keep h fun g hg => hb.block g (Nat.lt_of_lt_of_le (own_lt h g hg) hB)

/-- A slice's shape: what it holds can be read. -/
theorem own_shape {w : World} {base : Nat} {v : Value} {l : List Nat} (h : OwnRunes w base v l) : ∃ A c, v = .slice A l.length c ∧ (A = none → c = 0) ∧ ∀ k, k < l.length → ∃ g, A = some ⟨g, 0, none⟩ ∧ g < w.heap.size ∧ w.cell? ⟨g, k, none⟩ = some (.int .i32 (l.getD k 0 : Nat)) := by
  rcases Nat.eq_zero_or_pos l.length with h0 | hp
  · rcases h.2 with ⟨rfl, _⟩ | ⟨g, cap, cur, rfl, _⟩
    · exact ⟨none, 0, by rw [h0], fun _ => rfl, fun k hk => by omega⟩
    · exact ⟨some ⟨g, 0, none⟩, cap, rfl, (fun h => by cases h), fun k hk => by omega⟩
  · rcases h.2 with ⟨_, h0⟩ | ⟨g, cap, cur, rfl, _, hh, _⟩
    · omega
    · refine ⟨_, cap, rfl, (fun h => by cases h), fun k hk => ⟨g, rfl, (Array.getElem?_eq_some_iff.1 hh).1, ?_⟩⟩
      have := World.ownsRow.cells (w := w) h (g := g) rfl k (.int .i32 (l.getD k 0 : Nat)) (by simp [runeV, hk])
      rw [add_zero] at this
      exact this

theorem grown_block {w w' : World} {row : Option Nat} (hg : w.grownBy w' row) {a : Nat} (hl : a < w.heap.size) (hr : row ≠ some a) : w'.heap[a]? = w.heap[a]? := hg.block a hl (fun e => hr e.symm)

theorem info_rune : (Tryd.prog.info? 21).map (fun i => (i.zero, i.size, i.bytes)) = some (some (.int .i32 0), 1, 4) := by kernel_rfl

theorem one_new (w : World) (v : Value) (t : TypeId) : ∀ j u, [v][j]? = some u → (w.alloc (.cells #[v] t)).cell? ((⟨w.heap.size, 0, none⟩ : Addr).add j) = some u := by
  intro j u hu
  cases j with
  | zero =>
    simp at hu
    subst hu
    rw [add_zero]
    simp
  | succ j => simp at hu

set_option maxRecDepth 100000 in
theorem slice_two (a n : Nat) (hn : n ≤ 2) (W : World) : (Instr.sliceAt 118 (.pointer (some ⟨a, 0, none⟩)) none (some (.int .i64 n)) none).run Tryd.prog W = .ok (.slice (some ⟨a, 0, none⟩) n 2) W := by
  have ha : Tryd.prog.arrayLen 118 = 2 := by kernel_rfl
  have := run_sliceAt_array_h (P := Tryd.prog) (w := W) (t := 118) (a := ⟨a, 0, none⟩) Tryd.underlying118 .i64 n (by omega) (by rw [ha]; omega)
  rw [this, ha]
  rfl


/-- What was told and what is kept of the first k bytes. -/
def toldK (l : List UInt8) (k : Nat) : List Nat := (runsD [] (l.take k)).1
def keptK (l : List UInt8) (k : Nat) : List UInt8 := (runsD [] (l.take k)).2

theorem told_succ (l : List UInt8) (k : Nat) (h : k < l.length) : toldK l (k + 1) = toldK l k ++ (comes (keptK l k) l[k]).1 ∧ keptK l (k + 1) = (comes (keptK l k) l[k]).2 := by
  unfold toldK keptK
  rw [List.take_succ_eq_append_getElem h, runs_snoc]
  exact ⟨rfl, rfl⟩

theorem told_len (l : List UInt8) (k : Nat) : (toldK l k).length ≤ k := by
  have h := runs_count [] (l.take k) rfl
  have := List.length_take_le k l
  unfold toldK
  simp at h
  omega

theorem rune_two {t : List Nat} (h : t.length ≤ 2) : runeV t = [Value.int .i32 (t.getD 0 0 : Nat), Value.int .i32 (t.getD 1 0 : Nat)].take t.length := by
  match t, h with
  | [], _ => rfl
  | [x], _ => rfl
  | [x, y], _ => rfl

theorem two_new (w : World) (x y : Value) (p : Nat) (t : TypeId) : ∀ j u, ([x, y].take p)[j]? = some u → (w.alloc (.cells #[x, y] t)).cell? ((⟨w.heap.size, 0, none⟩ : Addr).add j) = some u := by
  intro j u hu
  rw [add_zero]
  rw [List.getElem?_take] at hu
  split at hu
  · match j, hu with
    | 0, hu => simp at hu; subst hu; simp
    | 1, hu => simp at hu; subst hu; simp
    | j + 2, hu => simp at hu
  · cases hu

end Go.Proofs.YtfekjlajagoooaaDoor.D5
