/- Layer 11: the document's Insert, Delete, Erase. Layer 11: the document's Resize. Layer 11: the document's Write. Layer 11: the law's own row of a text. Layer 11: what the program's calls answer (plain): blanks, a row's text; contracts said of whatever values. -/
import Derived.Test.YtifolcfnknlmdaaRwF
import Derived.Lib.OthersKept
import Derived.WalkSmall
import Derived.WalkSpells
import Derived.Lib.RuneBytes
/-! ## Layer 11: the document's Insert, Delete, Erase. -/
set_option linter.unusedVariables false
namespace Go.Proofs.Ytifolcfnknlmdaa.Rw
open Go.RowKit

abbrev attrO (a : Aa) : Obj := .cells #[.int .u16 (a.fl : Int), .int .u8 (a.fk : Int), .int .u32 (a.fn : Int), .int .u8 (a.bk : Int), .int .u32 (a.bn : Int)] 36 (0, 0)
/-- An Attr that came in, in its own block. -/
theorem box_at (w : World) (a : Aa) : ∃ W, W = w.alloc (attrO a) ∧ Below w.heap.size w W ∧ w.heap.size + 1 = W.heap.size ∧ ∀ V, Below W.heap.size W V → V.heap[w.heap.size]? = some (attrO a) := by
  refine ⟨_, rfl, (Below.refl _ _).alloc (Nat.le_refl _) _, by simp, fun V hV => (hV.block _ (by simp)).trans (heap_alloc_new w _)⟩
theorem own_somek {w : World} {base : Nat} {v : Value} {l : List Ce} {k : Nat} (h : OwnC w base v l) (hk : k = l.length) (hl : 0 < k) : ∃ g c, v = .slice (some ⟨g, 0, none⟩) k c ∧ base ≤ g ∧ g < w.heap.size ∧ k ≤ c ∧ c ≤ 9223372036854775807 ∧ RowR w w.heap.size (some ⟨g, 0, none⟩) l := by
  obtain ⟨g, c, rfl, h1, h2⟩ := own_some h (by omega)
  obtain ⟨_, _, ⟨h3, h4⟩, h5⟩ := (own_lies h).row
  exact ⟨g, c, by rw [hk], h1, h2, by omega, h4, h5⟩
theorem room_in {k : Nat} {x n : Int} (h : roomV k x n ≠ 0) : ∃ X : Nat, x = (X : Int) := ⟨x.toNat, by have := (room_le h).1; omega⟩

end Go.Proofs.Ytifolcfnknlmdaa.Rw

/-! ## Layer 11: the document's Resize. -/
set_option linter.unusedVariables false
namespace Go.Proofs.Ytifolcfnknlmdaa.Rw
open Go.RowKit

theorem flat_take (l : List Ce) (k : Nat) : flatC (l.take k) = (flatC l).take (k * 7) := by
  induction l generalizing k with
  | nil => simp [flatC]
  | cons a l ih =>
    cases k with
    | zero => simp [flatC]
    | succ k =>
      have e1 : flatC ((a :: l).take (k + 1)) = cellsC a ++ flatC (l.take k) := rfl
      have e2 : flatC (a :: l) = cellsC a ++ flatC l := rfl
      have e3 : (cellsC a).take ((k + 1) * 7) = cellsC a := List.take_of_length_le (by rw [cells_len]; omega)
      rw [e1, e2, ih, List.take_append, cells_len, e3, show (k + 1) * 7 - 7 = k * 7 by omega]
theorem own_take {w : World} {base g n c : Nat} {l : List Ce} (h : OwnC w base (.slice (some ⟨g, 0, none⟩) n c) l) {k : Nat} (hk : k ≤ n) : OwnC w base (.slice (some ⟨g, 0, none⟩) k c) (l.take k) := by
  have hn := (own_lies h).row.1
  rcases own_shape h with ⟨e, _⟩ | ⟨g', c', cur, e, hb, hl, hh, hc, hm, hsz, hx⟩
  · cases e
  · cases e
    have hlk : (l.take k).length = k := by rw [List.length_take]; omega
    refine ⟨by rw [flat_len], Or.inr ⟨g, c, cur, by rw [hlk], hb, hh, by omega, hm, hsz, ?_⟩⟩
    rw [hlk, flat_take, ← hx, List.take_take]
    congr 1
    omega

end Go.Proofs.Ytifolcfnknlmdaa.Rw

/-! ## Layer 11: the document's Write. -/
set_option linter.unusedVariables false
namespace Go.Proofs.Ytifolcfnknlmdaa.Rw
open Go.RowKit

/-- Write's answer: a row of the call's own, or nothing. -/
def WriPost (w : World) (l : List Ce) (ok : Bool) (e : Ending) (w' : World) : Prop := (if ok then ∃ v, e = .returned (.tuple #[v, .bool true]) ∧ OwnC w' w.heap.size v l else e = .returned (.tuple #[.slice none 0 0, .bool false])) ∧ Below w.heap.size w w'
def litC1 (w : World) (a : Aa) (r : Int) : World := (w.alloc (attrO a)).alloc (.cells #[.int .i32 r, .int .u8 0, .int .u16 (a.fl : Int), .int .u8 (a.fk : Int), .int .u32 (a.fn : Int), .int .u8 (a.bk : Int), .int .u32 (a.bn : Int)] 38)
abbrev pen2O (a : Aa) (r : Int) : Obj := .cells #[.int .i32 r, .int .u8 1, .int .u16 (a.fl : Int), .int .u8 (a.fk : Int), .int .u32 (a.fn : Int), .int .u8 (a.bk : Int), .int .u32 (a.bn : Int), .int .i32 r, .int .u8 2, .int .u16 (a.fl : Int), .int .u8 (a.fk : Int), .int .u32 (a.fn : Int), .int .u8 (a.bk : Int), .int .u32 (a.bn : Int)] 38 (0, 0)
def litC2 (w : World) (a : Aa) (r : Int) : World := (litC1 w a r).alloc (pen2O a r)
theorem lit1_at (w : World) (a : Aa) (r : Int) : Below w.heap.size w (litC1 w a r) ∧ Lies (litC1 w a r) (.slice (some ⟨w.heap.size + 1, 0, none⟩) 1 1) (penV r false a) := by
  have hs : (w.alloc (attrO a)).heap.size = w.heap.size + 1 := by simp
  refine ⟨((Below.refl _ _).alloc (Nat.le_refl _) _).alloc (by simp) _, ?_⟩
  have := one_lies (w.alloc (attrO a)) ⟨r, 0, a⟩
  rw [hs] at this
  exact this
theorem lit2_at (w : World) (a : Aa) (r : Int) : Below w.heap.size w (litC2 w a r) ∧ Lies (litC2 w a r) (.slice (some ⟨w.heap.size + 1 + 1, 0, none⟩) 2 2) (penV r true a) := by
  have hs : (litC1 w a r).heap.size = w.heap.size + 1 + 1 := by simp [litC1]
  have hB := (lit1_at w a r).1
  refine ⟨hB.alloc hB.size _, _, 2, rfl, fun e => (by cases e), ⟨Nat.le_refl 2, by decide⟩, fun _ => ⟨w.heap.size + 1 + 1, 0, rfl, by simp [litC2, hs], fun i hi j u hj => ?_⟩⟩
  have hb : (litC2 w a r).heap[w.heap.size + 1 + 1]? = some (pen2O a r) := by
    rw [← hs]
    exact heap_alloc_new (litC1 w a r) _
  rw [cell_of hb]
  have hi : i < 2 := hi
  have hj7 : j < 7 := by
    have := (List.getElem?_eq_some_iff.1 hj).1
    rwa [cells_len] at this
  have : i = 0 ∨ i = 1 := by omega
  have hj8 : j = 0 ∨ j = 1 ∨ j = 2 ∨ j = 3 ∨ j = 4 ∨ j = 5 ∨ j = 6 := by omega
  rcases this with rfl | rfl <;> rcases hj8 with rfl | rfl | rfl | rfl | rfl | rfl | rfl <;> exact hj

end Go.Proofs.Ytifolcfnknlmdaa.Rw

/-! ## Layer 11: the law's own row of a text. -/
set_option linter.unusedVariables false
namespace Go.Proofs.Ytifolcfnknlmdaa.Rw
open Go.RowKit

/-- A text's characters from a place on, as Go's loop reads them. -/
def Steps (s : ByteArray) : Nat → List Nat → Prop
  | pos, [] => s.size ≤ pos
  | pos, r :: rs => pos < s.size ∧ (Utf8.decode s pos).1 = r ∧ 1 ≤ (Utf8.decode s pos).2 ∧ Steps s (pos + (Utf8.decode s pos).2) rs
def ofR (r : Nat) : List Ce := if 255 < r then [⟨r, 1, zeroAa⟩, ⟨r, 2, zeroAa⟩] else [⟨r, 0, zeroAa⟩]
def ofV (rs : List Nat) : List Ce := rs.flatMap ofR
theorem ofV_snoc (rs : List Nat) (r : Nat) : ofV (rs ++ [r]) = ofV rs ++ ofR r := by simp [ofV]
theorem iterPos_of {w : World} {k : Nat} {s : ByteArray} {p : Nat} (h : w.heap[k]? = some (.stringIter s p)) : w.iterPos k = p := by simp [World.iterPos, h]
theorem ofR_len (r : Nat) : (ofR r).length ≤ 2 := by unfold ofR; split <;> simp
theorem ofV_len (rs : List Nat) : (ofV rs).length ≤ 2 * rs.length := by
  induction rs with
  | nil => simp [ofV]
  | cons r rs ih =>
    have e : ofV (r :: rs) = ofR r ++ ofV rs := rfl
    rw [e, List.length_append, List.length_cons]
    have := ofR_len r
    omega
/-- Two cells, made as a slice. -/
theorem two_lies (w : World) (r : Int) : Lies (w.alloc (.cells #[.int .i32 r, .int .u8 1, .int .u16 0, .int .u8 0, .int .u32 0, .int .u8 0, .int .u32 0, .int .i32 r, .int .u8 2, .int .u16 0, .int .u8 0, .int .u32 0, .int .u8 0, .int .u32 0] 38)) (.slice (some ⟨w.heap.size, 0, none⟩) 2 2) [⟨r, 1, zeroAa⟩, ⟨r, 2, zeroAa⟩] := by
  refine ⟨_, 2, rfl, fun e => (by cases e), ⟨Nat.le_refl 2, by decide⟩, fun _ => ⟨w.heap.size, 0, rfl, by simp, fun i hi j u hj => ?_⟩⟩
  rw [cell_of (heap_alloc_new w _)]
  have hi : i < 2 := hi
  have hj7 : j < 7 := by
    have := (List.getElem?_eq_some_iff.1 hj).1
    rwa [cells_len] at this
  have : i = 0 ∨ i = 1 := by omega
  have hj8 : j = 0 ∨ j = 1 ∨ j = 2 ∨ j = 3 ∨ j = 4 ∨ j = 5 ∨ j = 6 := by omega
  rcases this with rfl | rfl <;> rcases hj8 with rfl | rfl | rfl | rfl | rfl | rfl | rfl <;> exact hj

structure OfRel (w wr : World) (s : ByteArray) (rs : List Nat) (v : Value) (pos : Nat) (a b : List Nat) : Prop where
  cut : rs = a ++ b
  steps : Steps s pos b
  it : wr.heap[w.heap.size]? = some (.stringIter s pos)
  own : OwnC wr (w.heap.size + 1) v (ofV a)
  old : Below w.heap.size w wr
  sz : w.heap.size + 1 ≤ wr.heap.size
theorem OfRel.next {w W1 w2 : World} {s : ByteArray} {rs a b : List Nat} {u v : Value} {pos r : Nat} {x : Obj} (hc : rs = a ++ r :: b) (hs : Steps s pos b) (hit : W1.heap[w.heap.size]? = some (.stringIter s pos)) (hO : OwnC W1 (w.heap.size + 1) u (ofV a)) (hB : Below w.heap.size w W1) (hz : w.heap.size + 1 ≤ W1.heap.size)
    (ho : OwnC w2 (w.heap.size + 1) v (ofV a ++ ofR r)) (gr : (W1.alloc x).grownBy w2 u.ownBlock) : OfRel w w2 s rs v pos (a ++ [r]) b := by
  refine ⟨by rw [hc]; simp, hs, ?_, by rw [ofV_snoc]; exact ho, ?_, Nat.le_trans hz (Nat.le_trans (by simp) gr.size)⟩
  · rw [gr.block _ (by simp; omega) (fun e => by have := own_ge hO _ e.symm; omega), Below.heap_alloc _ _ _ (by omega)]
    exact hit
  · exact (hB.alloc (by omega) x).grown gr (by simp; omega) (fun g hg => by have := own_ge hO g hg; omega)

end Go.Proofs.Ytifolcfnknlmdaa.Rw

/-! ## Layer 11: what the program's calls answer (plain): blanks, a row's text; contracts said of whatever values. -/
set_option linter.unusedVariables false
namespace Go.Proofs.Ytifolcfnknlmdaa.Rw
open Go.RowKit

def blankV (x : Int) (a : Aa) : List Ce := if x < 1 ∨ 400 < x then [] else blanks x.toNat a
/-- Its characters' cells. -/
def keepV (l : List Ce) : List Ce := l.filter fun c => c.w != 2
def isBlank (c : Ce) : Bool := c.r == 32 && c.w == 0
/-- Without the blanks at its end. -/
def trimV (l : List Ce) : List Ce := ((keepV l).reverse.dropWhile isBlank).reverse
def bytesV (l : List Ce) : List UInt8 := l.flatMap fun c => Lib.encodeRune c.r
def textV (l : List Ce) : ByteArray := ⟨(bytesV (trimV l)).toArray⟩
/-- Its runes are int32's. -/
def runesB (l : List Ce) : Bool := l.all fun c => decide (-2147483648 ≤ c.r) && decide (c.r ≤ 2147483647)
/-- Write's answer, of whatever program. -/
def PutPost (w : World) (l : List Ce) (ok : Bool) (e : Ending) (w' : World) : Prop := ∃ v, e = .returned (.tuple #[v, .bool ok]) ∧ OwnC w' w.heap.size v (if ok then l else []) ∧ Below w.heap.size w w'
theorem WriPost.put {w w' : World} {l : List Ce} {ok : Bool} {e : Ending} (h : WriPost w l ok e w') : PutPost w l ok e w' := by
  cases ok with
  | true => obtain ⟨⟨v, h1, h2⟩, h3⟩ := h; exact ⟨v, h1, h2, h3⟩
  | false => obtain ⟨h1, h3⟩ := h; exact ⟨_, h1, own_none _ _, h3⟩

theorem same_lies (u1 u2 : Value) (l1 l2 : List Ce) (w : World) (h1 : Lies w u1 l1) (h2 : Lies w u2 l2) (hl : l1.length ≤ 100000) : Calls Try.prog 19 #[u1, u2] w fun e w' => e = .returned (.bool (decide (l1 = l2))) ∧ Below w.heap.size w w' := by
  obtain ⟨A1, c1, rfl, _⟩ := id h1
  obtain ⟨A2, c2, rfl, _⟩ := id h2
  exact same_any l1 l2 A1 A2 _ _ c1 c2 w h1 h2 hl
theorem rwhole_lies (u : Value) (l : List Ce) (w : World) (h : Lies w u l) (hl : l.length ≤ 100000) : Calls Try.prog 20 #[u] w fun e w' => e = .returned (.bool (wholeB l)) ∧ Below w.heap.size w w' := by
  obtain ⟨A, c, rfl, _⟩ := id h
  exact rwhole_any l A _ c w h hl
def IntIn (n : Int) : Prop := -9223372036854775808 ≤ n ∧ n ≤ 9223372036854775807
/-! ### constants -/
def stepsB (s : ByteArray) : Nat → List Nat → Bool
  | pos, [] => decide (s.size ≤ pos)
  | pos, r :: rs => decide (pos < s.size) && (decide ((Utf8.decode s pos).1 = r) && (decide (1 ≤ (Utf8.decode s pos).2) && stepsB s (pos + (Utf8.decode s pos).2) rs))
theorem steps_of {s : ByteArray} : ∀ {rs : List Nat} {pos : Nat}, stepsB s pos rs = true → Steps s pos rs
  | [], pos, h => (of_decide_eq_true h : s.size ≤ pos)
  | r :: rs, pos, h => by
    simp only [stepsB, Bool.and_eq_true, decide_eq_true_eq] at h
    exact ⟨h.1, h.2.1, h.2.2.1, steps_of h.2.2.2⟩
end Go.Proofs.Ytifolcfnknlmdaa.Rw
