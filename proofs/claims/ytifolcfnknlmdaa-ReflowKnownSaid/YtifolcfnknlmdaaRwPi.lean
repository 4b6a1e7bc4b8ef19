/- Layer 11: the program's Text. -/
import Derived.Test.YtifolcfnknlmdaaRwPh
import Derived.Test.YtifolcfnknlmdaaRwShelf
import Derived.Laws.IdiomStrings
import Derived.Lib.SmallJoins
set_option linter.unusedVariables false
namespace Go.Proofs.Ytifolcfnknlmdaa.Rw
open Go.RowKit

/-! ### plain -/
def allT (l : List Ce) : List UInt8 := bytesV (keepV l)
def endT (l : List Ce) : Nat := (bytesV (trimV l)).length
theorem keep_two {m : List Ce} {c : Ce} (h : c.w = 2) : keepV (m ++ [c]) = keepV m := by
  unfold keepV
  rw [List.filter_append, List.filter_cons_of_neg (by simp [h]), List.filter_nil, List.append_nil]
theorem keep_one {m : List Ce} {c : Ce} (h : c.w ≠ 2) : keepV (m ++ [c]) = keepV m ++ [c] := by
  unfold keepV
  rw [List.filter_append, List.filter_cons_of_pos (by simpa using h), List.filter_nil]
theorem all_two {m : List Ce} {c : Ce} (h : c.w = 2) : allT (m ++ [c]) = allT m ∧ endT (m ++ [c]) = endT m := by
  unfold allT endT trimV
  rw [keep_two h]
  exact ⟨rfl, rfl⟩
theorem bytes_app (a b : List Ce) : bytesV (a ++ b) = bytesV a ++ bytesV b := by unfold bytesV; rw [List.flatMap_append]
theorem all_one {m : List Ce} {c : Ce} (h : c.w ≠ 2) : allT (m ++ [c]) = allT m ++ Lib.encodeRune c.r := by
  unfold allT
  rw [keep_one h, bytes_app]
  congr 1
  unfold bytesV
  simp
theorem end_blank {m : List Ce} {c : Ce} (h : c.w ≠ 2) (hb : isBlank c = true) : endT (m ++ [c]) = endT m := by
  unfold endT trimV
  rw [keep_one h, List.reverse_append, List.reverse_cons, List.reverse_nil, List.nil_append, List.cons_append, List.nil_append, List.dropWhile_cons_of_pos hb]
theorem end_some {m : List Ce} {c : Ce} (h : c.w ≠ 2) (hb : isBlank c = false) : endT (m ++ [c]) = (allT (m ++ [c])).length := by
  unfold endT trimV allT
  rw [keep_one h, List.reverse_append, List.reverse_cons, List.reverse_nil, List.nil_append, List.cons_append, List.nil_append, List.dropWhile_cons_of_neg (by simp [hb]), List.reverse_cons, List.reverse_reverse]
theorem text_take (l : List Ce) : (allT l).take (endT l) = bytesV (trimV l) ∧ endT l ≤ (allT l).length := by
  have e : keepV l = trimV l ++ ((keepV l).reverse.takeWhile isBlank).reverse := by
    unfold trimV
    rw [← List.reverse_append, List.takeWhile_append_dropWhile, List.reverse_reverse]
  have e2 : allT l = bytesV (trimV l) ++ bytesV (((keepV l).reverse.takeWhile isBlank).reverse) := by
    rw [← bytes_app, ← e]; rfl
  rw [e2]
  unfold endT
  exact ⟨List.take_left, by rw [List.length_append]; omega⟩
theorem enc_le (r : Int) : (Lib.encodeRune r).length ≤ 4 := by
  have := Lib.runeCells_le r
  rw [Lib.runeCells_length] at this
  exact this.2
theorem bytes_le (m : List Ce) : (bytesV m).length ≤ 4 * m.length := by
  induction m with
  | nil => simp [bytesV]
  | cons c m ih =>
    have h : bytesV (c :: m) = Lib.encodeRune c.r ++ bytesV m := rfl
    have := enc_le c.r
    rw [h, List.length_append, List.length_cons]
    omega
theorem all_le (m : List Ce) : (allT m).length ≤ 4 * m.length := by
  have h1 := bytes_le (keepV m)
  have h2 : (keepV m).length ≤ m.length := List.length_filter_le _ _
  unfold allT
  omega
theorem blank_iff (c : Ce) : decide (c ≠ blankC c.a) = !isBlank c := by
  obtain ⟨r, w, a⟩ := c
  by_cases h1 : r = 32
  · by_cases h2 : w = 0
    · subst h1 h2; simp [blankC, isBlank]
    · simp [blankC, isBlank, h2]
  · simp [blankC, isBlank, h1]

/-! ### bytes of the call's own -/
def OwnBt (w : World) (base : Nat) (v : Value) (b : List UInt8) : Prop := w.ownsRow base 5 1 v b.length (Lib.byteCells b)
theorem bt_none (w : World) (base : Nat) : OwnBt w base (.slice none 0 0) [] := ⟨rfl, Or.inl ⟨rfl, rfl⟩⟩
theorem bt_ge {w : World} {base : Nat} {v : Value} {b : List UInt8} (h : OwnBt w base v b) : ∀ g, v.ownBlock = some g → base ≤ g ∧ g < w.heap.size := by
  intro g hg
  rcases h.2 with ⟨rfl, _⟩ | ⟨g', cap, cur, rfl, hb, hh, _⟩
  · simp [Value.ownBlock] at hg
  · have : g' = g := by simpa [Value.ownBlock] using hg
    subst this
    exact ⟨hb, blk_lt hh⟩
theorem bt_below {w w' : World} {base : Nat} {v : Value} {b : List UInt8} (h : OwnBt w base v b) (hb : Below w.heap.size w w') : OwnBt w' base v b := by
  refine ⟨h.1, ?_⟩
  rcases h.2 with h0 | ⟨g, cap, cur, rfl, h1, h2, h3⟩
  · exact Or.inl h0
  · exact Or.inr ⟨g, cap, cur, rfl, h1, (hb.block g (blk_lt h2)).trans h2, h3⟩
theorem byte_len (b : List UInt8) : (Lib.byteCells b).length = b.length := by simp [Lib.byteCells]
theorem app_rune {w : World} {base : Nat} {v : Value} {b : List UInt8} (h : OwnBt w base v b) (hl : b.length ≤ 1000000) (hw : base ≤ w.heap.size) (r : Int) (h0 : -2147483648 ≤ r) (h1 : r ≤ 2147483647) :
    Calls Try.prog 35 #[v, .int .i32 r] w fun e w' => ∃ g c, e = .returned (.slice (some ⟨g, 0, none⟩) (b ++ Lib.encodeRune r).length c) ∧ OwnBt w' base (.slice (some ⟨g, 0, none⟩) (b ++ Lib.encodeRune r).length c) (b ++ Lib.encodeRune r) ∧ (∀ B w0, Below B w0 w → B ≤ base → Below B w0 w') ∧ w.heap.size ≤ w'.heap.size ∧ ∀ q, q < w.heap.size → v.ownBlock ≠ some q → w'.heap[q]? = w.heap[q]? := by
  refine (Try.utf8_AppendRune_plain base v b.length _ r h0 h1 w h (by omega) hw).mono ?_
  rintro e w' ⟨v', rfl, ho, o, hg⟩
  have e1 : Lib.byteCells b ++ Lib.runeCells r = Lib.byteCells (b ++ Lib.encodeRune r) := by
    rw [← Lib.byteCells_encodeRune]; simp [Lib.byteCells]
  have e2 : b.length + (Lib.runeCells r).length = (b ++ Lib.encodeRune r).length := by rw [List.length_append, Lib.runeCells_length]
  have hp : 0 < (b ++ Lib.encodeRune r).length := by
    have := (Lib.runeCells_le r).1
    omega
  rw [e1, e2] at ho
  obtain ⟨g, c, rfl⟩ := Joins.ownsRow_form ho hp
  have hA : Below w.heap.size w (w.alloc o) := (Below.refl _ _).alloc (Nat.le_refl _) _
  have hs : (w.alloc o).heap.size = w.heap.size + 1 := by simp
  refine ⟨g, c, rfl, ho, fun B w0 hb hB => ?_, ?_, fun q hq hv => ?_⟩
  · refine (hb.trans (hA.mono (Nat.le_trans hB hw))).grown hg (by omega) fun k hk => Nat.le_trans hB (bt_ge h k hk).1
  · have := hg.size; omega
  · exact (hg.block q (by omega) (fun e => hv e.symm)).trans (hA.block q hq)
theorem str_win (g n c E : Nat) (hE : E ≤ c) (W : World) : (Instr.slice 77 (.slice (some ⟨g, 0, none⟩) n c) none (some (.int .i64 (E : Int))) none).run Try.prog W = .ok (.slice (some ⟨g, 0, none⟩) E c) W := by
  have hu : Try.prog.underlying 77 = some (.slice (Try.prog.elem 77)) := by kernel_rfl
  have hs : ∀ W, (sizeOf (Try.prog.elem 77)).run Try.prog W = .ok 1 W := fun W => by kernel_rfl
  rw [run_slice_h W 77 (some ⟨g, 0, none⟩) n c hu .i64 (E : Int) (by omega) (by omega), hs]
  simp only [Result.andThen, sliced, Int.toNat_natCast, Option.map_some, add_zz]
  split <;> simp
theorem bt_string {w : World} {base g n c : Nat} {b : List UInt8} (h : OwnBt w base (.slice (some ⟨g, 0, none⟩) n c) b) (E : Nat) (hE : E ≤ b.length) (W : World) (hW : W.heap[g]? = w.heap[g]?) : (convert 77 9 (.slice (some ⟨g, 0, none⟩) E c)).run Try.prog W = .ok (.string ⟨(b.take E).toArray⟩) W := by
  have hl : (b.take E).length = E := by rw [List.length_take]; omega
  have := run_convert_bytes_back (P := Try.prog) W 77 9 5 ⟨g, 0, none⟩ c (b.take E) Try.underlying77 Try.underlying5 Try.underlying9 (fun j hj => ?_)
  · rwa [hl] at this
  · rw [hl] at hj
    rcases h.2 with ⟨e, _⟩ | ⟨g', cap, cur, e, _, hh, hn, _, hc, hx⟩
    · cases e
    · cases e
      rw [add_zz, cell_of (hW.trans hh)]
      have h1 : (cur.toList.take (b.length * 1))[j]? = (Lib.byteCells b)[j]? := by rw [hx]
      rw [List.getElem?_take, if_pos (by omega), Array.getElem?_toList] at h1
      rw [h1]
      simp [Lib.byteCells, List.getElem?_eq_getElem (show j < b.length by omega)]
end Go.Proofs.Ytifolcfnknlmdaa.Rw
