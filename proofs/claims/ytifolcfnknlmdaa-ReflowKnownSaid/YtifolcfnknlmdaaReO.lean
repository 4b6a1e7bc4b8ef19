/- Layer 15: the law's own line of a text. -/
import Derived.Test.YtifolcfnknlmdaaReB
import Derived.Test.YtifolcfnknlmdaaRwC
import Derived.Lib.OthersKept
import Derived.WalkSmall
import Derived.WalkSpells
set_option linter.unusedVariables false
namespace Go.Proofs.Ytifolcfnknlmdaa.Re
open Go.RowKit Go.Proofs.Ytifolcfnknlmdaa.Rw

/-- A text's characters from a place on, as Go's loop reads them. -/
def Steps (s : ByteArray) : Nat → List Nat → Prop
  | pos, [] => s.size ≤ pos
  | pos, r :: rs => pos < s.size ∧ (Utf8.decode s pos).1 = r ∧ 1 ≤ (Utf8.decode s pos).2 ∧ Steps s (pos + (Utf8.decode s pos).2) rs
def ofR (r : Nat) : List Ce := if 255 < r then [⟨r, 1, zeroAa⟩, ⟨r, 2, zeroAa⟩] else [⟨r, 0, zeroAa⟩]
def ofV (rs : List Nat) : List Ce := rs.flatMap ofR
theorem ofV_snoc (rs : List Nat) (r : Nat) : ofV (rs ++ [r]) = ofV rs ++ ofR r := by simp [ofV]
theorem iterPos_of {w : World} {k : Nat} {s : ByteArray} {p : Nat} (h : w.heap[k]? = some (.stringIter s p)) : w.iterPos k = p := by simp [World.iterPos, h]
theorem ofR_len (r : Nat) : (ofR r).length ≤ 2 := by unfold ofR; split <;> simp
theorem ofV_len (rs : List Nat) : (ofV rs).length ≤ 2 * rs.length := by
  induction rs with
  | nil => simp [ofV]
  | cons r rs ih =>
    have e : ofV (r :: rs) = ofR r ++ ofV rs := rfl
    rw [e, List.length_append, List.length_cons]
    have := ofR_len r
    omega
/-- Two cells, made as a slice. -/
theorem two_lies (w : World) (r : Int) : Lies (w.alloc (.cells #[.int .i32 r, .int .u8 1, .int .u16 0, .int .u8 0, .int .u32 0, .int .u8 0, .int .u32 0, .int .i32 r, .int .u8 2, .int .u16 0, .int .u8 0, .int .u32 0, .int .u8 0, .int .u32 0] 38)) (.slice (some ⟨w.heap.size, 0, none⟩) 2 2) [⟨r, 1, zeroAa⟩, ⟨r, 2, zeroAa⟩] := by
  refine ⟨_, 2, rfl, fun e => (by cases e), ⟨Nat.le_refl 2, by decide⟩, fun _ => ⟨w.heap.size, 0, rfl, by simp, fun i hi j u hj => ?_⟩⟩
  rw [cell_of (heap_alloc_new w _)]
  have hi : i < 2 := hi
  have hj7 : j < 7 := by
    have := (List.getElem?_eq_some_iff.1 hj).1
    rwa [cells_len] at this
  have : i = 0 ∨ i = 1 := by omega
  have hj8 : j = 0 ∨ j = 1 ∨ j = 2 ∨ j = 3 ∨ j = 4 ∨ j = 5 ∨ j = 6 := by omega
  rcases this with rfl | rfl <;> rcases hj8 with rfl | rfl | rfl | rfl | rfl | rfl | rfl <;> exact hj
/-- A line is answered, its cells of the call's own. -/
def LinePost (w : World) (l : LnC) (e : Ending) (w' : World) : Prop := ∃ u, e = .returned (.agg #[u, .bool l.joined, .bool l.short]) ∧ OwnC w' w.heap.size u l.cells ∧ Below w.heap.size w w'
theorem zero_line (W : World) : (zeroValue 30).run Try.prog W = .ok (.agg #[.slice none 0 0, .bool false, .bool false]) W := by kernel_rfl

structure OfRel (w wr : World) (s : ByteArray) (rs : List Nat) (j h : Bool) (v : Value) (pos : Nat) (a b : List Nat) : Prop where
  cut : rs = a ++ b
  steps : Steps s pos b
  res : wr.heap[w.heap.size]? = some (.cells #[.slice none 0 0, .bool false, .bool false] 30 (0, 0))
  loc : wr.heap[w.heap.size + 1]? = some (.cells #[v, .bool j, .bool h] 30 (0, 0))
  it : wr.heap[w.heap.size + 2]? = some (.stringIter s pos)
  own : OwnC wr (w.heap.size + 3) v (ofV a)
  old : Below w.heap.size w wr
  sz : w.heap.size + 3 ≤ wr.heap.size

theorem heap_set0 {w : World} {g : Nat} {a b c : Value} {t : TypeId} (h : w.heap[g]? = some (.cells #[a, b, c] t (0, 0))) (v : Value) : (w.setCell ⟨g, 0, none⟩ v).heap[g]? = some (.cells #[v, b, c] t (0, 0)) := by
  have := heap_setCell_same w g 0 _ _ v h
  simpa using this
theorem OfRel.next {w W1 w2 : World} {s : ByteArray} {rs a b : List Nat} {u v : Value} {j h : Bool} {pos r : Nat} {x : Obj} (hc : rs = a ++ r :: b) (hs : Steps s pos b) (hres : W1.heap[w.heap.size]? = some (.cells #[.slice none 0 0, .bool false, .bool false] 30 (0, 0))) (hloc : W1.heap[w.heap.size + 1]? = some (.cells #[u, .bool j, .bool h] 30 (0, 0))) (hit : W1.heap[w.heap.size + 2]? = some (.stringIter s pos)) (hO : OwnC W1 (w.heap.size + 3) u (ofV a)) (hB : Below w.heap.size w W1) (hz : w.heap.size + 3 ≤ W1.heap.size)
    (ho : OwnC w2 (w.heap.size + 3) v (ofV a ++ ofR r)) (gr : (W1.alloc x).grownBy w2 u.ownBlock) : w2.heap[w.heap.size + 1]? = some (.cells #[u, .bool j, .bool h] 30 (0, 0)) ∧ OfRel w (w2.setCell ⟨w.heap.size + 1, 0, none⟩ v) s rs j h v pos (a ++ [r]) b := by
  have hold : ∀ k, k < w.heap.size + 3 → w2.heap[k]? = W1.heap[k]? := fun k hk => by
    rw [gr.block k (by simp; omega) (fun e => by have := own_ge hO _ e.symm; omega), Below.heap_alloc _ _ _ (by omega)]
  have h1 := (hold _ (by omega)).trans hloc
  refine ⟨h1, ⟨by rw [hc]; simp, hs, ?_, heap_set0 h1 v, ?_, ?_, ?_, ?_⟩⟩
  · rw [Below.heap_setCell _ _ _ _ (by show w.heap.size ≠ w.heap.size + 1; omega), hold _ (by omega)]
    exact hres
  · rw [Below.heap_setCell _ _ _ _ (by show w.heap.size + 2 ≠ w.heap.size + 1; omega), hold _ (by omega)]
    exact hit
  · rw [ofV_snoc]
    exact own_keep ho fun g hg => Below.heap_setCell _ _ _ _ (by have := own_ge ho g hg; show g ≠ w.heap.size + 1; omega)
  · exact (((hB.alloc (by omega) x).grown gr (by simp; omega) (fun g hg => by have := own_ge hO g hg; omega))).setCell (p := ⟨w.heap.size + 1, 0, none⟩) (by show w.heap.size ≤ w.heap.size + 1; omega) v
  · have := gr.size
    simp at this ⊢
    omega
/-- The end: the line stands in the result's cell. -/
theorem OfRel.last {w wr : World} {s : ByteArray} {rs a : List Nat} {j h : Bool} {v : Value} {pos : Nat} (hr : OfRel w wr s rs j h v pos a []) : ∃ W, W = ((wr.setCell ⟨w.heap.size, 0, none⟩ v).setCell ⟨w.heap.size, 1, none⟩ (.bool j)).setCell ⟨w.heap.size, 2, none⟩ (.bool h) ∧ W.heap[w.heap.size]? = some (.cells #[v, .bool j, .bool h] 30 (0, 0)) ∧ OwnC W w.heap.size v (ofV rs) ∧ Below w.heap.size w W := by
  have hc := hr.cut
  rw [List.append_nil] at hc
  have h0 := heap_set0 hr.res v
  have h1 := heap_setCell_same _ w.heap.size 1 _ _ (.bool j) h0
  have h2 := heap_setCell_same _ w.heap.size 2 _ _ (.bool h) h1
  refine ⟨_, rfl, by simpa using h2, ?_, ((hr.old.setCell (p := ⟨w.heap.size, 0, none⟩) (Nat.le_refl _) v).setCell (p := ⟨w.heap.size, 1, none⟩) (Nat.le_refl _) _).setCell (p := ⟨w.heap.size, 2, none⟩) (Nat.le_refl _) _⟩
  rw [hc]
  refine own_less (own_keep hr.own fun g hg => ?_) (by omega)
  have hne : g ≠ w.heap.size := by have := own_ge hr.own g hg; omega
  rw [Below.heap_setCell _ _ _ _ hne, Below.heap_setCell _ _ _ _ hne, Below.heap_setCell _ _ _ _ hne]

set_option maxRecDepth 100000 in
set_option maxHeartbeats 4000000 in
theorem of_any (s : ByteArray) (j h : Bool) (rs : List Nat) (hs : Steps s 0 rs) (hl : rs.length ≤ 1000) (w : World) :
    Calls Try.prog 13 #[.string s, .bool j, .bool h] w (LinePost w ⟨ofV rs, j, h⟩) := by
  have HS := Lib.hid hs
  have zl := zero_line
  clear hs
  go_enter Try.func13, Try.ntmps13
  go_wp2
  go_loopw [9] (fun r0 wr => ∃ (v : Value) (pos : Nat) (a b : List Nat) (wz : World), wz = wr ∧ OfRel w wz s rs j h v pos a b) (fun _ wr => s.size - wr.iterPos (w.heap.size + 2))
  case atStart =>
    obtain ⟨V1, hV1⟩ : ∃ V1, w.alloc (.cells #[.slice none 0 0, .bool false, .bool false] 30) = V1 := ⟨_, rfl⟩
    have z1 : V1.heap.size = w.heap.size + 1 := by rw [← hV1]; simp
    have e1 : V1.heap[w.heap.size]? = some (.cells #[.slice none 0 0, .bool false, .bool false] 30 (0, 0)) := by rw [← hV1]; exact heap_alloc_new w _
    have b1 : Below w.heap.size w V1 := by rw [← hV1]; exact (Below.refl _ _).alloc (Nat.le_refl _) _
    rw [hV1]
    clear hV1
    obtain ⟨V2, hV2⟩ : ∃ V2, V1.alloc (.cells #[.slice none 0 0, .bool j, .bool h] 30) = V2 := ⟨_, rfl⟩
    have z2 : V2.heap.size = w.heap.size + 2 := by rw [← hV2]; simp [z1]
    have e2 : V2.heap[w.heap.size + 1]? = some (.cells #[.slice none 0 0, .bool j, .bool h] 30 (0, 0)) := by
      rw [← hV2, ← z1]; exact heap_alloc_new V1 _
    have e1' : V2.heap[w.heap.size]? = some (.cells #[.slice none 0 0, .bool false, .bool false] 30 (0, 0)) := by rw [← hV2, Below.heap_alloc _ _ _ (by omega)]; exact e1
    have b2 : Below w.heap.size w V2 := by rw [← hV2]; exact b1.alloc (by omega) _
    try rw [hV2]
    clear hV2
    have e3 := World.iter_heap V2 s 0
    rw [z2] at e3
    refine ⟨.slice none 0 0, 0, [], rs, _, rfl, rfl, HS.out, ?_, ?_, e3, own_none _ _, b2.alloc (by omega) _, by simp [World.iter, z2]⟩
    · exact (Below.heap_alloc V2 _ _ (by omega)).trans e1'
    · exact (Below.heap_alloc V2 _ _ (by omega)).trans e2
  case round =>
    obtain ⟨v, pos, a, b, wr, rfl, hr⟩ := hrel
    have hpos0 := Lib.hid (iterPos_of hr.it)
    cases b with
    | nil =>
      have hp : ¬ pos < s.size := by have : s.size ≤ pos := hr.steps; omega
      have hnx : ∀ ty, (Instr.next (.pointer (some ⟨w.heap.size + 2, 0, none⟩)) true ty).run Try.prog wr = .ok (.tuple #[.bool false]) wr := fun ty => Lib.run_next_end_at wr (w.heap.size + 2) s pos ty hr.it hp
      obtain ⟨W, hW, hWr, hO, hB⟩ := hr.last
      obtain ⟨N, A', c', rfl⟩ : ∃ N A' c', v = .slice A' N c' := by obtain ⟨A', c', e, -⟩ := own_lies hr.own; exact ⟨_, _, _, e⟩
      have HW := Lib.hid hW
      have HE := Lib.hid (And.intro hWr (And.intro hO hB))
      have l0 := cell_of hr.loc 0
      have l1 := cell_of hr.loc 1
      have l2 := cell_of hr.loc 2
      have r0 := cell_of hr.res 0
      have r1 := cell_of hr.res 1
      have r2 := cell_of hr.res 2
      have f0 := free_of hr.res 0
      have f1 := free_of hr.res 1
      have f2 := free_of hr.res 2
      clear hr hpos0 hp hW hWr hO hB
      go_wp2
      try rw [← HW.out]
      refine bodyPost_ret (results_cell_row Try.results13 _ _ w.heap.size _ _ _ _ rfl HE.out.1 Try.underlying30 rfl (by kernel_rfl)) rfl ?_
      exact ⟨_, rfl, HE.out.2.1, HE.out.2.2⟩
    | cons r b =>
      obtain ⟨hp, hdr, hd1, hst⟩ := hr.steps
      have hnx0 : ∀ ty, (Instr.next (.pointer (some ⟨w.heap.size + 2, 0, none⟩)) true ty).run Try.prog wr = _ := fun ty => Lib.run_next_any_at wr (w.heap.size + 2) s pos ty hr.it hp
      obtain ⟨W1, hW1⟩ : ∃ W1, W1 = wr.iterAt (w.heap.size + 2) s (pos + (Utf8.decode s pos).2) := ⟨_, rfl⟩
      have hold : ∀ k, k ≠ w.heap.size + 2 → W1.heap[k]? = wr.heap[k]? := fun k hk => by rw [hW1]; exact Lib.iterAt_other wr (w.heap.size + 2) k s _ hk
      have hit2 := Lib.hid (hW1 ▸ Lib.iterAt_heap wr (w.heap.size + 2) s pos (pos + (Utf8.decode s pos).2) hr.it)
      have hbw2 := Lib.hid (hW1 ▸ Lib.below_iterAt hr.old (k := w.heap.size + 2) (by omega) s (pos + (Utf8.decode s pos).2))
      have hown2 : Hid (OwnC W1 (w.heap.size + 3) v (ofV a)) := Lib.hid (own_keep hr.own fun g hg => hold g (by have := own_ge hr.own g hg; omega))
      have hsz2 : Hid (w.heap.size + 3 ≤ W1.heap.size) := Lib.hid (by rw [hW1, Lib.iterAt_size]; exact hr.sz)
      have hres2 := Lib.hid ((hold w.heap.size (by omega)).trans hr.res)
      have hloc2 := Lib.hid ((hold (w.heap.size + 1) (by omega)).trans hr.loc)
      have l0 := cell_of hloc2.out 0
      have HC := Lib.hid hr.cut
      have HSt := Lib.hid hst
      have HD := Lib.hid hd1
      have hla := ofV_len a
      have hlen : a.length ≤ 1000 := by have := hl; rw [hr.cut, List.length_append] at this; omega
      have HP := Lib.hid hp
      rw [← hW1, hdr] at hnx0
      clear hr hW1 hst hdr hd1 hp hold
      by_cases hw : 255 < r
      · have g1 : decide ((r : Int) > 255) = true := by simp; omega
        have HE : Hid (ofR r = [⟨r, 1, zeroAa⟩, ⟨r, 2, zeroAa⟩]) := Lib.hid (by unfold ofR; rw [if_pos hw])
        go_wp2_with (at_builtin; refine append_cells _ rfl (.tmp 21) (.tmp 26) rfl (w.heap.size + 3) _ _ (ofV a) [⟨r, 1, zeroAa⟩, ⟨r, 2, zeroAa⟩] rfl (own_below hown2.out ((Below.refl _ _).alloc (Nat.le_refl _) _) (Nat.le_refl _)) rfl (two_lies W1 r) (by simp; omega) (by have := hsz2.out; simp; omega) ?_)
        intro v' w2 o2 gr
        obtain ⟨N, A', c', rfl⟩ : ∃ N A' c', v' = .slice A' N c' := by obtain ⟨A', c', e, -⟩ := own_lies o2; exact ⟨_, _, _, e⟩
        have R0 := OfRel.next HC.out HSt.out hres2.out hloc2.out hit2.out hown2.out hbw2.out hsz2.out (by rw [HE.out]; exact o2) gr
        have R2 := Lib.hid R0.2
        have k0 := cell_of R0.1 0
        have kf := free_of R0.1 0
        clear o2 gr hit2 hbw2 hown2 R0 l0
        go_wp2
        go_roundw
        case rel => exact ⟨_, _, _, _, _, rfl, R2.out⟩
        case measure => rw [iterPos_of R2.out.it, hpos0.out]; have := HD.out; have := HP.out; omega
      · have g1 : decide ((r : Int) > 255) = false := by simp; omega
        have HE : Hid (ofR r = [⟨r, 0, zeroAa⟩]) := Lib.hid (by unfold ofR; rw [if_neg hw])
        go_wp2_with (at_builtin; refine append_cells _ rfl (.tmp 30) (.tmp 33) rfl (w.heap.size + 3) _ _ (ofV a) [⟨r, 0, zeroAa⟩] rfl (own_below hown2.out ((Below.refl _ _).alloc (Nat.le_refl _) _) (Nat.le_refl _)) rfl (one_lies W1 ⟨r, 0, zeroAa⟩) (by simp; omega) (by have := hsz2.out; simp; omega) ?_)
        intro v' w2 o2 gr
        obtain ⟨N, A', c', rfl⟩ : ∃ N A' c', v' = .slice A' N c' := by obtain ⟨A', c', e, -⟩ := own_lies o2; exact ⟨_, _, _, e⟩
        have R0 := OfRel.next HC.out HSt.out hres2.out hloc2.out hit2.out hown2.out hbw2.out hsz2.out (by rw [HE.out]; exact o2) gr
        have R2 := Lib.hid R0.2
        have k0 := cell_of R0.1 0
        have kf := free_of R0.1 0
        clear o2 gr hit2 hbw2 hown2 R0 l0
        go_wp2
        go_roundw
        case rel => exact ⟨_, _, _, _, _, rfl, R2.out⟩
        case measure => rw [iterPos_of R2.out.it, hpos0.out]; have := HD.out; have := HP.out; omega
end Go.Proofs.Ytifolcfnknlmdaa.Re
