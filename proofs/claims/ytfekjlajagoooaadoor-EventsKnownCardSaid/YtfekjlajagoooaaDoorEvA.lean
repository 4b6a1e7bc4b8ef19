/- Layer 8: events in memory; the document's parser in memory; print. -/
import Derived.Test.YtfekjlajagoooaaDoorEvM
import Derived.Test.YtfekjlajagoooaaDoorF5DcU
import Derived.Test.YtfekjlajagoooaaDoorF7PaK
namespace Go.Proofs.YtfekjlajagoooaaDoor
open Go.RowKit Ev

abbrev strK := D5.strK
/-- An event's cells. -/
def evCells (e : EV) (A : Option Addr) (c : Nat) : List Value := [.int .i64 e.kind, .int .i32 e.rune, .int .u8 e.final, .string (strK e.mids), .slice A e.params.length c, .string (strK e.text)]
def IsEv (w : World) (e : EV) (l : List Value) : Prop := ∃ A c, l = evCells e A c ∧ P7.TabT w A e.params
theorem IsEv.keep {w w' : World} {e : EV} {l : List Value} (h : IsEv w e l) (hk : P7.KeepT w w') : IsEv w' e l := by
  obtain ⟨A, c, e1, e2⟩ := h
  exact ⟨A, c, e1, e2.keep hk⟩
theorem IsEv.len {w : World} {e : EV} {l : List Value} (h : IsEv w e l) : l.length = 6 := by
  obtain ⟨A, c, rfl, _⟩ := h
  rfl
def Evs (w : World) : List EV → List (List Value) → Prop
  | [], [] => True
  | e :: L, l :: ls => IsEv w e l ∧ Evs w L ls
  | _, _ => False
theorem Evs.keep {w w' : World} (hk : P7.KeepT w w') : ∀ {L : List EV} {ls : List (List Value)}, Evs w L ls → Evs w' L ls
  | [], [], _ => trivial
  | _ :: _, _ :: _, h => ⟨h.1.keep hk, Evs.keep hk h.2⟩
  | [], _ :: _, h => h.elim
  | _ :: _, [], h => h.elim
theorem Evs.snoc {w : World} {e : EV} {l : List Value} (h1 : IsEv w e l) : ∀ {L : List EV} {ls : List (List Value)}, Evs w L ls → Evs w (L ++ [e]) (ls ++ [l])
  | [], [], _ => ⟨h1, trivial⟩
  | _ :: _, _ :: _, h => ⟨h.1, Evs.snoc h1 h.2⟩
  | [], _ :: _, h => h.elim
  | _ :: _, [], h => h.elim

/-- The slice v, of the call's own, of elements of type T, reads as these events. -/
def Told (w : World) (base : Nat) (T : TypeId) (v : Value) (L : List EV) : Prop := ∃ ls, Evs w L ls ∧ w.ownsRow base T 6 v L.length ls.flatten

theorem Told.form {w : World} {base : Nat} {T : TypeId} {v : Value} {L : List EV} (h : Told w base T v L) : ∃ A c, v = .slice A L.length c := by
  obtain ⟨ls, _, h1⟩ := h
  rcases h1.2 with ⟨rfl, h0⟩ | ⟨g, cap, cur, rfl, _⟩
  · exact ⟨none, 0, by rw [h0]⟩
  · exact ⟨_, cap, rfl⟩
theorem Told.ge {w : World} {base : Nat} {T : TypeId} {v : Value} {L : List EV} (h : Told w base T v L) : ∀ g, v.ownBlock = some g → base ≤ g ∧ g < w.heap.size ∧ ∃ cur, w.heap[g]? = some (.cells cur T (0, 0)) := by
  obtain ⟨ls, _, h1⟩ := h
  intro g hg
  rcases h1.2 with ⟨rfl, _⟩ | ⟨g', cap, cur, rfl, hb, hh, _⟩
  · simp [Value.ownBlock] at hg
  · have : g' = g := by simpa [Value.ownBlock] using hg
    subst this
    exact ⟨hb, (Array.getElem?_eq_some_iff.1 hh).1, cur, hh⟩
/-- It stays where its block, and the blocks of numbers, stay. -/
theorem Told.keep {w w' : World} {base : Nat} {T : TypeId} {v : Value} {L : List EV} (h : Told w base T v L) (hk : P7.KeepT w w') (hb : ∀ g, v.ownBlock = some g → w'.heap[g]? = w.heap[g]?) : Told w' base T v L := by
  obtain ⟨ls, h0, h1⟩ := h
  refine ⟨ls, h0.keep hk, h1.1, ?_⟩
  rcases h1.2 with h2 | ⟨g, cap, cur, rfl, h3, h4, h5⟩
  · exact Or.inl h2
  · exact Or.inr ⟨g, cap, cur, rfl, h3, (hb g rfl).trans h4, h5⟩
theorem Told.below {w w' : World} {base : Nat} {T : TypeId} {v : Value} {L : List EV} (h : Told w base T v L) (hb : Below w.heap.size w w') : Told w' base T v L :=
  h.keep (P7.KeepT.of_below hb) fun g hg => hb.block g (h.ge g hg).2.1
theorem Told.nil (w : World) (base : Nat) (T : TypeId) : Told w base T (.slice none 0 0) [] := ⟨[], trivial, rfl, Or.inl ⟨rfl, rfl⟩⟩
/-- An event more: behind the append. -/
theorem Told.snoc {w1 : World} {base : Nat} {T : TypeId} {v1 : Value} {L : List EV} {ls : List (List Value)} {e : EV} {l : List Value} (h1 : Evs w1 L ls) (h2 : IsEv w1 e l) (hown : w1.ownsRow base T 6 v1 (L.length + 1) (ls.flatten ++ l)) : Told w1 base T v1 (L ++ [e]) := by
  refine ⟨ls ++ [l], h1.snoc h2, ?_⟩
  rw [List.length_append, List.flatten_append]
  simpa using hown

/-- grownBy over a block that is no number's. -/
theorem keep_grown {w w1 : World} {base : Nat} {T : TypeId} {v : Value} {L : List EV} (h : Told w base T v L) (hT : T ≠ 3 ∧ T ≠ 47) (hg : w.grownBy w1 v.ownBlock) : P7.KeepT w w1 := by
  refine ⟨hg.size, fun k cur t hk ht => hg.block k (Array.getElem?_eq_some_iff.1 hk).1 fun e => ?_⟩
  obtain ⟨_, _, cur', hc⟩ := h.ge k e.symm
  rw [hc] at hk
  cases hk
  rcases ht with rfl | rfl
  · exact hT.1 rfl
  · exact hT.2 rfl

/-- The cells of the document's parser. -/
def cellsQ (q : Q) (V : Value) : Array Value := #[.int .i64 q.st, .string (strK q.kept), .string (strK q.list), .string (strK q.mids), .int .u8 q.final, .string (strK q.text), V]
/-- The document's parser in memory, in block a, of the call's own from block base on; it told L. -/
structure RefP (w0 w : World) (base a : Nat) (q : Q) (L : List EV) (A : Option Addr) (c : Nat) : Prop where
  blk : w.heap[a]? = some (.cells (cellsQ q (.slice A L.length c)) 38 (0, 0))
  told : Told w base 89 (.slice A L.length c) L
  ok : D5.Dec.fullB q.kept = false
  st : q.st < 14
  old : Below base w0 w
  ge : base ≤ a
  sz : base ≤ w.heap.size

theorem RefP.lt {w0 w : World} {base a : Nat} {q : Q} {L : List EV} {A : Option Addr} {c : Nat} (h : RefP w0 w base a q L A c) : a < w.heap.size := (Array.getElem?_eq_some_iff.1 h.blk).1
theorem cell_at {w : World} {b : Nat} {c : Array Value} {t : TypeId} (h : w.heap[b]? = some (.cells c t (0, 0))) (i : Nat) : w.cell? ⟨b, i, none⟩ = c[i]? := by simp [World.cell?, h]
theorem free_at {w : World} {b : Nat} {c : Array Value} {t : TypeId} (h : w.heap[b]? = some (.cells c t (0, 0))) (i : Nat) : w.frozen? ⟨b, i, none⟩ = false := by simp [World.frozen?, h]
theorem RefP.below {w0 w w' : World} {base a : Nat} {q : Q} {L : List EV} {A : Option Addr} {c : Nat} (h : RefP w0 w base a q L A c) (hb : Below w.heap.size w w') : RefP w0 w' base a q L A c :=
  ⟨(hb.block a h.lt).trans h.blk, h.told.below hb, h.ok, h.st, h.old.trans (hb.mono h.sz), h.ge, Nat.le_trans h.sz hb.size⟩
/-- A store into one of its fields. -/
theorem RefP.put {w0 w : World} {base a : Nat} {q q' : Q} {L : List EV} {A : Option Addr} {c : Nat} (h : RefP w0 w base a q L A c) (i : Nat) (v : Value) (hc : (cellsQ q (.slice A L.length c)).setIfInBounds i v = cellsQ q' (.slice A L.length c)) (hok : D5.Dec.fullB q'.kept = false) (hst : q'.st < 14) :
    RefP w0 (w.setCell ⟨a, i, none⟩ v) base a q' L A c := by
  have hk : P7.KeepT w (w.setCell ⟨a, i, none⟩ v) := ⟨by simp, fun k cur t hk ht => Below.heap_setCell _ _ _ _ fun e => by
    have e : k = a := e
    subst e
    rw [h.blk] at hk
    cases hk
    rcases ht with e | e <;> exact absurd e (by decide)⟩
  refine ⟨?_, h.told.keep hk fun g hg => Below.heap_setCell _ _ _ _ fun e => ?_, hok, hst, h.old.setCell h.ge _, h.ge, by simpa using h.sz⟩
  · rw [heap_setCell_same w a i _ _ v h.blk, hc]
  · have e : g = a := e
    subst e
    obtain ⟨_, _, cur, hc⟩ := h.told.ge g hg
    rw [h.blk] at hc
    cases hc
/-- An event more: behind the append and the store. -/
theorem RefP.tell {w0 w w1 : World} {base a : Nat} {q : Q} {L : List EV} {A : Option Addr} {c : Nat} {ls : List (List Value)} (h : RefP w0 w base a q L A c) (hls : Evs w L ls) {o : Obj} {e : EV} {l : List Value} {v : Value} (he : IsEv w e l)
    (hown : w1.ownsRow base 89 6 v (L.length + 1) (ls.flatten ++ l)) (hg : (w.alloc o).grownBy w1 (Value.slice A L.length c).ownBlock) :
    ∃ g c', v = .slice (some ⟨g, 0, none⟩) (L.length + 1) c' ∧ RefP w0 (w1.setCell ⟨a, 6, none⟩ v) base a q (L ++ [e]) (some ⟨g, 0, none⟩) c' ∧ (∃ u, w1.cell? ⟨a, 6, none⟩ = some u) ∧ w1.frozen? ⟨a, 6, none⟩ = false ∧ w.heap.size ≤ w1.heap.size := by
  obtain ⟨g, c', rfl, _, _⟩ := hown.form (by omega)
  have ha : Below w.heap.size w (w.alloc o) := (Below.refl _ _).alloc (Nat.le_refl _) _
  have h' := h.below ha
  have hk1 := keep_grown h'.told ⟨by decide, by decide⟩ hg
  have hk := (P7.KeepT.of_below ha).trans hk1
  have hne : (Value.slice A L.length c).ownBlock ≠ some a := fun e => by
    obtain ⟨_, _, cur, hc⟩ := h'.told.ge a e
    rw [h'.blk] at hc
    cases hc
  have hsz := h.sz
  have hal := h'.lt
  have hb1 : w1.heap[a]? = some (.cells (cellsQ q (.slice A L.length c)) 38 (0, 0)) := (hg.block a hal (fun e => hne e.symm)).trans h'.blk
  have ht : Told w1 base 89 (.slice (some ⟨g, 0, none⟩) (L.length + 1) c') (L ++ [e]) := Told.snoc (hls.keep hk) (he.keep hk) hown
  have hgs := hg.size
  have hsa : (w.alloc o).heap.size = w.heap.size + 1 := by simp
  have hold : Below base w0 w1 := h'.old.grown hg h'.sz (fun k hk => (h'.told.ge k hk).1)
  refine ⟨g, c', rfl, ⟨?_, ?_, h.ok, h.st, hold.setCell h.ge _, h.ge, by simp; omega⟩, ⟨_, by rw [cell_at hb1]; rfl⟩, free_at hb1 6, by omega⟩
  · rw [heap_setCell_same w1 a 6 _ _ _ hb1, List.length_append]
    rfl
  · have hl : (L ++ [e]).length = L.length + 1 := by simp
    rw [hl]
    refine ht.keep ⟨by simp, fun k cur t hk ht => Below.heap_setCell _ _ _ _ fun e => ?_⟩ fun k hk => Below.heap_setCell _ _ _ _ fun e => ?_
    · have e : k = a := e
      subst e
      rw [hb1] at hk
      cases hk
      rcases ht with e | e <;> exact absurd e (by decide)
    · have e : k = a := e
      subst e
      obtain ⟨_, _, cur, hc⟩ := ht.ge k hk
      rw [hb1] at hc
      cases hc

def zeroEv : Value := .agg #[.int .i64 0, .int .i32 0, .int .u8 0, .string ⟨#[]⟩, .slice none 0 0, .string ⟨#[]⟩]
theorem info_ev : (Tryd.prog.info? 89).map (fun i => (i.zero, i.size, i.bytes)) = some (some zeroEv, 6, 72) := by kernel_rfl
theorem build_print (r : Int) (W : World) : (Instr.build 89 #[(0, .int .i64 1), (1, .int .i32 r)]).run Tryd.prog W = .ok (.agg #[.int .i64 1, .int .i32 r, .int .u8 0, .string ⟨#[]⟩, .slice none 0 0, .string ⟨#[]⟩]) W := run_build W 89 #[(0, .int .i64 1), (1, .int .i32 r)] _ (by kernel_rfl)

theorem one_cells (w : World) (l : List Value) (t : TypeId) : ∀ j u, l[j]? = some u → (w.alloc (.cells l.toArray t)).cell? ((⟨w.heap.size, 0, none⟩ : Addr).add j) = some u := by
  intro j u hu
  rw [P7.add_zero, cell_at (Deep.blk_alloc_new w _) j]
  simpa using hu

/-- print: a character is told. -/
theorem print_any {w0 w : World} {base a : Nat} {q : Q} {L : List EV} {A : Option Addr} {c : Nat} (h : RefP w0 w base a q L A c) (hL : L.length ≤ 1000000) (r : Nat) :
    Calls Tryd.prog 39 #[.pointer (some ⟨a, 0, none⟩), .int .i32 (r : Int)] w fun e w' => e = .returned (.tuple #[]) ∧ ∃ A' c', RefP w0 w' base a q (L ++ [printE r]) A' c' ∧ w.heap.size ≤ w'.heap.size := by
  obtain ⟨i0, hi, hz0, hz1, hz2⟩ := info_parts info_ev
  have HI := Lib.hid hi; have HZ0 := Lib.hid hz0; have HZ1 := Lib.hid hz1; have HZ2 := Lib.hid hz2
  have HR := Lib.hid h
  obtain ⟨ls, hls, hown0⟩ := h.told
  have HLS := Lib.hid hls
  obtain ⟨n, hn⟩ : ∃ n, n = L.length := ⟨_, rfl⟩
  have HN := Lib.hid hn
  have c6 : w.cell? ⟨a, 6, none⟩ = some (.slice A n c) := by rw [cell_at h.blk, hn]; rfl
  have HO : Hid ((w.alloc (.cells #[.int .i64 1, .int .i32 r, .int .u8 0, .string ⟨#[]⟩, .slice none 0 0, .string ⟨#[]⟩] 89)).ownsRow base 89 6 (.slice A n c) n ls.flatten) := Lib.hid (by
    have := World.ownsRow.alloc hown0 (.cells #[.int .i64 1, .int .i32 r, .int .u8 0, .string ⟨#[]⟩, .slice none 0 0, .string ⟨#[]⟩] 89)
    rw [hn]
    exact this)
  have kb := build_print r
  have hn1 : n ≤ 1000000 := by omega
  have HB : Hid (base ≤ w.heap.size) := Lib.hid h.sz
  clear hi hz0 hz1 hz2 h hls hown0 hn hL
  go_enter Tryd.func39, Tryd.ntmps39
  go_wp2_with (at_builtin; refine wpList_append_own _ rfl (.tmp 8) (.tmp 11) 36 rfl base 89 i0 zeroEv 6 72 Tryd.underlying36 HI.out HZ0.out HZ1.out HZ2.out rfl (by decide) _ _ _ rfl HO.out ⟨w.heap.size, 0, none⟩ 1 1 [.int .i64 1, .int .i32 r, .int .u8 0, .string ⟨#[]⟩, .slice none 0 0, .string ⟨#[]⟩] rfl rfl ?d1 ?d2 ?d3 ?d4 ?d5 ?_)
  case d1 => exact one_cells w _ _
  case d2 => intro u hu; simp at hu; rcases hu with rfl | rfl | rfl | rfl | rfl | rfl <;> rfl
  case d3 => unfold maxLen; omega
  case d4 => omega
  case d5 => have := HB.out; simp; omega
  intro v' w2 hown hg _
  obtain ⟨g, c', rfl, hR, ⟨u, x6⟩, y6, hsz⟩ := HR.out.tell HLS.out (e := printE r) (l := [.int .i64 1, .int .i32 r, .int .u8 0, .string ⟨#[]⟩, .slice none 0 0, .string ⟨#[]⟩]) ⟨none, 0, rfl, fun h => absurd h (by simp [printE])⟩ (by rw [← HN.out]; exact hown) (by rw [← HN.out]; exact hg)
  have HF := Lib.hid (And.intro hR hsz)
  rw [← HN.out] at HF ⊢
  clear hown hg hR hsz c6 kb
  go_wp2
  go_end0
  exact ⟨rfl, _, _, HF.out.1, by simpa using HF.out.2⟩
end Go.Proofs.YtfekjlajagoooaaDoor
