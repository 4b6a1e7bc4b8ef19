/- Layer 5: Byte, End, Waits: anew contract each. Layer 5: All. Layer 5: same; awake answers true. Layer 5: the document's shapes in memory. Layer 5: the document's Begins and Number. Layer 5: the document's decoder in memory: Byte, All. -/
import Derived.Test.YtkenaccnmmmooaaDoorF5DcB
import Derived.Test.YtkenaccnmmmooaaDoorE5DcShelf
import Derived.OwnWalk
import Derived.LoopTactic
import Derived.Test.YtkenaccnmmmooaaDoorF5DcA
import Derived.Test.YtkenaccnmmmooaaDoorE5DcR
import Derived.Deep.Heap
import Derived.Laws.IdiomStrings
import Derived.WalkLawsBesides
import Derived.Deep.RegionHeld3
/-! ## Layer 5: Byte, End, Waits: anew contract each. -/
namespace Go.Proofs.YtkenaccnmmmooaaDoor.D5
open Go.RowKit Go.Lib Dec

theorem get_bt (l : List UInt8) (i : Nat) : ((⟨l.toArray⟩ : ByteArray).get! i).toNat = bt l i := by
  show (l.toArray[i]!).toNat = _
  unfold bt
  by_cases h : i < l.length
  · simp [h, List.getD]
  · simp [h, List.getD]
    rfl

theorem decodeGo_dec {l : List UInt8} (h : 1 ≤ l.length) : decodeGo ⟨l.toArray⟩ = dec l := by
  have hs : (⟨l.toArray⟩ : ByteArray).size = l.length := by simp [ByteArray.size]
  unfold decodeGo
  rw [if_neg (by omega), decode_at, get_bt, get_bt, get_bt, get_bt, hs]
  rfl

theorem dec_is (a z : Nat) (l : List UInt8) (h1 : 1 ≤ l.length) (h4 : l.length ≤ 4) : DecIs a z l (dec l).1 (dec l).2 := by
  intro w hT hb
  have hs : (⟨l.toArray⟩ : ByteArray).size = l.length := by simp [ByteArray.size]
  have := Any7.utf8_DecodeRune Tryd.decLays ⟨l.toArray⟩ a z 4 w hT (fun j hj => by
    rw [get_bt]
    exact (dc hb j (by omega)).trans (cells_at h4 j (by omega)))
  rw [decodeGo_dec h1, hs] at this
  exact this

theorem post_of {w : World} {a z : Nat} {t : List Nat × List UInt8} {e : Ending} {w' : World} (h : BytePost w a z t e w') : Post w a z (t.1.getD 0 0) (t.1.getD 1 0) t.1.length t.2 e w' := h

/-- A byte comes where nothing is kept. -/
theorem byte_one (a z : Nat) (b : UInt8) : ByteIs a z [] b ((anew b).1.getD 0 0) ((anew b).1.getD 1 0) (anew b).1.length (anew b).2 := by
  intro w hT h
  cases hf : fullB [b]
  · have e : anew b = ([], [b]) := by simp [anew, hf]
    rw [e]
    exact byte_keep a z [] b w hT h hf
  · have e : anew b = ([(dec [b]).1], []) := by simp [anew, hf]
    rw [e]
    have hd := dec_is a z [b] (by simp) (by simp)
    rw [dec_one b] at hd
    exact byte_whole a z [] b w hT h hf _ hd

/-- A byte comes. -/
theorem byte_any (a z : Nat) (k : List UInt8) (b : UInt8) (w : World) (hT : Tabs w) (h : IsDec w a z k) :
    Calls Tryd.prog 58 #[.pointer (some ⟨a, z, none⟩), .int .u8 b.toNat] w (BytePost w a z (comes k b)) := by
  have hn := full_length h.ok
  have hd := dec_is a z (k ++ [b]) (by simp) (by simp; omega)
  cases hf : fullB (k ++ [b])
  · have e : comes k b = ([], k ++ [b]) := by simp [comes, hf]
    rw [e]
    exact byte_keep a z k b w hT h hf
  · by_cases hl : (dec (k ++ [b])).2 = (k ++ [b]).length
    · have e : comes k b = ([(dec (k ++ [b])).1], []) := by
        unfold comes
        rw [if_neg (by simp [hf]), if_pos hl]
      rw [e]
      rw [hl] at hd
      exact byte_whole a z k b w hT h hf _ hd
    · have e : comes k b = (65533 :: (anew b).1, (anew b).2) := by
        unfold comes
        rw [if_neg (by simp [hf]), if_neg hl]
      rw [e]
      have h1 : (anew b).1.length ≤ 1 := by have := anew_count b; omega
      refine (byte_mark a z k b w hT h hf _ _ hd hl _ _ _ _ h1 (byte_one a z b)).mono ?_
      rintro e w' ⟨h1, h2, h3⟩
      exact ⟨h1.trans (by rw [Nat.add_comm 1]; rfl), h2, h3⟩

theorem nil_byte (x : Int) (w : World) : Calls Tryd.prog 58 #[.pointer none, .int .u8 x] w fun e w' => e = .returned (.tuple #[.agg #[.int .i32 0, .int .i32 0], .int .i64 0]) ∧ Below w.heap.size w w' := by
  go_enter Tryd.func58, Tryd.ntmps58
  go_wp2
  refine bodyPost_ret (v := .tuple #[.agg #[.int .i32 0, .int .i32 0], .int .i64 0]) (by simp [results, Tryd.results58, go_sem]) rfl ⟨rfl, ?_⟩
  exact (Below.refl _ _).alloc (Nat.le_refl _) _

theorem nil_waits (w : World) : Calls Tryd.prog 24 #[.pointer none] w fun e w' => e = .returned (.int .i64 0) ∧ w = w' := by
  go_enter Tryd.func24, Tryd.ntmps24
  go_wp2
  go_ret
  exact ⟨rfl, rfl⟩

theorem waits_any (a z : Nat) (k : List UInt8) (w : World) (h : IsDec w a z k) : Calls Tryd.prog 24 #[.pointer (some ⟨a, z, none⟩)] w fun e w' => e = .returned (.int .i64 k.length) ∧ w = w' := by
  have c4 : w.cell? ⟨a, z + 4, none⟩ = some (.int .i64 k.length) := by rw [dc h.blk 4 (by omega)]; rfl
  clear h
  go_enter Tryd.func24, Tryd.ntmps24
  go_wp2
  go_ret
  exact ⟨rfl, rfl⟩

theorem end_none (a z : Nat) (w : World) (h : IsDec w a z []) : Calls Tryd.prog 50 #[.pointer (some ⟨a, z, none⟩)] w fun e w' => e = .returned (.tuple #[.int .i32 0, .bool false]) ∧ w = w' := by
  have H := Lib.hid (waits_any a z [] w h)
  clear h
  go_enter Tryd.func50, Tryd.ntmps50
  go_wp2_with fail
  refine H.out.mono ?_
  rintro e w' ⟨rfl, rfl⟩
  go_wp2
  go_ret2
  exact ⟨rfl, rfl⟩

theorem end_some (a z : Nat) (k : List UInt8) (w : World) (h : IsDec w a z k) (hk : k ≠ []) : Calls Tryd.prog 50 #[.pointer (some ⟨a, z, none⟩)] w fun e w' => e = .returned (.tuple #[.int .i32 65533, .bool true]) ∧ IsDec w' a z [] ∧ Stirs a z 5 w w' := by
  have H := Lib.hid (waits_any a z k w h)
  have hl : decide ((k.length : Int) = 0) = false := by simpa using hk
  have hq : ((k.length : Int) == 0) = false := by simpa using hk
  have wa := h.blk
  have HNE := Lib.hid h.ne
  have ca0 : w.cell? ⟨a, z, none⟩ = some (.int .u8 (bt k 0)) := by rw [dc0 wa]; rfl
  have ca1 : w.cell? ⟨a, z + 1, none⟩ = some (.int .u8 (bt k 1)) := by rw [dc wa 1 (by omega)]; rfl
  have ca2 : w.cell? ⟨a, z + 2, none⟩ = some (.int .u8 (bt k 2)) := by rw [dc wa 2 (by omega)]; rfl
  have ca3 : w.cell? ⟨a, z + 3, none⟩ = some (.int .u8 (bt k 3)) := by rw [dc wa 3 (by omega)]; rfl
  have ca4 : w.cell? ⟨a, z + 4, none⟩ = some (.int .i64 (k.length : Int)) := by rw [dc wa 4 (by omega)]; rfl
  have fa0 := Part.free wa z
  have fa1 := Part.free wa (z + 1)
  have fa2 := Part.free wa (z + 2)
  have fa3 := Part.free wa (z + 3)
  have fa4 := Part.free wa (z + 4)
  have WA := Lib.hid wa
  have kb := build_dec
  clear h wa hk
  go_enter Tryd.func50, Tryd.ntmps50
  go_wp2_with fail
  refine H.out.mono ?_
  rintro e w' ⟨rfl, rfl⟩
  go_wp2
  go_ret2
  refine ⟨rfl, ⟨?_, rfl, HNE.out⟩, (((((Stirs.refl a z 5 w).set z _ (by omega)).set (z + 1) _ (by omega)).set (z + 2) _ (by omega)).set (z + 3) _ (by omega)).set (z + 4) _ (by omega)⟩
  have q0 := set0 WA.out (.int .u8 0) (by simp [cellsK])
  have q1 := Part.set q0 1 (.int .u8 0) (by simp [cellsK])
  have q2 := Part.set q1 2 (.int .u8 0) (by simp [cellsK])
  have q3 := Part.set q2 3 (.int .u8 0) (by simp [cellsK])
  have q4 := Part.set q3 4 (.int .i64 0) (by simp [cellsK])
  exact q4

end Go.Proofs.YtkenaccnmmmooaaDoor.D5

/-! ## Layer 5: All. -/
namespace Go.Proofs.YtkenaccnmmmooaaDoor.D5
open Go.RowKit Go.Lib Dec

def runeV (l : List Nat) : List Value := l.map fun r : Nat => Value.int .i32 (r : Int)

theorem add_zero (g k : Nat) : (⟨g, 0, none⟩ : Addr).add k = ⟨g, k, none⟩ := by
  unfold Addr.add
  split
  · rename_i h; subst h; rfl
  · simp

/-- A slice of the call's own that holds these characters. -/
def OwnRunes (w : World) (base : Nat) (v : Value) (l : List Nat) : Prop := w.ownsRow base 21 1 v l.length (runeV l)

theorem own_ge {w : World} {base : Nat} {v : Value} {l : List Nat} (h : OwnRunes w base v l) : ∀ g, v.ownBlock = some g → base ≤ g := by
  intro g hg
  rcases h.2 with ⟨rfl, _⟩ | ⟨g', cap, cur, rfl, hb, _⟩
  · simp [Value.ownBlock] at hg
  · have : g' = g := by simpa [Value.ownBlock] using hg
    omega

/-- It is no block of another type. -/
theorem own_apart {w : World} {base a : Nat} {v : Value} {l : List Nat} {c : Array Value} {t : TypeId} (h : OwnRunes w base v l) (hb : w.heap[a]? = some (.cells c t (0, 0))) (ht : t ≠ 21) : v.ownBlock ≠ some a := by
  rcases h.2 with ⟨rfl, _⟩ | ⟨g', cap, cur, rfl, _, hh, _⟩
  · simp [Value.ownBlock]
  · intro e
    have e' : g' = a := by simpa [Value.ownBlock] using e
    subst e'
    rw [hb] at hh
    cases hh
    exact ht rfl

/-- It stays where its block stays. -/
theorem own_keep {w w' : World} {base : Nat} {v : Value} {l : List Nat} (h : OwnRunes w base v l) (hk : ∀ g, v.ownBlock = some g → w'.heap[g]? = w.heap[g]?) : OwnRunes w' base v l := by
  refine ⟨h.1, ?_⟩
  rcases h.2 with h0 | ⟨g, cap, cur, rfl, h1, h2, h3⟩
  · exact Or.inl h0
  · exact Or.inr ⟨g, cap, cur, rfl, h1, (hk g rfl).trans h2, h3⟩

theorem own_lt {w : World} {base : Nat} {v : Value} {l : List Nat} (h : OwnRunes w base v l) : ∀ g, v.ownBlock = some g → g < w.heap.size := by
  intro g hg
  rcases h.2 with ⟨rfl, _⟩ | ⟨g', cap, cur, rfl, _, hh, _⟩
  · simp [Value.ownBlock] at hg
  · have : g' = g := by simpa [Value.ownBlock] using hg
    subst this
    exact (Array.getElem?_eq_some_iff.1 hh).1


theorem own_below {w w' : World} {base B : Nat} {v : Value} {l : List Nat} (h : OwnRunes w base v l) (hb : Below B w w') (hB : w.heap.size ≤ B) : OwnRunes w' base v l :=
  own_keep h fun g hg => hb.block g (Nat.lt_of_lt_of_le (own_lt h g hg) hB)

/-- A slice's shape: what it holds can be read. -/
theorem own_shape {w : World} {base : Nat} {v : Value} {l : List Nat} (h : OwnRunes w base v l) : ∃ A c, v = .slice A l.length c ∧ (A = none → c = 0) ∧ ∀ k, k < l.length → ∃ g, A = some ⟨g, 0, none⟩ ∧ g < w.heap.size ∧ w.cell? ⟨g, k, none⟩ = some (.int .i32 (l.getD k 0 : Nat)) := by
  rcases Nat.eq_zero_or_pos l.length with h0 | hp
  · rcases h.2 with ⟨rfl, _⟩ | ⟨g, cap, cur, rfl, _⟩
    · exact ⟨none, 0, by rw [h0], fun _ => rfl, fun k hk => by omega⟩
    · exact ⟨some ⟨g, 0, none⟩, cap, rfl, (fun h => by cases h), fun k hk => by omega⟩
  · rcases h.2 with ⟨_, h0⟩ | ⟨g, cap, cur, rfl, _, hh, _⟩
    · omega
    · refine ⟨_, cap, rfl, (fun h => by cases h), fun k hk => ⟨g, rfl, (Array.getElem?_eq_some_iff.1 hh).1, ?_⟩⟩
      have := World.ownsRow.cells (w := w) h (g := g) rfl k (.int .i32 (l.getD k 0 : Nat)) (by simp [runeV, hk])
      rw [add_zero] at this
      exact this

theorem grown_block {w w' : World} {row : Option Nat} (hg : w.grownBy w' row) {a : Nat} (hl : a < w.heap.size) (hr : row ≠ some a) : w'.heap[a]? = w.heap[a]? := hg.block a hl (fun e => hr e.symm)

theorem info_rune : (Tryd.prog.info? 21).map (fun i => (i.zero, i.size, i.bytes)) = some (some (.int .i32 0), 1, 4) := by kernel_rfl

theorem one_new (w : World) (v : Value) (t : TypeId) : ∀ j u, [v][j]? = some u → (w.alloc (.cells #[v] t)).cell? ((⟨w.heap.size, 0, none⟩ : Addr).add j) = some u := by
  intro j u hu
  cases j with
  | zero =>
    simp at hu
    subst hu
    rw [add_zero]
    simp
  | succ j => simp at hu

set_option maxRecDepth 100000 in
theorem slice_two (a n : Nat) (hn : n ≤ 2) (W : World) : (Instr.sliceAt 101 (.pointer (some ⟨a, 0, none⟩)) none (some (.int .i64 n)) none).run Tryd.prog W = .ok (.slice (some ⟨a, 0, none⟩) n 2) W := by
  have ha : Tryd.prog.arrayLen 101 = 2 := by kernel_rfl
  have := run_sliceAt_array_h (P := Tryd.prog) (w := W) (t := 101) (a := ⟨a, 0, none⟩) Tryd.underlying101 .i64 n (by omega) (by rw [ha]; omega)
  rw [this, ha]
  rfl


/-- What was told and what is kept of the first k bytes. -/
def toldK (l : List UInt8) (k : Nat) : List Nat := (runsD [] (l.take k)).1
def keptK (l : List UInt8) (k : Nat) : List UInt8 := (runsD [] (l.take k)).2

theorem told_succ (l : List UInt8) (k : Nat) (h : k < l.length) : toldK l (k + 1) = toldK l k ++ (comes (keptK l k) l[k]).1 ∧ keptK l (k + 1) = (comes (keptK l k) l[k]).2 := by
  unfold toldK keptK
  rw [List.take_succ_eq_append_getElem h, runs_snoc]
  exact ⟨rfl, rfl⟩

theorem told_len (l : List UInt8) (k : Nat) : (toldK l k).length ≤ k := by
  have h := runs_count [] (l.take k) rfl
  have := List.length_take_le k l
  unfold toldK
  simp at h
  omega

theorem rune_two {t : List Nat} (h : t.length ≤ 2) : runeV t = [Value.int .i32 (t.getD 0 0 : Nat), Value.int .i32 (t.getD 1 0 : Nat)].take t.length := by
  match t, h with
  | [], _ => rfl
  | [x], _ => rfl
  | [x, y], _ => rfl

theorem two_new (w : World) (x y : Value) (p : Nat) (t : TypeId) : ∀ j u, ([x, y].take p)[j]? = some u → (w.alloc (.cells #[x, y] t)).cell? ((⟨w.heap.size, 0, none⟩ : Addr).add j) = some u := by
  intro j u hu
  rw [add_zero]
  rw [List.getElem?_take] at hu
  split at hu
  · match j, hu with
    | 0, hu => simp at hu; subst hu; simp
    | 1, hu => simp at hu; subst hu; simp
    | j + 2, hu => simp at hu
  · cases hu

end Go.Proofs.YtkenaccnmmmooaaDoor.D5

/-! ## Layer 5: same; awake answers true. -/
namespace Go.Proofs.YtkenaccnmmmooaaDoor.D5
open Go.RowKit Go.Lib Dec

/-- A slice that reads as these characters. -/
def Runes (w : World) (v : Value) (l : List Nat) : Prop := ∃ A c, v = .slice A l.length c ∧ (A = none → c = 0) ∧ ∀ k, k < l.length → ∃ g, A = some ⟨g, 0, none⟩ ∧ g < w.heap.size ∧ w.cell? ⟨g, k, none⟩ = some (.int .i32 (l.getD k 0 : Nat))

theorem own_runes {w : World} {base : Nat} {v : Value} {l : List Nat} (h : OwnRunes w base v l) : Runes w v l := by
  obtain ⟨A, c, h1, h0, h2⟩ := own_shape h
  exact ⟨A, c, h1, h0, h2⟩
theorem Runes.below {w w' : World} {B : Nat} {v : Value} {l : List Nat} (h : Runes w v l) (hb : Below B w w') (hB : w.heap.size ≤ B) : Runes w' v l := by
  obtain ⟨A, c, h1, h0, h2⟩ := h
  refine ⟨A, c, h1, h0, fun k hk => ?_⟩
  obtain ⟨g, hg, hl, hc⟩ := h2 k hk
  exact ⟨g, hg, Nat.lt_of_lt_of_le hl hb.size, (hb.cell (p := ⟨g, k, none⟩) (Nat.lt_of_lt_of_le hl hB)).trans hc⟩
theorem Runes.drewN {w : World} {v : Value} {l : List Nat} (h : Runes w v l) (n : Nat) : Runes (w.drewN n) v l := h

/-- append of characters that stand anywhere to a slice of the call's own. -/
theorem append_runes {ops : Array Oper} {rest : List Oper} {o : Oper} {a : Act} {Q : Exit → Act → World → Prop} (w : World) (hw : Region.wanted o (yielded ops a.tmps) = true) (s x : Operand)
    (ho : o.op = .call { callee := .builtin .append, args := #[s, x], argTypes := #[104, 104] }) (base : Nat) (v u : Value) (xs ys : List Nat) (hs : a.eval s = v) (hown : OwnRunes w base v xs)
    (hx : a.eval x = u) (hr : Runes w u ys) (hlen : xs.length + ys.length ≤ 1000000) (hbase : base ≤ w.heap.size)
    (h : ∀ v' w', OwnRunes w' base v' (xs ++ ys) → w.grownBy w' v.ownBlock → wpList Tryd.prog ops Q rest (a.put o.dst v') w') : wpList Tryd.prog ops Q (o :: rest) a w := by
  obtain ⟨i0, hi, hz0, hz1, hz2⟩ := info_parts info_rune
  obtain ⟨A, c, rfl, h0, hc⟩ := hr
  cases A with
  | none =>
    have he : ys = [] := by
      cases ys with
      | nil => rfl
      | cons y l => obtain ⟨g, hg, _⟩ := hc 0 (by simp); cases hg
    subst he
    obtain rfl := h0 rfl
    refine BigFrame.wpList_want hw fun K hK => ?_
    have hrun := run_append_owned_none (P := Tryd.prog) (w := w) base 104 o.type 21 i0 1 Tryd.underlying104 hi v xs.length (runeV xs) hown
    unfold Oper.wp
    simp [execOp, ho, resolve, invoke, builtin, hs, hx, hrun, Result.andThen]
    refine hK _ _ (h v w ?_ ⟨rfl, rfl, rfl, Nat.le_refl _, fun _ _ _ => rfl⟩)
    rw [List.append_nil]
    exact hown
  | some ad =>
    refine BigFrame.wpList_want hw fun K hK => ?_
    refine wp_append_own w s x 104 ho base 21 i0 (.int .i32 0) 1 4 Tryd.underlying104 hi hz0 hz1 hz2 rfl (by decide) v xs.length (runeV xs) hs hown ad ys.length c (runeV ys) hx (by simp [runeV]) ?_ ?_ (by unfold maxLen; omega) (by omega) hbase ?_
    · intro j y hy
      have hj : j < ys.length := by
        have := (List.getElem?_eq_some_iff.1 hy).1
        simpa [runeV] using this
      obtain ⟨g, hg, _, hcell⟩ := hc j hj
      cases hg
      rw [add_zero, hcell, ← hy]
      simp [runeV, hj]
    · intro y hy
      simp only [runeV, List.mem_map] at hy
      obtain ⟨r, _, rfl⟩ := hy
      rfl
    · intro v' w' h2 h3 _
      refine hK _ _ (h v' w' ?_ h3)
      unfold OwnRunes
      rw [List.length_append, show runeV (xs ++ ys) = runeV xs ++ runeV ys by simp [runeV]]
      exact h2












/-- A slice of literals. -/
theorem lit_runes (w : World) (l : List Nat) : Runes (w.alloc (.cells (runeV l).toArray 21)) (.slice (some ⟨w.heap.size, 0, none⟩) l.length l.length) l := by
  refine ⟨_, _, rfl, (fun h => by cases h), fun k hk => ⟨_, rfl, by simp, ?_⟩⟩
  rw [cell_of (Deep.blk_alloc_new _ _)]
  simp [runeV, hk]

theorem c1 : comes [] 195 = ([], [195]) := by decide +kernel
theorem c2 : comes [195] 169 = ([233], []) := by decide +kernel
theorem c3 : comes [] 226 = ([], [226]) := by decide +kernel
theorem a1 : allD [226, 130, 195, 169] = [65533, 233] := by decide +kernel

theorem eq_pair (W : World) : (binOp .eql 101 (.agg #[.int .i32 233, .int .i32 0]) (.agg #[.int .i32 233, .int .i32 0])).run Tryd.prog W = .ok (.bool true) W := by kernel_rfl
theorem eq_guard (W : World) : (eqGuard .eql 101 (.tmp 41) (.tmp 42) (.agg #[.int .i32 233, .int .i32 0]) (.agg #[.int .i32 233, .int .i32 0])).run Tryd.prog W = .ok () W := by kernel_rfl

end Go.Proofs.YtkenaccnmmmooaaDoor.D5

/-! ## Layer 5: the document's shapes in memory. -/
namespace Go.Proofs.YtkenaccnmmmooaaDoor.D5
open Go.RowKit Go.Lib Dec

theorem build_byte (x y : Int) (W : World) : (Instr.build 62 #[(0, .int .u8 x), (1, .int .u8 y)]).run Tryd.prog W = .ok (.agg #[.int .u8 x, .int .u8 y]) W := run_build W 62 #[(0, .int .u8 x), (1, .int .u8 y)] _ (by kernel_rfl)

/-- Row i's cells; the table's. -/
def rowC (i : Nat) : Array Value := ((tab.getD i []).flatMap fun p => [Value.int .u8 (p.1 : Nat), Value.int .u8 (p.2 : Nat)]).toArray
def outC (b : Nat) : Array Value := ((List.range 9).map fun i => Value.slice (some ⟨b + 1 + i, 0, none⟩) (lenI i) (lenI i)).toArray

theorem push_at (w : World) (o : Obj) (k : Nat) (h : w.heap.size = k) : (w.alloc o).heap[k]? = some o := by
  subst h
  exact Deep.blk_alloc_new w o
theorem push_old (w : World) (o : Obj) (k : Nat) (x : Obj) (h : w.heap[k]? = some x) : (w.alloc o).heap[k]? = some x := by
  rw [Below.heap_alloc _ _ _ (Array.getElem?_eq_some_iff.1 h).1]
  exact h

theorem row_cell (i k : Nat) (hi : i < 9) (hk : k < lenI i) : (rowC i)[k * 2]? = some (.int .u8 (loI i k : Nat)) ∧ (rowC i)[k * 2 + 1]? = some (.int .u8 (hiI i k : Nat)) := by
  obtain rfl | rfl | rfl | rfl | rfl | rfl | rfl | rfl | rfl : i = 0 ∨ i = 1 ∨ i = 2 ∨ i = 3 ∨ i = 4 ∨ i = 5 ∨ i = 6 ∨ i = 7 ∨ i = 8 := by omega
  all_goals
    have hk' : k < 4 := Nat.lt_of_lt_of_le hk (by decide)
    obtain rfl | rfl | rfl | rfl : k = 0 ∨ k = 1 ∨ k = 2 ∨ k = 3 := by omega
    all_goals first | exact ⟨rfl, rfl⟩ | (exact absurd hk (by decide))

end Go.Proofs.YtkenaccnmmmooaaDoor.D5

/-! ## Layer 5: the document's Begins and Number. -/
namespace Go.Proofs.YtkenaccnmmmooaaDoor.D5
open Go.RowKit Go.Lib Dec

theorem lenI_le (k : Nat) (hk : k < 9) : lenI k ≤ 4 ∧ 1 ≤ lenI k := by
  obtain rfl | rfl | rfl | rfl | rfl | rfl | rfl | rfl | rfl : k = 0 ∨ k = 1 ∨ k = 2 ∨ k = 3 ∨ k = 4 ∨ k = 5 ∨ k = 6 ∨ k = 7 ∨ k = 8 := by omega
  all_goals decide

theorem bt_get {l : List UInt8} {m : Nat} (h : m < l.length) : bt l m = l[m].toNat := by
  unfold bt
  simp [List.getD, h]

theorem numK_next (l : List UInt8) {k : Nat} (h : 1 ≤ k) : numK l k = 64 * numK l (k - 1) + bt l k % 64 := by
  obtain ⟨k, rfl⟩ : ∃ q, k = q + 1 := ⟨k - 1, by omega⟩
  rfl

end Go.Proofs.YtkenaccnmmmooaaDoor.D5

/-! ## Layer 5: the document's decoder in memory: Byte, All. -/
namespace Go.Proofs.YtkenaccnmmmooaaDoor.D5
open Go.RowKit Go.Lib Dec

def strK (k : List UInt8) : ByteArray := ⟨k.toArray⟩

/-- The document's decoder in memory, that keeps k. -/
structure IsRef (w : World) (a z : Nat) (k : List UInt8) : Prop where
  blk : Part w a z #[.string (strK k)]
  ok : fullB k = false

/-- string([]byte{b}). -/
theorem byte_text (W : World) (g : Nat) (b : UInt8) (c : Int) (hc : (b.toNat : Int) = c) (h : W.cell? ⟨g, 0, none⟩ = some (.int .u8 c)) : (convert 90 9 (.slice (some ⟨g, 0, none⟩) 1 1)).run Tryd.prog W = .ok (.string (strK [b])) W := by
  subst hc
  exact run_convert_bytes_back (P := Tryd.prog) _ 90 9 5 ⟨g, 0, none⟩ 1 [b] Tryd.underlying90 Tryd.underlying5 Tryd.underlying9 (fun j hj => by
    have hj0 : j = 0 := by simpa using hj
    subst hj0
    simpa [Addr.add] using h)

theorem str_cat (k : List UInt8) (b : UInt8) : strK k ++ strK [b] = strK (k ++ [b]) := by
  apply ByteArray.ext
  simp [strK, ByteArray.data_append]
theorem str_some {k : List UInt8} (h : k ≠ []) : (strK k).toList.isEmpty = false := by
  rw [Lib.toList_data]
  cases k with
  | nil => exact absurd rfl h
  | cons x k => rfl

theorem dcr {w : World} {a z : Nat} {v : Value} (h : Part w a z #[v]) : w.cell? ⟨a, z, none⟩ = some v := Part.cell h (i := 0) (by show 0 < 1; omega)
theorem own_apart' {w : World} {base a : Nat} {v : Value} {l : List Nat} (h : OwnRunes w base v l) (ha : a < base) : v.ownBlock ≠ some a := fun e => by have := own_ge h a e; omega
theorem own_stirs' {w w' : World} {base a z n : Nat} {v : Value} {l : List Nat} (h : OwnRunes w base v l) (ha : a < base) (hs : Stirs a z n w w') : OwnRunes w' base v l :=
  own_keep h fun g hg => hs.block g (own_lt h g hg) (fun e => by have := own_ge h g hg; omega)

/-- What the document's Byte answers: t is told, k is kept. -/
def RefPost (w : World) (a z : Nat) (t : List Nat × List UInt8) (e : Ending) (w' : World) : Prop := ∃ v, e = .returned v ∧ OwnRunes w' w.heap.size v t.1 ∧ IsRef w' a z t.2 ∧ Stirs a z 1 w w'
theorem own_nil (w : World) (B : Nat) : OwnRunes w B (.slice none 0 0) [] := ⟨rfl, Or.inl ⟨rfl, rfl⟩⟩

theorem str_none : (strK []).toList.isEmpty = true := by rw [Lib.toList_data]; rfl

theorem str_list (l : List UInt8) : (strK l).data.toList = l := by simp [strK]
theorem str_size (l : List UInt8) : (strK l).size = l.length := by simp [strK, ByteArray.size]

end Go.Proofs.YtkenaccnmmmooaaDoor.D5
