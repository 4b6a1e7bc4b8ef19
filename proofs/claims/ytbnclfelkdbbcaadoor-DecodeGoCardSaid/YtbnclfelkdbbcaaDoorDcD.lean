/- Layer 5: All. -/
import Derived.Test.YtbnclfelkdbbcaaDoorDcC
import Derived.OwnWalk
import Derived.LoopTactic
namespace Go.Proofs.YtbnclfelkdbbcaaDoor
open Go.RowKit Go.Lib Dec

def runeV (l : List Nat) : List Value := l.map fun r : Nat => Value.int .i32 (r : Int)

theorem add_zero (g k : Nat) : (⟨g, 0, none⟩ : Addr).add k = ⟨g, k, none⟩ := by
  unfold Addr.add
  split
  · rename_i h; subst h; rfl
  · simp

/-- A slice of the call's own that holds these characters. -/
def OwnRunes (w : World) (base : Nat) (v : Value) (l : List Nat) : Prop := w.ownsRow base 21 1 v l.length (runeV l)

theorem own_ge {w : World} {base : Nat} {v : Value} {l : List Nat} (h : OwnRunes w base v l) : ∀ g, v.ownBlock = some g → base ≤ g := by
  intro g hg
  rcases h.2 with ⟨rfl, _⟩ | ⟨g', cap, cur, rfl, hb, _⟩
  · simp [Value.ownBlock] at hg
  · have : g' = g := by simpa [Value.ownBlock] using hg
    omega

/-- It is no block of another type. -/
theorem own_apart {w : World} {base a : Nat} {v : Value} {l : List Nat} {c : Array Value} {t : TypeId} (h : OwnRunes w base v l) (hb : w.heap[a]? = some (.cells c t (0, 0))) (ht : t ≠ 21) : v.ownBlock ≠ some a := by
  rcases h.2 with ⟨rfl, _⟩ | ⟨g', cap, cur, rfl, _, hh, _⟩
  · simp [Value.ownBlock]
  · intro e
    have e' : g' = a := by simpa [Value.ownBlock] using e
    subst e'
    rw [hb] at hh
    cases hh
    exact ht rfl

/-- It stays where its block stays. -/
theorem own_keep {w w' : World} {base : Nat} {v : Value} {l : List Nat} (h : OwnRunes w base v l) (hk : ∀ g, v.ownBlock = some g → w'.heap[g]? = w.heap[g]?) : OwnRunes w' base v l := by
  refine ⟨h.1, ?_⟩
  rcases h.2 with h0 | ⟨g, cap, cur, rfl, h1, h2, h3⟩
  · exact Or.inl h0
  · exact Or.inr ⟨g, cap, cur, rfl, h1, (hk g rfl).trans h2, h3⟩

theorem own_lt {w : World} {base : Nat} {v : Value} {l : List Nat} (h : OwnRunes w base v l) : ∀ g, v.ownBlock = some g → g < w.heap.size := by
  intro g hg
  rcases h.2 with ⟨rfl, _⟩ | ⟨g', cap, cur, rfl, _, hh, _⟩
  · simp [Value.ownBlock] at hg
  · have : g' = g := by simpa [Value.ownBlock] using hg
    subst this
    exact (Array.getElem?_eq_some_iff.1 hh).1

theorem own_stirs {w w' : World} {base a : Nat} {v : Value} {l : List Nat} {c : Array Value} {t : TypeId} (h : OwnRunes w base v l) (hb : w.heap[a]? = some (.cells c t (0, 0))) (ht : t ≠ 21) (hs : Stirs a w w') : OwnRunes w' base v l :=
  own_keep h fun g hg => hs.block g (own_lt h g hg) (fun e => own_apart h hb ht (e ▸ hg))
theorem own_below {w w' : World} {base B : Nat} {v : Value} {l : List Nat} (h : OwnRunes w base v l) (hb : Below B w w') (hB : w.heap.size ≤ B) : OwnRunes w' base v l :=
  own_keep h fun g hg => hb.block g (Nat.lt_of_lt_of_le (own_lt h g hg) hB)

/-- A slice's shape: what it holds can be read. -/
theorem own_shape {w : World} {base : Nat} {v : Value} {l : List Nat} (h : OwnRunes w base v l) : ∃ A c, v = .slice A l.length c ∧ (A = none → c = 0) ∧ ∀ k, k < l.length → ∃ g, A = some ⟨g, 0, none⟩ ∧ g < w.heap.size ∧ w.cell? ⟨g, k, none⟩ = some (.int .i32 (l.getD k 0 : Nat)) := by
  rcases Nat.eq_zero_or_pos l.length with h0 | hp
  · rcases h.2 with ⟨rfl, _⟩ | ⟨g, cap, cur, rfl, _⟩
    · exact ⟨none, 0, by rw [h0], fun _ => rfl, fun k hk => by omega⟩
    · exact ⟨some ⟨g, 0, none⟩, cap, rfl, (fun h => by cases h), fun k hk => by omega⟩
  · rcases h.2 with ⟨_, h0⟩ | ⟨g, cap, cur, rfl, _, hh, _⟩
    · omega
    · refine ⟨_, cap, rfl, (fun h => by cases h), fun k hk => ⟨g, rfl, (Array.getElem?_eq_some_iff.1 hh).1, ?_⟩⟩
      have := World.ownsRow.cells (w := w) h (g := g) rfl k (.int .i32 (l.getD k 0 : Nat)) (by simp [runeV, hk])
      rw [add_zero] at this
      exact this

theorem grown_block {w w' : World} {row : Option Nat} (hg : w.grownBy w' row) {a : Nat} (hl : a < w.heap.size) (hr : row ≠ some a) : w'.heap[a]? = w.heap[a]? := hg.block a hl (fun e => hr e.symm)

theorem info_rune : (Tryd.prog.info? 21).map (fun i => (i.zero, i.size, i.bytes)) = some (some (.int .i32 0), 1, 4) := by kernel_rfl

theorem one_new (w : World) (v : Value) (t : TypeId) : ∀ j u, [v][j]? = some u → (w.alloc (.cells #[v] t)).cell? ((⟨w.heap.size, 0, none⟩ : Addr).add j) = some u := by
  intro j u hu
  cases j with
  | zero =>
    simp at hu
    subst hu
    rw [add_zero]
    simp
  | succ j => simp at hu

theorem slice_two (a n : Nat) (hn : n ≤ 2) (W : World) : (Instr.sliceAt 33 (.pointer (some ⟨a, 0, none⟩)) none (some (.int .i64 n)) none).run Tryd.prog W = .ok (.slice (some ⟨a, 0, none⟩) n 2) W := by
  have ha : Tryd.prog.arrayLen 33 = 2 := by kernel_rfl
  have := run_sliceAt_array_h (P := Tryd.prog) (w := W) (t := 33) (a := ⟨a, 0, none⟩) Tryd.underlying33 .i64 n (by omega) (by rw [ha]; omega)
  rw [this, ha]
  rfl

theorem dec_new (w : World) : IsDec (w.alloc (.cells (cellsK []) 29)) w.heap.size [] := ⟨Deep.blk_alloc_new _ _, rfl⟩

/-- What was told and what is kept of the first k bytes. -/
def toldK (l : List UInt8) (k : Nat) : List Nat := (runsD [] (l.take k)).1
def keptK (l : List UInt8) (k : Nat) : List UInt8 := (runsD [] (l.take k)).2

theorem told_succ (l : List UInt8) (k : Nat) (h : k < l.length) : toldK l (k + 1) = toldK l k ++ (comes (keptK l k) l[k]).1 ∧ keptK l (k + 1) = (comes (keptK l k) l[k]).2 := by
  unfold toldK keptK
  rw [List.take_succ_eq_append_getElem h, runs_snoc]
  exact ⟨rfl, rfl⟩

theorem told_len (l : List UInt8) (k : Nat) : (toldK l k).length ≤ k := by
  have h := runs_count [] (l.take k) rfl
  have := List.length_take_le k l
  unfold toldK
  simp at h
  omega

theorem rune_two {t : List Nat} (h : t.length ≤ 2) : runeV t = [Value.int .i32 (t.getD 0 0 : Nat), Value.int .i32 (t.getD 1 0 : Nat)].take t.length := by
  match t, h with
  | [], _ => rfl
  | [x], _ => rfl
  | [x, y], _ => rfl

theorem two_new (w : World) (x y : Value) (p : Nat) (t : TypeId) : ∀ j u, ([x, y].take p)[j]? = some u → (w.alloc (.cells #[x, y] t)).cell? ((⟨w.heap.size, 0, none⟩ : Addr).add j) = some u := by
  intro j u hu
  rw [add_zero]
  rw [List.getElem?_take] at hu
  split at hu
  · match j, hu with
    | 0, hu => simp at hu; subst hu; simp
    | 1, hu => simp at hu; subst hu; simp
    | j + 2, hu => simp at hu
  · cases hu

set_option maxHeartbeats 1000000 in
theorem all_walk (s : ByteArray) (l : List UInt8) (hl : l = s.data.toList) (hs : s.size ≤ 1000000) (w : World) (hT : Tabs w) :
    Calls Tryd.prog 11 #[.string s] w fun e w' => ∃ v, e = .returned v ∧ OwnRunes w' w.heap.size v (allD l) ∧ Below w.heap.size w w' := by
  have hlen : l.length = s.size := by rw [hl]; rfl
  have HT := Lib.hid hT
  have HL := Lib.hid hl
  have HLen := Lib.hid hlen
  obtain ⟨i0, hi, hz0, hz1, hz2⟩ := info_parts info_rune
  have HI := Lib.hid hi; have HZ0 := Lib.hid hz0; have HZ1 := Lib.hid hz1; have HZ2 := Lib.hid hz2
  clear hi hz0 hz1 hz2 hT hl hlen
  go_enter Tryd.func11, Tryd.ntmps11
  go_wp2
  go_loopw [4, 12] (fun v i wr => ∃ k : Nat, k ≤ s.size ∧ i = .int .i64 k ∧ OwnRunes wr w.heap.size v (toldK l k) ∧ IsDec wr w.heap.size (keptK l k) ∧ Below w.heap.size w wr) (fun _ i _ => s.size - (RowKit.intOf i).toNat)
  case atStart => exact ⟨0, Nat.zero_le _, rfl, ⟨by simp [runeV, toldK, runsD], Or.inl ⟨rfl, by simp [toldK, runsD]⟩⟩, dec_new w, (Below.refl _ _).alloc (Nat.le_refl _) _⟩
  case round =>
    obtain ⟨k, hk, rfl, hown, hdec, hB⟩ := hrel
    rename_i wr
    by_cases hlt : k < s.size
    · have hlt' : k < l.length := by rw [HLen.out]; exact hlt
      obtain ⟨TS, KS⟩ := told_succ l k hlt'
      have hb : l[k] = s[k] := by have := HL.out; subst this; rfl
      rw [hb] at TS KS
      have hc := comes_count (keptK l k) s[k] hdec.ok
      have htl := told_len l k
      obtain ⟨t, ht⟩ : ∃ t, t = (comes (keptK l k) s[k]).1 := ⟨_, rfl⟩
      obtain ⟨o, ho⟩ : ∃ o, o = (comes (keptK l k) s[k]).2 := ⟨_, rfl⟩
      obtain ⟨x, hx⟩ : ∃ x, x = t.getD 0 0 := ⟨_, rfl⟩
      obtain ⟨y, hy⟩ : ∃ y, y = t.getD 1 0 := ⟨_, rfl⟩
      obtain ⟨p, hp⟩ : ∃ p, p = t.length := ⟨_, rfl⟩
      rw [← ht] at TS hc
      rw [← ho] at KS
      have hp2 : p ≤ 2 := by omega
      have C : Hid (Calls Tryd.prog 12 #[.pointer (some ⟨w.heap.size, 0, none⟩), .int .u8 (s[k]).toNat] wr (Post wr w.heap.size x y p o)) := Lib.hid (by
        have := byte_any w.heap.size (keptK l k) s[k] wr (HT.out.below hB (Nat.le_refl _)) hdec
        rw [hx, hy, hp, ht, ho]
        exact this)
      have RV : Hid (runeV t = [Value.int .i32 x, Value.int .i32 y].take p) := Lib.hid (by rw [hx, hy, hp]; exact rune_two (by omega))
      have HP := Lib.hid hp
      have HTS := Lib.hid TS
      have HKS := Lib.hid KS
      have HO := Lib.hid hown
      have HD := Lib.hid hdec
      have HB := Lib.hid hB
      clear hown hdec hB TS KS ht ho hx hy hp hb hc
      go_wp2_with fail
      refine (show Calls _ _ _ _ _ from C.out).mono ?_
      rintro e w1 ⟨rfl, hd, hs1⟩
      have HD1 := Lib.hid hd
      have HS1 := Lib.hid hs1
      have HO1 : Hid (OwnRunes w1 w.heap.size _ (toldK l k)) := Lib.hid (own_stirs HO.out HD.out.blk (by decide) hs1)
      have HB1 : Hid (Below w.heap.size w w1) := Lib.hid (hs1.below (Nat.le_refl _) HB.out HB.out.size)
      have hsl := slice_two w1.heap.size p hp2
      clear hd hs1
      have h2 : ([Value.int .i32 x, Value.int .i32 y].take p).length = p * 1 := by simp; omega
      go_upto_region 7 with (fail)
      go_wp2_with (at_builtin; refine wpList_append_own _ rfl (.tmp 22) (.tmp 24) 24 rfl w.heap.size 21 i0 (.int .i32 0) 1 4 Tryd.underlying24 HI.out HZ0.out HZ1.out HZ2.out rfl (by decide) _ _ _ rfl (World.ownsRow.alloc HO1.out _) ⟨w1.heap.size, 0, none⟩ p 2 ([Value.int .i32 x, Value.int .i32 y].take p) rfl h2 ?c1 ?c2 ?c3 ?c4 ?c5 ?_)
      case c1 => exact two_new w1 _ _ p _
      case c2 =>
        intro u hu
        have := List.mem_of_mem_take hu
        simp at this
        rcases this with rfl | rfl <;> rfl
      case c3 => unfold maxLen; omega
      case c4 => omega
      case c5 => have := HB1.out.size; simp; omega
      intro v' w2 hown' hg _
      have HO2 : Hid (OwnRunes w2 w.heap.size v' (toldK l (k + 1))) := Lib.hid (by
        rw [HTS.out]
        unfold OwnRunes
        rw [List.length_append, ← HP.out, show runeV (toldK l k ++ t) = runeV (toldK l k) ++ runeV t by simp [runeV], RV.out]
        exact hown')
      have ha1 : w.heap.size < w1.heap.size := (Array.getElem?_eq_some_iff.1 HD1.out.blk).1
      have HD2 : Hid (IsDec w2 w.heap.size (keptK l (k + 1))) := Lib.hid (by
        rw [HKS.out]
        refine ⟨?_, HD1.out.ok⟩
        rw [hg.block _ (by simp; omega) (fun e => own_apart HO1.out HD1.out.blk (by decide) e.symm), Below.heap_alloc _ _ _ ha1]
        exact HD1.out.blk)
      have HB2 : Hid (Below w.heap.size w w2) := Lib.hid ((HB1.out.alloc HB1.out.size _).grown hg (by have := HB1.out.size; simp; omega) (own_ge HO1.out))
      clear hown' hg HO HB HO1 HB1 HD1 ha1 hsl h2 HD
      go_wp2
      go_roundw
      case rel => exact ⟨k + 1, by omega, by go_num, HO2.out, HD2.out, HB2.out⟩
      case measure => simp [RowKit.intOf]; omega
    · have hkn : k = s.size := by omega
      subst hkn
      have he : toldK l s.size = (runsD [] l).1 ∧ keptK l s.size = (runsD [] l).2 := by
        unfold toldK keptK
        rw [List.take_of_length_le (by rw [HLen.out]; exact Nat.le_refl _)]
        exact ⟨rfl, rfl⟩
      rw [he.2] at hdec
      rw [he.1] at hown
      clear he
      by_cases hq : (runsD [] l).2 = []
      · have E : Hid (allD l = (runsD [] l).1) := Lib.hid (by simp [allD, endsD, hq])
        rw [hq] at hdec
        have HO := Lib.hid hown
        have HD := Lib.hid hdec
        have HB := Lib.hid hB
        clear hown hdec hB hq
        go_wp2_with fail
        refine (end_none _ _ HD.out).mono ?_
        rintro e w1 ⟨rfl, rfl⟩
        go_wp2
        go_ret
        exact ⟨_, rfl, by rw [E.out]; exact HO.out, HB.out⟩
      · have E : Hid (allD l = (runsD [] l).1 ++ [65533]) := Lib.hid (by simp [allD, endsD, hq])
        have htl : (runsD [] l).1.length ≤ s.size := by
          have := runs_count [] l rfl
          have := HLen.out
          simp at *
          omega
        have C := Lib.hid (end_some _ _ wr hdec hq)
        have HO := Lib.hid hown
        have HD := Lib.hid hdec
        have HB := Lib.hid hB
        clear hown hdec hB hq
        go_wp2_with fail
        refine C.out.mono ?_
        rintro e w1 ⟨rfl, hd, hs1⟩
        have HO1 : Hid (OwnRunes w1 w.heap.size _ (runsD [] l).1) := Lib.hid (own_stirs HO.out HD.out.blk (by decide) hs1)
        have HB1 : Hid (Below w.heap.size w w1) := Lib.hid (hs1.below (Nat.le_refl _) HB.out HB.out.size)
        clear hd hs1 C HO HB HD
        go_wp2_with (at_builtin; refine wpList_append_own _ rfl (.tmp 32) (.tmp 34) 24 rfl w.heap.size 21 i0 (.int .i32 0) 1 4 Tryd.underlying24 HI.out HZ0.out HZ1.out HZ2.out rfl (by decide) _ _ _ rfl (World.ownsRow.alloc HO1.out _) ⟨w1.heap.size, 0, none⟩ 1 1 [Value.int .i32 65533] rfl rfl ?d1 ?d2 ?d3 ?d4 ?d5 ?_)
        case d1 => exact one_new w1 _ _
        case d2 => intro u hu; simp at hu; subst hu; rfl
        case d3 => unfold maxLen; omega
        case d4 => omega
        case d5 => have := HB1.out.size; simp; omega
        intro v' w2 hown' hg _
        have HO2 : Hid (OwnRunes w2 w.heap.size v' (allD l)) := Lib.hid (by
          rw [E.out]
          unfold OwnRunes
          rw [List.length_append, show runeV ((runsD [] l).1 ++ [65533]) = runeV (runsD [] l).1 ++ [Value.int .i32 65533] by simp [runeV]]
          exact hown')
        have HB2 : Hid (Below w.heap.size w w2) := Lib.hid ((HB1.out.alloc HB1.out.size _).grown hg (by have := HB1.out.size; simp; omega) (own_ge HO1.out))
        clear hown' hg HO1 HB1
        go_wp2
        go_ret
        exact ⟨_, rfl, HO2.out, HB2.out⟩

end Go.Proofs.YtbnclfelkdbbcaaDoor
