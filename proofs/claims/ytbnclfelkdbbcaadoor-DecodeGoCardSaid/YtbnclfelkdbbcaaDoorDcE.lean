/- Layer 5: same; awake answers true. -/
import Derived.Test.YtbnclfelkdbbcaaDoorDcD
namespace Go.Proofs.YtbnclfelkdbbcaaDoor
open Go.RowKit Go.Lib Dec

/-- A slice that reads as these characters. -/
def Runes (w : World) (v : Value) (l : List Nat) : Prop := ∃ A c, v = .slice A l.length c ∧ (A = none → c = 0) ∧ ∀ k, k < l.length → ∃ g, A = some ⟨g, 0, none⟩ ∧ g < w.heap.size ∧ w.cell? ⟨g, k, none⟩ = some (.int .i32 (l.getD k 0 : Nat))

theorem own_runes {w : World} {base : Nat} {v : Value} {l : List Nat} (h : OwnRunes w base v l) : Runes w v l := by
  obtain ⟨A, c, h1, h0, h2⟩ := own_shape h
  exact ⟨A, c, h1, h0, h2⟩
theorem Runes.below {w w' : World} {B : Nat} {v : Value} {l : List Nat} (h : Runes w v l) (hb : Below B w w') (hB : w.heap.size ≤ B) : Runes w' v l := by
  obtain ⟨A, c, h1, h0, h2⟩ := h
  refine ⟨A, c, h1, h0, fun k hk => ?_⟩
  obtain ⟨g, hg, hl, hc⟩ := h2 k hk
  exact ⟨g, hg, Nat.lt_of_lt_of_le hl hb.size, (hb.cell (p := ⟨g, k, none⟩) (Nat.lt_of_lt_of_le hl hB)).trans hc⟩
theorem Runes.drewN {w : World} {v : Value} {l : List Nat} (h : Runes w v l) (n : Nat) : Runes (w.drewN n) v l := h

/-- append of characters that stand anywhere to a slice of the call's own. -/
theorem append_runes {ops : Array Oper} {rest : List Oper} {o : Oper} {a : Act} {Q : Exit → Act → World → Prop} (w : World) (hw : Region.wanted o (yielded ops a.tmps) = true) (s x : Operand)
    (ho : o.op = .call { callee := .builtin .append, args := #[s, x], argTypes := #[24, 24] }) (base : Nat) (v u : Value) (xs ys : List Nat) (hs : a.eval s = v) (hown : OwnRunes w base v xs)
    (hx : a.eval x = u) (hr : Runes w u ys) (hlen : xs.length + ys.length ≤ 1000000) (hbase : base ≤ w.heap.size)
    (h : ∀ v' w', OwnRunes w' base v' (xs ++ ys) → w.grownBy w' v.ownBlock → wpList Tryd.prog ops Q rest (a.put o.dst v') w') : wpList Tryd.prog ops Q (o :: rest) a w := by
  obtain ⟨i0, hi, hz0, hz1, hz2⟩ := info_parts info_rune
  obtain ⟨A, c, rfl, h0, hc⟩ := hr
  cases A with
  | none =>
    have he : ys = [] := by
      cases ys with
      | nil => rfl
      | cons y l => obtain ⟨g, hg, _⟩ := hc 0 (by simp); cases hg
    subst he
    obtain rfl := h0 rfl
    refine BigFrame.wpList_want hw fun K hK => ?_
    have hrun := run_append_owned_none (P := Tryd.prog) (w := w) base 24 o.type 21 i0 1 Tryd.underlying24 hi v xs.length (runeV xs) hown
    unfold Oper.wp
    simp [execOp, ho, resolve, invoke, builtin, hs, hx, hrun, Result.andThen]
    refine hK _ _ (h v w ?_ ⟨rfl, rfl, rfl, Nat.le_refl _, fun _ _ _ => rfl⟩)
    rw [List.append_nil]
    exact hown
  | some ad =>
    refine BigFrame.wpList_want hw fun K hK => ?_
    refine wp_append_own w s x 24 ho base 21 i0 (.int .i32 0) 1 4 Tryd.underlying24 hi hz0 hz1 hz2 rfl (by decide) v xs.length (runeV xs) hs hown ad ys.length c (runeV ys) hx (by simp [runeV]) ?_ ?_ (by unfold maxLen; omega) (by omega) hbase ?_
    · intro j y hy
      have hj : j < ys.length := by
        have := (List.getElem?_eq_some_iff.1 hy).1
        simpa [runeV] using this
      obtain ⟨g, hg, _, hcell⟩ := hc j hj
      cases hg
      rw [add_zero, hcell, ← hy]
      simp [runeV, hj]
    · intro y hy
      simp only [runeV, List.mem_map] at hy
      obtain ⟨r, _, rfl⟩ := hy
      rfl
    · intro v' w' h2 h3 _
      refine hK _ _ (h v' w' ?_ h3)
      unfold OwnRunes
      rw [List.length_append, show runeV (xs ++ ys) = runeV xs ++ runeV ys by simp [runeV]]
      exact h2

theorem same_loop (A B : Option Addr) (c d n : Nat) (f : Nat → Int) (w : World) (hn : n ≤ 1000000) (hA : ∀ k, k < n → ∃ g, A = some ⟨g, 0, none⟩ ∧ w.cell? ⟨g, k, none⟩ = some (.int .i32 (f k))) (hB : ∀ k, k < n → ∃ g, B = some ⟨g, 0, none⟩ ∧ w.cell? ⟨g, k, none⟩ = some (.int .i32 (f k))) :
    Calls Tryd.prog 10 #[.slice A n c, .slice B n d] w fun e w' => e = .returned (.bool true) ∧ ∃ j, w' = w.drewN j := by
  have HA := Lib.hid hA
  have HB := Lib.hid hB
  clear hA hB
  go_enter Tryd.func10, Tryd.ntmps10
  go_wp2
  go_loopw [5] (fun i wr => ∃ k j : Nat, k ≤ n ∧ i = .int .i64 k ∧ wr = w.drewN j) (fun i _ => n - (RowKit.intOf i).toNat)
  case atStart => exact ⟨0, 0, Nat.zero_le _, rfl, rfl⟩
  case round =>
    obtain ⟨k, j, hk, rfl, rfl⟩ := hrel
    by_cases hlt : k < n
    · obtain ⟨g, rfl, cg⟩ := HA.out k hlt
      obtain ⟨h, rfl, ch⟩ := HB.out k hlt
      have cg' : ∀ i : Nat, (w.drewN i).cell? ⟨g, k, none⟩ = some (.int .i32 (f k)) := fun _ => cg
      have ch' : ∀ i : Nat, (w.drewN i).cell? ⟨h, k, none⟩ = some (.int .i32 (f k)) := fun _ => ch
      clear cg ch
      go_wp2
      go_quiet (fail)
      go_wp2
      go_roundw
      case rel => exact ⟨k + 1, _, by omega, by go_num, rfl⟩
      case measure => simp [RowKit.intOf]; omega
    · have hkn : k = n := by omega
      subst hkn
      go_wp2
      go_ret
      exact ⟨rfl, _, rfl⟩

theorem same_yes (u v : Value) (l : List Nat) (w : World) (hn : l.length ≤ 1000000) (h : Runes w u l) (k : Runes w v l) :
    Calls Tryd.prog 10 #[u, v] w fun e w' => e = .returned (.bool true) ∧ ∃ j, w' = w.drewN j := by
  obtain ⟨A, c, rfl, _, hA⟩ := h
  obtain ⟨B, d, rfl, _, hB⟩ := k
  exact same_loop A B c d l.length (fun k => (l.getD k 0 : Nat)) w hn (fun k hk => by obtain ⟨g, h1, _, h2⟩ := hA k hk; exact ⟨g, h1, h2⟩) (fun k hk => by obtain ⟨g, h1, _, h2⟩ := hB k hk; exact ⟨g, h1, h2⟩)

/-- A decoder of the call's own, that keeps k: it lies from block B on; what was below B is as it was. -/
structure MineD (w0 w : World) (B a : Nat) (k : List UInt8) : Prop where
  dec : IsDec w a k
  ge : B ≤ a
  old : Below B w0 w
  sz : B ≤ w.heap.size
  tabs : Tabs w

theorem MineD.lt {w0 w : World} {B a : Nat} {k : List UInt8} (h : MineD w0 w B a k) : a < w.heap.size := (Array.getElem?_eq_some_iff.1 h.dec.blk).1
theorem MineD.below {w0 w w' : World} {B a : Nat} {k : List UInt8} (h : MineD w0 w B a k) (hb : Below w.heap.size w w') : MineD w0 w' B a k :=
  ⟨⟨(hb.block a h.lt).trans h.dec.blk, h.dec.ok⟩, h.ge, h.old.trans (hb.mono h.sz), Nat.le_trans h.sz hb.size, h.tabs.below hb (Nat.le_refl _)⟩
theorem MineD.drewN {w0 w : World} {B a : Nat} {k : List UInt8} (h : MineD w0 w B a k) (n : Nat) : MineD w0 (w.drewN n) B a k := h.below (below_drew (Below.refl _ _) n)
theorem MineD.alloc {w0 w : World} {B a : Nat} {k : List UInt8} (h : MineD w0 w B a k) (o : Obj) : MineD w0 (w.alloc o) B a k := h.below ((Below.refl _ _).alloc (Nat.le_refl _) _)
theorem MineD.stirs {w0 w w' : World} {B a : Nat} {k o : List UInt8} (h : MineD w0 w B a k) (hd : IsDec w' a o) (hs : Stirs a w w') : MineD w0 w' B a o :=
  ⟨hd, h.ge, hs.below h.ge h.old h.sz, Nat.le_trans h.sz hs.size, h.tabs.stirs hs (h.tabs.ne h.dec.blk)⟩
theorem mine_new {w0 w : World} {B : Nat} (h : Below B w0 w) (hs : B ≤ w.heap.size) (hT : Tabs w) : MineD w0 (w.alloc (.cells (cellsK []) 29)) B w.heap.size [] :=
  ⟨dec_new w, hs, h.alloc hs _, by simp; omega, hT.below ((Below.refl _ _).alloc (Nat.le_refl _) _) (Nat.le_refl _)⟩

def MineByte (w0 w : World) (B a : Nat) (x y m : Int) (o : List UInt8) (e : Ending) (w' : World) : Prop := e = .returned (.tuple #[.agg #[.int .i32 x, .int .i32 y], .int .i64 m]) ∧ MineD w0 w' B a o ∧ Stirs a w w'

theorem mine_byte {w0 w : World} {B a : Nat} {k o : List UInt8} {t : List Nat} {b : UInt8} {c x y m : Int} (h : MineD w0 w B a k) (ht : comes k b = (t, o)) (hc : (b.toNat : Int) = c) (hx : ((t.getD 0 0 : Nat) : Int) = x) (hy : ((t.getD 1 0 : Nat) : Int) = y) (hm : (t.length : Int) = m) :
    Calls Tryd.prog 12 #[.pointer (some ⟨a, 0, none⟩), .int .u8 c] w (MineByte w0 w B a x y m o) := by
  subst hc
  refine (byte_any a k b w h.tabs h.dec).mono ?_
  rintro e w' ⟨rfl, hd, hs⟩
  rw [ht] at hd ⊢
  exact ⟨by rw [hx, hy, hm], h.stirs hd hs, hs⟩

theorem mine_waits {w0 w : World} {B a : Nat} {k : List UInt8} {m : Int} (h : MineD w0 w B a k) (hm : (k.length : Int) = m) : Calls Tryd.prog 14 #[.pointer (some ⟨a, 0, none⟩)] w fun e w' => e = .returned (.int .i64 m) ∧ w = w' := hm ▸ waits_any a k w h.dec

theorem mine_end {w0 w : World} {B a : Nat} {k : List UInt8} (h : MineD w0 w B a k) (hk : k ≠ []) : Calls Tryd.prog 15 #[.pointer (some ⟨a, 0, none⟩)] w fun e w' => e = .returned (.tuple #[.int .i32 65533, .bool true]) ∧ MineD w0 w' B a [] ∧ Stirs a w w' := by
  refine (end_some a k w h.dec hk).mono ?_
  rintro e w' ⟨rfl, hd, hs⟩
  exact ⟨rfl, h.stirs hd hs, hs⟩

/-- All of a text whose characters are l. -/
def AllPost (w : World) (l : List Nat) (e : Ending) (w' : World) : Prop := ∃ A c n, e = .returned (.slice A n c) ∧ OwnRunes w' w.heap.size (.slice A n c) l ∧ Below w.heap.size w w' ∧ n = l.length

theorem all_post (s : ByteArray) (l : List Nat) (h : allD s.data.toList = l) (hs : s.size ≤ 1000000) (w : World) (hT : Tabs w) : Calls Tryd.prog 11 #[.string s] w (AllPost w l) := by
  refine (all_walk s _ rfl hs w hT).mono ?_
  rintro e w' ⟨v, rfl, ho, hb⟩
  rw [h] at ho
  obtain ⟨A, c, rfl, _⟩ := own_shape ho
  exact ⟨A, c, _, rfl, ho, hb, rfl⟩

/-- A slice of literals. -/
theorem lit_runes (w : World) (l : List Nat) : Runes (w.alloc (.cells (runeV l).toArray 21)) (.slice (some ⟨w.heap.size, 0, none⟩) l.length l.length) l := by
  refine ⟨_, _, rfl, (fun h => by cases h), fun k hk => ⟨_, rfl, by simp, ?_⟩⟩
  rw [cell_of (Deep.blk_alloc_new _ _)]
  simp [runeV, hk]

theorem c1 : comes [] 195 = ([], [195]) := by decide +kernel
theorem c2 : comes [195] 169 = ([233], []) := by decide +kernel
theorem c3 : comes [] 226 = ([], [226]) := by decide +kernel
theorem a1 : allD [226, 130, 195, 169] = [65533, 233] := by decide +kernel

theorem eq_pair (W : World) : (binOp .eql 33 (.agg #[.int .i32 233, .int .i32 0]) (.agg #[.int .i32 233, .int .i32 0])).run Tryd.prog W = .ok (.bool true) W := by kernel_rfl
theorem eq_guard (W : World) : (eqGuard .eql 33 (.tmp 41) (.tmp 42) (.agg #[.int .i32 233, .int .i32 0]) (.agg #[.int .i32 233, .int .i32 0])).run Tryd.prog W = .ok () W := by kernel_rfl

set_option maxHeartbeats 1000000 in
theorem awake_any (w : World) (hT : Tabs w) : Calls Tryd.prog 9 #[] w fun e w' => e = .returned (.bool true) ∧ Below w.heap.size w w' := by
  have M0 := Lib.hid (mine_new (Below.refl w.heap.size w) (Nat.le_refl _) hT)
  have kb := build_dec
  clear hT
  go_enter Tryd.func9, Tryd.ntmps9
  go_wp2_with fail
  refine (mine_byte M0.out c1 (c := 195) rfl (x := 0) rfl (y := 0) rfl (m := 0) rfl).mono ?_
  rintro e w1 ⟨rfl, hm, hst⟩
  have M1 := Lib.hid (hm.alloc (.cells #[.int .i32 0, .int .i32 0] 33))
  clear hm M0
  go_wp2_with fail
  refine (mine_waits M1.out (m := 1) rfl).mono ?_
  rintro e w2 ⟨rfl, rfl⟩
  go_wp2_with fail
  refine (mine_byte M1.out c2 (c := 169) rfl (x := 233) rfl (y := 0) rfl (m := 1) rfl).mono ?_
  rintro e w2 ⟨rfl, hm, hst⟩
  have L2 : Hid ((w2.alloc (.cells #[.int .i32 233, .int .i32 0] 33)).heap[w2.heap.size]? = some (.cells #[.int .i32 233, .int .i32 0] 33 (0, 0))) := Lib.hid (Deep.blk_alloc_new _ _)
  have N2 : Hid (w2.heap.size ≠ w.heap.size) := Lib.hid (by have := hm.lt; omega)
  have M2 := Lib.hid (hm.alloc (.cells #[.int .i32 233, .int .i32 0] 33))
  clear hm M1 hst
  go_wp2_with fail
  refine (mine_byte M2.out c3 (c := 226) rfl (x := 0) rfl (y := 0) rfl (m := 0) rfl).mono ?_
  rintro e w3 ⟨rfl, hm, hst⟩
  have L3 := Lib.hid ((hst.block _ (by simp) N2.out).trans L2.out)
  have M3 := Lib.hid hm
  clear hm hst M2 L2
  go_wp2_with fail
  refine (mine_end M3.out (by decide)).mono ?_
  rintro e w4 ⟨rfl, hm, hst⟩
  have l4 := (hst.block _ (Array.getElem?_eq_some_iff.1 L3.out).1 N2.out).trans L3.out
  have d0 : w4.cell? ⟨w2.heap.size, 0, none⟩ = some (.int .i32 233) := by rw [cell_of l4]; rfl
  have d1 : w4.cell? ⟨w2.heap.size, 1, none⟩ = some (.int .i32 0) := by rw [cell_of l4]; rfl
  have M4 := Lib.hid hm
  have k2 := build_two
  have q1 := eq_pair
  have q2 := eq_guard
  clear hm hst M3 L3 l4
  go_wp2_with fail
  refine (all_post _ _ a1 (by decide) _ M4.out.tabs).mono ?_
  rintro e w5 ⟨A, c, n, rfl, ho, hb, hn⟩
  have HB5 := Lib.hid (M4.out.old.trans (hb.mono M4.out.sz))
  have R5 := Lib.hid ((own_runes ho).below ((Below.refl w5.heap.size w5).alloc (Nat.le_refl _) (.cells #[.int .i32 65533, .int .i32 233] 21)) (Nat.le_refl _))
  have R6 : Hid (Runes (w5.alloc (.cells #[.int .i32 65533, .int .i32 233] 21)) (.slice (some ⟨w5.heap.size, 0, none⟩) 2 2) [65533, 233]) := Lib.hid (lit_runes w5 [65533, 233])
  clear ho hb hn M4 d0 d1 q1 q2
  go_wp2_with fail
  refine (same_yes _ _ _ _ (by decide) R5.out R6.out).mono ?_
  rintro e w6 ⟨rfl, j, rfl⟩
  go_wp2
  go_ret
  exact ⟨rfl, below_drew (HB5.out.alloc HB5.out.size _) _⟩

end Go.Proofs.YtbnclfelkdbbcaaDoor
