/- Layer 2: the document's Put. -/
import Derived.Test.YtjfonbkeamhnmaaRefA
namespace Go.Proofs.Ytjfonbkeamhnmaa
open Go.RowKit Lat

section
variable {w w' : World} {B rb n cap : Nat} {A : Option Addr} {T : Nat → Nat → Bool} {v : Value} {l : List Ent}

def RPutPost (w : World) (B rb : Nat) (A : Option Addr) (n cap : Nat) (T : Nat → Nat → Bool) (v : Value) (l : List Ent) (x : Ent) (e : Ending) (w' : World) : Prop :=
  ∃ v', e = .returned (.int .i64 (putErr n T l x)) ∧ IsRef w' B rb A n cap T v' (putL n T l x) ∧ Moved w w' rb v v'

theorem RPutPost.err {x : Ent} {c : Int} (h : IsRef w B rb A n cap T v l) (hB : B ≤ w.heap.size) (hb : Below w.heap.size w w') (hc : putErr n T l x = c) (h0 : c ≠ 0) : RPutPost w B rb A n cap T v l x (.returned (.int .i64 c)) w' := by
  refine ⟨v, by rw [hc], ?_, Moved.of_below hb rb v⟩
  rw [putL, if_neg (by rw [hc]; exact h0)]
  exact h.below hb (Nat.le_refl _) hB

theorem rput_arg (x : Ent) (h : IsRef w B rb A n cap T v l) (hB : B ≤ w.heap.size) (hx : (isLabel n x.b && isLabel n x.f && isLabel n x.t) = false) :
    Calls Try.prog 17 #[.pointer (some ⟨rb, 0, none⟩), x.val] w (RPutPost w B rb A n cap T v l x) := by
  have HH := Lib.hid h
  have H := Lib.hid (fun o => h.alloc hB o)
  have E := Lib.hid (show putErr n T l x = 1 by simp [putErr, hx])
  clear h
  obtain ⟨xb, xf, xt, xs⟩ := x
  unfold Ent.val
  simp only at hx
  cases h1 : isLabel n xb
  · clear hx
    go_enter Try.func17, Try.ntmps17
    go_wp2_with (go_at_call 41; refine (rlabel_any _ (H.out _)).mono ?_; rintro e w' ⟨rfl, rfl⟩)
    go_ret
    exact RPutPost.err HH.out hB ((Below.refl _ w).alloc (Nat.le_refl _) _) E.out (by decide)
  · cases h2 : isLabel n xf
    · clear hx
      go_enter Try.func17, Try.ntmps17
      go_wp2_with (go_at_call 41; refine (rlabel_any _ (H.out _)).mono ?_; rintro e w' ⟨rfl, rfl⟩)
      go_ret
      exact RPutPost.err HH.out hB ((Below.refl _ w).alloc (Nat.le_refl _) _) E.out (by decide)
    · have h3 : isLabel n xt = false := by rw [h1, h2] at hx; simpa using hx
      clear hx
      go_enter Try.func17, Try.ntmps17
      go_wp2_with (go_at_call 41; refine (rlabel_any _ (H.out _)).mono ?_; rintro e w' ⟨rfl, rfl⟩)
      go_ret
      exact RPutPost.err HH.out hB ((Below.refl _ w).alloc (Nat.le_refl _) _) E.out (by decide)

theorem ref_ne (h : IsRef w B rb A n cap T v l) : v.ownBlock ≠ some rb := by
  intro e
  rcases h.own.2 with ⟨rfl, _⟩ | ⟨g, cap', cur, rfl, _, hh, _⟩
  · simp [Value.ownBlock] at e
  · have : g = rb := by simpa [Value.ownBlock] using e
    subst this
    have := h.blk
    rw [hh] at this
    injection this with this
    injection this with _ ht
    exact absurd ht (by decide)

/-- Behind the append and the store. The table lies below B, the log from B on. -/
theorem rput_done {w3 wa w5 : World} {x : Ent} {g cap' : Nat} (hl : IsRef w B rb A n cap T v l) (h3 : IsRef w3 B rb A n cap T v l) (hrb : B ≤ rb) (hvB : ∀ k, v.ownBlock = some k → B ≤ k) (hB : Below w.heap.size w w3) (ha : Below w3.heap.size w3 wa)
    (hown : w5.ownsRow 0 46 4 (.slice (some ⟨g, 0, none⟩) (l.length + 1) cap') (l.length + 1) (flat l ++ x.cells)) (hg : wa.grownBy w5 v.ownBlock) (hat : v.ownBlock = some g ∨ w3.heap.size ≤ g) (h0 : putErr n T l x = 0) :
    RPutPost w B rb A n cap T v l x (.returned (.int .i64 0)) (w5.setCell ⟨rb, 1, none⟩ (.slice (some ⟨g, 0, none⟩) (l.length + 1) cap')) := by
  have hne := ref_ne h3
  have hgb := lt_of h3.blk
  have hgb' := lt_of hl.blk
  have hs3 := hB.size
  have hsa := ha.size
  have hs5 := hg.size
  have hkeep : ∀ k, k < w3.heap.size → v.ownBlock ≠ some k → w5.heap[k]? = w3.heap[k]? := fun k hk hn => (hg.block k (Nat.lt_of_lt_of_le hk hsa) (fun e => hn e.symm)).trans (ha.block k hk)
  have hset : ∀ k, k ≠ rb → (w5.setCell ⟨rb, 1, none⟩ (.slice (some ⟨g, 0, none⟩) (l.length + 1) cap')).heap[k]? = w5.heap[k]? := fun k hk => Below.heap_setCell w5 ⟨rb, 1, none⟩ _ k hk
  have hggb : g ≠ rb := by
    rintro rfl
    rcases hat with h | h
    · exact hne h
    · omega
  have hb5 : w5.heap[rb]? = some (.cells #[.slice A n cap, v] 44 (0, 0)) := (hkeep rb hgb hne).trans h3.blk
  refine ⟨.slice (some ⟨g, 0, none⟩) (l.length + 1) cap', by rw [h0], ⟨?_, ?_, ?_⟩, ?_⟩
  · have hlt := lt_of hb5
    have h' : w5.heap[rb] = .cells #[.slice A n cap, v] 44 (0, 0) := by simpa [Array.getElem?_eq_getElem hlt] using hb5
    show (w5.heap.modify rb _)[rb]? = _
    rw [Array.getElem?_eq_getElem (by simpa using hlt), Array.getElem_modify_self, h']
    rfl
  · refine h3.sq.keep fun p hp => World.cell?_of_block ?_
    rw [hset p.block (by omega)]
    exact hkeep p.block (by omega) (fun e => by have := hvB _ e; omega)
  · rw [putL, if_pos h0]
    refine rents_block (rents_snoc rfl hown) fun k hk => hset k ?_
    have : g = k := by simpa [Value.ownBlock] using hk
    omega
  · refine ⟨?_, ?_, ?_, ?_, fun k hk hkg hn => ?_, ?_⟩
    · exact hg.os.trans (ha.os.trans hB.os)
    · exact hg.tape.trans (ha.tape.trans hB.tape)
    · exact hg.output.trans (ha.output.trans hB.output)
    · simp [World.setCell]; omega
    · rw [hset k hkg, hkeep k (by omega) hn]
      exact hB.block k hk
    · rcases hat with h | h
      · exact Or.inl (by rw [h]; rfl)
      · exact Or.inr ⟨g, rfl, by omega⟩

/-- Behind the tests of labels and flow: the entry's box, the log; nothing old has turned. -/
structure RBox (w wc : World) (B rb : Nat) (A : Option Addr) (n cap : Nat) (T : Nat → Nat → Bool) (v : Value) (l : List Ent) (xb xf xt : Int) (xs : ByteArray) : Prop where
  old : Below w.heap.size w wc
  ref : IsRef wc B rb A n cap T v l
  c0 : wc.cell? ⟨w.heap.size, 0, none⟩ = some (.int .i64 xb)
  c1 : wc.cell? ⟨w.heap.size, 1, none⟩ = some (.int .i64 xf)
  c2 : wc.cell? ⟨w.heap.size, 2, none⟩ = some (.int .i64 xt)
  c3 : wc.cell? ⟨w.heap.size, 3, none⟩ = some (.string xs)

theorem RBox.mk' (h : IsRef w B rb A n cap T v l) (hB : B ≤ w.heap.size) (xb xf xt : Int) (xs : ByteArray) (t : TypeId) (q : Nat) : RBox w ((w.alloc (.cells #[.int .i64 xb, .int .i64 xf, .int .i64 xt, .string xs] t)).drewN q) B rb A n cap T v l xb xf xt xs := by
  have hb : Below w.heap.size w ((w.alloc (.cells #[.int .i64 xb, .int .i64 xf, .int .i64 xt, .string xs] t)).drewN q) := below_drew ((Below.refl _ w).alloc (Nat.le_refl _) _) q
  exact ⟨hb, h.below hb (Nat.le_refl _) hB, by simp, by simp, by simp, by simp⟩

def RCut (w : World) (B rb : Nat) (A : Option Addr) (n cap : Nat) (T : Nat → Nat → Bool) (v : Value) (l : List Ent) (xb xf xt : Int) (xs : ByteArray) (m : Bool) (s : Value) (wc : World) : Prop :=
  s = .bool (!m) ∧ RBox w wc B rb A n cap T v l xb xf xt xs

set_option maxRecDepth 100000 in
set_option maxHeartbeats 4000000 in
theorem rput_lab (x : Ent) (h : IsRef w B rb A n cap T v l) (hB : B ≤ w.heap.size) (hrb : B ≤ rb) (hvB : ∀ k, v.ownBlock = some k → B ≤ k) (hx : (isLabel n x.b && isLabel n x.f && isLabel n x.t) = true) (hs' : x.s.size ≤ 9223372036854775807) (hlen : l.length ≤ 100000) :
    Calls Try.prog 17 #[.pointer (some ⟨rb, 0, none⟩), x.val] w (RPutPost w B rb A n cap T v l x) := by
  have HH := Lib.hid h
  have H := Lib.hid (fun o => h.alloc hB o)
  have HV := Lib.hid hvB
  have HX := Lib.hid hx
  obtain ⟨xb, xf, xt, xs⟩ := x
  have HSQ := Lib.hid (fun (o : Obj) q => ((h.alloc hB o).sq).keep (w' := (w.alloc o).drewN q) fun _ _ => rfl)
  have hc0 : ∀ o : Obj, (w.alloc o).cell? ⟨rb, 0, none⟩ = some (.slice A n cap) := fun o => (h.alloc hB o).cells.1
  clear h hvB
  unfold Ent.val
  simp only [Bool.and_eq_true] at hx hs'
  obtain ⟨⟨h1, h2⟩, h3⟩ := hx
  go_enter Try.func17, Try.ntmps17
  go_wp2_with (go_at_call 41; refine (rlabel_any _ (H.out _)).mono ?_; rintro e w' ⟨rfl, rfl⟩)
  go_cut [56] (RCut w B rb A n cap T v l xb xf xt xs (mayB n T ⟨xb, xf, xt, xs⟩))
  case first =>
    cases g1 : belowV n T xf xb
    · have HC1 := Lib.hid (show ∀ W : World, Sq W B A n T → Calls Try.prog 42 #[.slice A n cap, .int .i64 xf, .int .i64 xb] W fun e w' => e = .returned (.bool false) ∧ W = w' from fun W hW => g1 ▸ refBelow_any n cap B A T xf xb W hW)
      have E := Lib.hid (show mayB n T ⟨xb, xf, xt, xs⟩ = false by simp [mayB, g1])
      clear g1
      go_quiet ((first | (go_at_call 42; with_reducible exact still_left (HC1.out _ (HSQ.out _ _)))))
      go_wp2
      go_meet
      exact ⟨by rw [E.out]; rfl, RBox.mk' HH.out hB xb xf xt xs _ _⟩
    · have HC1 := Lib.hid (show ∀ W : World, Sq W B A n T → Calls Try.prog 42 #[.slice A n cap, .int .i64 xf, .int .i64 xb] W fun e w' => e = .returned (.bool true) ∧ W = w' from fun W hW => g1 ▸ refBelow_any n cap B A T xf xb W hW)
      cases g2 : belowV n T xt xb
      · have HC2 := Lib.hid (show ∀ W : World, Sq W B A n T → Calls Try.prog 42 #[.slice A n cap, .int .i64 xt, .int .i64 xb] W fun e w' => e = .returned (.bool false) ∧ W = w' from fun W hW => g2 ▸ refBelow_any n cap B A T xt xb W hW)
        have E := Lib.hid (show mayB n T ⟨xb, xf, xt, xs⟩ = false by simp [mayB, g2])
        clear g1 g2
        go_quiet ((first | (go_at_call 42; with_reducible exact still_left (HC1.out _ (HSQ.out _ _))) | (go_at_call 42; with_reducible exact still_left (HC2.out _ (HSQ.out _ _)))))
        go_wp2
        go_meet
        exact ⟨by rw [E.out]; rfl, RBox.mk' HH.out hB xb xf xt xs _ _⟩
      · have HC2 := Lib.hid (show ∀ W : World, Sq W B A n T → Calls Try.prog 42 #[.slice A n cap, .int .i64 xt, .int .i64 xb] W fun e w' => e = .returned (.bool true) ∧ W = w' from fun W hW => g2 ▸ refBelow_any n cap B A T xt xb W hW)
        have HC3 := Lib.hid (show ∀ W : World, Sq W B A n T → Calls Try.prog 42 #[.slice A n cap, .int .i64 xf, .int .i64 xt] W fun e w' => e = .returned (.bool (belowV n T xf xt)) ∧ W = w' from fun W hW => refBelow_any n cap B A T xf xt W hW)
        have E := Lib.hid (show mayB n T ⟨xb, xf, xt, xs⟩ = !belowV n T xf xt by simp [mayB, g1, g2])
        clear g1 g2
        go_quiet ((first | (go_at_call 42; with_reducible exact still_left (HC1.out _ (HSQ.out _ _))) | (go_at_call 42; with_reducible exact still_left (HC2.out _ (HSQ.out _ _))) | (go_at_call 42; with_reducible exact still_left (HC3.out _ (HSQ.out _ _)))))
        go_wp2
        go_meet
        exact ⟨by rw [E.out]; simp, RBox.mk' HH.out hB xb xf xt xs _ _⟩
  case rest =>
    obtain ⟨rfl, hX⟩ := hcut
    clear hc0 HSQ H
    have HBX := Lib.hid hX
    have d0 := hX.c0
    have d1 := hX.c1
    have d2 := hX.c2
    have d3 := hX.c3
    clear hX
    cases hm : mayB n T ⟨xb, xf, xt, xs⟩
    · have E := Lib.hid (show putErr n T l ⟨xb, xf, xt, xs⟩ = 7 by rw [putErr, if_neg (by rw [show (isLabel n xb && isLabel n xf && isLabel n xt) = true from HX.out]; simp), if_pos hm])
      go_wp2
      go_ret
      exact RPutPost.err HH.out hB HBX.out.old E.out (by decide)
    by_cases h4 : 4096 < xs.size
    · have E := Lib.hid (show putErr n T l ⟨xb, xf, xt, xs⟩ = 3 by rw [putErr, if_neg (by rw [show (isLabel n xb && isLabel n xf && isLabel n xt) = true from HX.out]; simp), if_neg (by rw [hm]; simp), if_pos h4])
      clear hm
      go_wp2
      go_ret
      exact RPutPost.err HH.out hB HBX.out.old E.out (by decide)
    have E0 := Lib.hid (show putErr n T l ⟨xb, xf, xt, xs⟩ = if roomV n l xb = 0 then 6 else 0 by rw [putErr, if_neg (by rw [show (isLabel n xb && isLabel n xf && isLabel n xt) = true from HX.out]; simp), if_neg (by rw [hm]; simp), if_neg h4])
    clear hm
    by_cases hr : roomV n l xb = 0
    · have E := Lib.hid (show putErr n T l ⟨xb, xf, xt, xs⟩ = 6 by rw [E0.out, if_pos hr])
      have HR := Lib.hid (hr ▸ rroom_any xb HBX.out.ref)
      clear hr
      go_wp2_with (go_at_call 19; refine HR.out.mono ?_; rintro e w' ⟨rfl, rfl⟩)
      go_ret
      exact RPutPost.err HH.out hB HBX.out.old E.out (by decide)
    have E := Lib.hid (show putErr n T l ⟨xb, xf, xt, xs⟩ = 0 by rw [E0.out, if_neg hr])
    have HR := Lib.hid (rroom_any xb HBX.out.ref)
    generalize roomV n l xb = rv at hr HR
    have hrd : (rv == 0) = false := by simpa using hr
    clear hr E0
    obtain ⟨i0, hi, hz0, hz1, hz2⟩ := info_parts info_rent
    have HI := Lib.hid hi; have HZ0 := Lib.hid hz0; have HZ1 := Lib.hid hz1; have HZ2 := Lib.hid hz2
    clear hi hz0 hz1 hz2
    have H3 := Lib.hid HBX.out.ref
    have g1 := H3.out.cells.2
    have hrb3 := lt_of H3.out.blk
    have hsz3 : w.heap.size < wc.heap.size := by
      have := d0
      rcases Nat.lt_or_ge w.heap.size wc.heap.size with h | h
      · exact h
      · simp [World.cell?, Array.getElem?_eq_none h] at this
    have HA := Lib.hid (below_drew ((Below.refl _ wc).alloc (Nat.le_refl _) (.cells #[.int .i64 xb, .int .i64 xf, .int .i64 xt, .string xs] 46)) 1)
    have HOW := Lib.hid (show (wc.alloc (.cells #[.int .i64 xb, .int .i64 xf, .int .i64 xt, .string xs] 46)).drew.ownsRow 0 46 4 v l.length (flat l) from World.ownsRow.alloc H3.out.own _)
    have HN1 := Lib.hid (show ∀ j u, (Ent.cells ⟨xb, xf, xt, xs⟩)[j]? = some u → (wc.alloc (.cells #[.int .i64 xb, .int .i64 xf, .int .i64 xt, .string xs] 46)).drew.cell? ((⟨wc.heap.size, 0, none⟩ : Addr).add j) = some u from news_ent (x := ⟨xb, xf, xt, xs⟩) (heap_alloc_new wc _))
    have HN2 := Lib.hid (one_ent ⟨xb, xf, xt, xs⟩)
    have HCU := Lib.hid (show ∀ w5 : World, ((wc.alloc (.cells #[.int .i64 xb, .int .i64 xf, .int .i64 xt, .string xs] 46)).drew.grownBy w5 v.ownBlock) → w5.cell? ⟨rb, 1, none⟩ = some v ∧ w5.frozen? ⟨rb, 1, none⟩ = false from by
      intro w5 hg
      have hb : w5.heap[rb]? = wc.heap[rb]? := (hg.block rb (by simp; omega) (fun e => ref_ne H3.out e.symm)).trans (HA.out.block rb hrb3)
      exact ⟨(World.cell?_of_block (w := wc) (a := ⟨rb, 1, none⟩) hb).trans H3.out.cells.2, (World.frozen?_of_block (w := wc) (a := ⟨rb, 1, none⟩) hb).trans (frozen_of H3.out.blk 1)⟩)
    go_wp2_with (go_at_call 19; refine HR.out.mono ?_; rintro e w' ⟨rfl, rfl⟩)
    go_region_law (refine step_append_lies _ rfl (.tmp 70) (.tmp 72) 42 rfl 0 46 i0 _ 4 40 Try.underlying42 HI.out HZ0.out HZ1.out HZ2.out rfl (by decide) v l.length _ (by simp [Act.eval]) HOW.out ⟨wc.heap.size, 0, none⟩ 1 1 (Ent.cells ⟨xb, xf, xt, xs⟩) (by simp [Act.eval]) rfl HN1.out HN2.out (by omega) (by unfold maxLen; omega) (by omega) (Nat.zero_le _) _ rfl ?_; intro g cap' w5 hown hgrow hat hlt5; have cu5 := (HCU.out w5 hgrow).1; have fu5 := (HCU.out w5 hgrow).2; have HOW5 := Lib.hid hown; have HGR := Lib.hid hgrow; have HAT := Lib.hid hat; clear hown hgrow hat hlt5)
    all_goals
      go_wp2
      go_ret
      exact rput_done HH.out H3.out hrb HV.out HBX.out.old HA.out HOW5.out HGR.out (HAT.out.imp id (by rintro rfl; simp)) E.out

theorem rput_any (x : Ent) (h : IsRef w B rb A n cap T v l) (hB : B ≤ w.heap.size) (hrb : B ≤ rb) (hvB : ∀ k, v.ownBlock = some k → B ≤ k) (hs' : x.s.size ≤ 9223372036854775807) (hlen : l.length ≤ 100000) :
    Calls Try.prog 17 #[.pointer (some ⟨rb, 0, none⟩), x.val] w (RPutPost w B rb A n cap T v l x) := by
  cases hx : (isLabel n x.b && isLabel n x.f && isLabel n x.t)
  · exact rput_arg x h hB hx
  · exact rput_lab x h hB hrb hvB hx hs' hlen
end
end Go.Proofs.Ytjfonbkeamhnmaa
