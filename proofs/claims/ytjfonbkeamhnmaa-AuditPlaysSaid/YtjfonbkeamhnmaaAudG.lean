/- Layer 2: Put where the entry is put in; Put whatever comes. -/
import Derived.Test.YtjfonbkeamhnmaaAudF
import Derived.Deep.RegionLaw
namespace Go.Proofs.Ytjfonbkeamhnmaa
open Go.RowKit Lat

theorem log_ne {w : World} {gb lb n : Nat} {T : Nat → Nat → Bool} {v : Value} {l : List Ent} (h : IsLog w gb lb n T v l) : v.ownBlock ≠ some gb := by
  intro e
  rcases h.own.2 with ⟨rfl, _⟩ | ⟨g, cap, cur, rfl, _, hh, _⟩
  · simp [Value.ownBlock] at e
  · have : g = gb := by simpa [Value.ownBlock] using e
    subst this
    have := h.blk
    rw [hh] at this
    injection this with this
    injection this with _ ht
    exact absurd ht (by decide)

/-- A lattice is kept by what turns entries and logs alone. -/
theorem lat_kept {w w' : World} {lb n : Nat} {T : Nat → Nat → Bool} (h : IsLat w lb n T) (hk : ∀ (k : Nat) (c : Array Value) (t : TypeId), w.heap[k]? = some (.cells c t (0, 0)) → t ≠ 54 → t ≠ 30 → w'.heap[k]? = w.heap[k]?) : IsLat w' lb n T := by
  obtain ⟨ub, db, d, js, ms, h⟩ := h
  refine ⟨ub, db, d, js, ms, (hk lb _ _ h.blk (by decide) (by decide)).trans h.blk, ?_, ?_, h.le, h.pos, ?_⟩
  · obtain ⟨U, hr, hu⟩ := h.up
    exact ⟨U, row_keep hr fun c hc => hk ub c _ hc (by decide) (by decide), hu⟩
  · obtain ⟨U, hr, hu⟩ := h.dn
    exact ⟨U, row_keep hr fun c hc => hk db c _ hc (by decide) (by decide), hu⟩
  · have ht : ∀ v J, Table w v n J → Table w' v n J := by
      rintro v J ⟨jb, R, hv, hr, hR⟩
      exact ⟨jb, R, hv, row_keep hr fun c hc => hk jb c _ hc (by decide) (by decide), fun i hi => row_keep (hR i hi) fun c hc => hk (R i) c _ hc (by decide) (by decide)⟩
    exact h.made.imp id fun ⟨a, b, c⟩ => ⟨a, ht _ _ b, ht _ _ c⟩

/-- Behind the append and the store. -/
theorem put_done {w w3 wa w5 : World} {gb lb n : Nat} {T : Nat → Nat → Bool} {v : Value} {l : List Ent} {x : Ent} {g cap : Nat} (hl : IsLog w gb lb n T v l) (h3 : IsLog w3 gb lb n T v l) (hB : Below w.heap.size w w3) (ha : Below w3.heap.size w3 wa)
    (hown : w5.ownsRow 0 30 4 (.slice (some ⟨g, 0, none⟩) (l.length + 1) cap) (l.length + 1) (flat l ++ x.cells)) (hg : wa.grownBy w5 v.ownBlock) (hat : v.ownBlock = some g ∨ w3.heap.size ≤ g) (h0 : putErr n T l x = 0) :
    PutPost w gb lb n T v l x (.returned (.int .i64 0)) (w5.setCell ⟨gb, 1, none⟩ (.slice (some ⟨g, 0, none⟩) (l.length + 1) cap)) := by
  have hne := log_ne h3
  have hgb := lt_of h3.blk
  have hgb' := lt_of hl.blk
  have hs3 := hB.size
  have hsa := ha.size
  have hs5 := hg.size
  have hkeep : ∀ k, k < w3.heap.size → v.ownBlock ≠ some k → w5.heap[k]? = w3.heap[k]? := fun k hk hn => (hg.block k (Nat.lt_of_lt_of_le hk hsa) (fun e => hn e.symm)).trans (ha.block k hk)
  have hset : ∀ k, k ≠ gb → (w5.setCell ⟨gb, 1, none⟩ (.slice (some ⟨g, 0, none⟩) (l.length + 1) cap)).heap[k]? = w5.heap[k]? := fun k hk => Below.heap_setCell w5 ⟨gb, 1, none⟩ _ k hk
  have hggb : g ≠ gb := by
    rintro rfl
    rcases hat with h | h
    · exact hne h
    · omega
  have hb5 : w5.heap[gb]? = some (.cells #[.pointer (some ⟨lb, 0, none⟩), v] 54 (0, 0)) := (hkeep gb hgb hne).trans h3.blk
  refine ⟨.slice (some ⟨g, 0, none⟩) (l.length + 1) cap, by rw [h0], ⟨?_, ?_, ?_⟩, ?_⟩
  · have hlt := lt_of hb5
    have h' : w5.heap[gb] = .cells #[.pointer (some ⟨lb, 0, none⟩), v] 54 (0, 0) := by simpa [Array.getElem?_eq_getElem hlt] using hb5
    show (w5.heap.modify gb _)[gb]? = _
    rw [Array.getElem?_eq_getElem (by simpa using hlt), Array.getElem_modify_self, h']
    rfl
  · refine lat_kept h3.lat fun k c t hc h1 h2 => ?_
    have hkgb : k ≠ gb := by
      rintro rfl
      rw [h3.blk] at hc
      injection hc with hc
      injection hc with _ ht
      exact h1 ht.symm
    rw [hset k hkgb]
    refine hkeep k (lt_of hc) fun e => ?_
    rcases h3.own.2 with ⟨rfl, _⟩ | ⟨g', cap', cur, rfl, _, hh, _⟩
    · simp [Value.ownBlock] at e
    · have : g' = k := by simpa [Value.ownBlock] using e
      subst this
      rw [hh] at hc
      injection hc with hc
      injection hc with _ ht
      exact h2 ht.symm
  · rw [putL, if_pos h0]
    refine ents_block (ents_snoc rfl hown) fun k hk => hset k ?_
    have : g = k := by simpa [Value.ownBlock] using hk
    omega
  · refine ⟨?_, ?_, ?_, ?_, fun k hk hkg hn => ?_, ?_⟩
    · exact hg.os.trans (ha.os.trans hB.os)
    · exact hg.tape.trans (ha.tape.trans hB.tape)
    · exact hg.output.trans (ha.output.trans hB.output)
    · simp [World.setCell]; omega
    · rw [hset k hkg, hkeep k (by omega) hn]
      exact hB.block k hk
    · rcases hat with h | h
      · exact Or.inl (by rw [h]; rfl)
      · exact Or.inr ⟨g, rfl, by omega⟩

set_option maxRecDepth 100000 in
set_option maxHeartbeats 1600000 in
theorem put_ok (gb lb n : Nat) (T : Nat → Nat → Bool) (v : Value) (l : List Ent) (x : Ent) (w : World) (h : IsLog w gb lb n T v l) (hx : (isLabel n x.b && isLabel n x.f && isLabel n x.t) = true) (hm : mayB n T x = true) (hs : ¬ 4096 < x.s.size) (hr : ¬ roomV n l x.b = 0) (hlen : l.length ≤ 100000) :
    Calls Try.prog 9 #[.pointer (some ⟨gb, 0, none⟩), x.val] w (PutPost w gb lb n T v l x) := by
  have HH := Lib.hid h
  have H := Lib.hid (fun o => h.alloc o)
  have E := Lib.hid (show putErr n T l x = 0 by rw [putErr, if_neg (by rw [hx]; simp), if_neg (by rw [hm]; simp), if_neg hs, if_neg hr])
  obtain ⟨xb, xf, xt, xs⟩ := x
  have HM := Lib.hid (fun o => hm ▸ mayBe_any gb lb n T v l ⟨xb, xf, xt, xs⟩ _ (h.alloc o))
  clear hm
  unfold Ent.val
  simp only [Bool.and_eq_true] at hx hs hr
  obtain ⟨⟨h1, h2⟩, h3⟩ := hx
  have hgb := lt_of h.blk
  have HRM := Lib.hid (fun (w2 : World) (hB : Below w.heap.size w w2) => room_any gb lb n T v l xb w2 (h.below hB (Nat.le_refl _)))
  obtain ⟨i0, hi, hz0, hz1, hz2⟩ := info_parts info_ent
  have HI := Lib.hid hi; have HZ0 := Lib.hid hz0; have HZ1 := Lib.hid hz1; have HZ2 := Lib.hid hz2
  clear h hi hz0 hz1 hz2
  generalize roomV n l xb = rv at hr HRM
  have hrd : (rv == 0) = false := by simpa using hr
  clear hr
  go_enter Try.func9, Try.ntmps9
  go_wp2_with (first | (go_at_call 26; refine (made_any gb lb n T v l _ (H.out _)).mono ?_; rintro e w' ⟨rfl, rfl⟩) | (go_at_call 27; refine (logLabel_any gb lb n T v l _ _ (H.out _)).mono ?_; rintro e w' ⟨rfl, rfl⟩))
  refine (HM.out _).mono ?_
  rintro e w2 ⟨rfl, hB⟩
  have hc3 : w2.cell? ⟨w.heap.size, 3, none⟩ = some (.string xs) := (bcell hB _ 3 (by simp)).trans (by simp)
  have hc0 : w2.cell? ⟨w.heap.size, 0, none⟩ = some (.int .i64 xb) := (bcell hB _ 0 (by simp)).trans (by simp)
  have hc1 : w2.cell? ⟨w.heap.size, 1, none⟩ = some (.int .i64 xf) := (bcell hB _ 1 (by simp)).trans (by simp)
  have hc2 : w2.cell? ⟨w.heap.size, 2, none⟩ = some (.int .i64 xt) := (bcell hB _ 2 (by simp)).trans (by simp)
  have hsz : w.heap.size < w2.heap.size := by have := hB.size; simp at this; omega
  have HB := Lib.hid (((Below.refl _ w).alloc (Nat.le_refl _) _).trans (hB.mono (by simp)))
  clear hB
  go_wp2_with fail
  refine (HRM.out w2 HB.out).mono ?_
  rintro e w3 ⟨rfl, hB3⟩
  have d0 := (bcell hB3 _ 0 hsz).trans hc0
  have d1 := (bcell hB3 _ 1 hsz).trans hc1
  have d2 := (bcell hB3 _ 2 hsz).trans hc2
  have d3 := (bcell hB3 _ 3 hsz).trans hc3
  have hsz3 : w.heap.size < w3.heap.size := by have := hB3.size; omega
  have HB3 := Lib.hid (HB.out.trans (hB3.mono HB.out.size))
  have H3 := Lib.hid (HH.out.below HB3.out (Nat.le_refl _))
  have g1 := H3.out.cells.2
  have hgb3 := lt_of H3.out.blk
  have HA := Lib.hid (below_drew ((Below.refl _ w3).alloc (Nat.le_refl _) (.cells #[.int .i64 xb, .int .i64 xf, .int .i64 xt, .string xs] 30)) 1)
  clear hB3 hc0 hc1 hc2 hc3 hsz HB H HRM HM
  have HOW := Lib.hid (show (w3.alloc (.cells #[.int .i64 xb, .int .i64 xf, .int .i64 xt, .string xs] 30)).drew.ownsRow 0 30 4 v l.length (flat l) from World.ownsRow.alloc H3.out.own _)
  have HN1 := Lib.hid (show ∀ j u, (Ent.cells ⟨xb, xf, xt, xs⟩)[j]? = some u → (w3.alloc (.cells #[.int .i64 xb, .int .i64 xf, .int .i64 xt, .string xs] 30)).drew.cell? ((⟨w3.heap.size, 0, none⟩ : Addr).add j) = some u from news_ent (x := ⟨xb, xf, xt, xs⟩) (heap_alloc_new w3 _))
  have HN2 := Lib.hid (one_ent ⟨xb, xf, xt, xs⟩)
  have HCU := Lib.hid (show ∀ w5 : World, ((w3.alloc (.cells #[.int .i64 xb, .int .i64 xf, .int .i64 xt, .string xs] 30)).drew.grownBy w5 v.ownBlock) → w5.cell? ⟨gb, 1, none⟩ = some v ∧ w5.frozen? ⟨gb, 1, none⟩ = false from by
    intro w5 hg
    have hb : w5.heap[gb]? = w3.heap[gb]? := (hg.block gb (by simp; omega) (fun e => log_ne H3.out e.symm)).trans (HA.out.block gb hgb3)
    exact ⟨(World.cell?_of_block (w := w3) (a := ⟨gb, 1, none⟩) hb).trans H3.out.cells.2, (World.frozen?_of_block (w := w3) (a := ⟨gb, 1, none⟩) hb).trans (frozen_of H3.out.blk 1)⟩)
  go_wp2
  go_region_law (refine step_append_lies _ rfl (.tmp 49) (.tmp 51) 34 rfl 0 30 i0 _ 4 40 Try.underlying34 HI.out HZ0.out HZ1.out HZ2.out rfl (by decide) v l.length _ (by simp [Act.eval]) HOW.out ⟨w3.heap.size, 0, none⟩ 1 1 (Ent.cells ⟨xb, xf, xt, xs⟩) (by simp [Act.eval]) rfl HN1.out HN2.out (by omega) (by unfold maxLen; omega) (by omega) (Nat.zero_le _) _ rfl ?_; intro g cap' w5 hown hgrow hat hlt5; have cu5 := (HCU.out w5 hgrow).1; have fu5 := (HCU.out w5 hgrow).2; have HOW5 := Lib.hid hown; have HGR := Lib.hid hgrow; have HAT := Lib.hid hat; clear hown hgrow hat hlt5)
  all_goals
    go_wp2
    go_ret
    exact put_done HH.out H3.out HB3.out HA.out HOW5.out HGR.out (HAT.out.imp id (by rintro rfl; simp)) E.out

theorem put_any (gb lb n : Nat) (T : Nat → Nat → Bool) (v : Value) (l : List Ent) (x : Ent) (w : World) (h : IsLog w gb lb n T v l) (hs : x.s.size ≤ 9223372036854775807) (hlen : l.length ≤ 100000) :
    Calls Try.prog 9 #[.pointer (some ⟨gb, 0, none⟩), x.val] w (PutPost w gb lb n T v l x) := by
  cases hx : (isLabel n x.b && isLabel n x.f && isLabel n x.t)
  · exact put_arg gb lb n T v l x w h hx
  cases hm : mayB n T x
  · exact put_flow gb lb n T v l x w h hx hm
  by_cases h4 : 4096 < x.s.size
  · exact put_long gb lb n T v l x w h hx hm h4 hs
  by_cases hr : roomV n l x.b = 0
  · exact put_full gb lb n T v l x w h hx hm h4 hr
  · exact put_ok gb lb n T v l x w h hx hm h4 hr hlen
end Go.Proofs.Ytjfonbkeamhnmaa
