/- Layer 14: the program's Put: append, then slices.Delete of the eldest. -/
import Derived.Test.YtpanhkhiomgclaaBaE
set_option linter.unusedVariables false
namespace Go.Proofs.Ytpanhkhiomgclaa.Ba
open Go.RowKit

theorem winI_succ {w : World} {base n : Nat} {v : Value} {l : List Int} {x : Int} (h : WinI w base v (l ++ [x])) (hn : (l ++ [x]).length = n) : ∃ g o c, v = .slice (some ⟨g, o, none⟩) n c := by
  rcases h with ⟨_, h0⟩ | ⟨g, o, cap, cur, rfl, _⟩
  · have := ints_len (l ++ [x])
    rw [h0] at this
    simp at this
  · exact ⟨g, o, cap, by rw [ints_len, hn]⟩

set_option maxRecDepth 100000 in
set_option maxHeartbeats 4000000 in
theorem put_any {w : World} {s : Value} {M G : Nat} {L : List Int} (h : BkAt w s M G L) (x : Int) (hG : G ≤ 1000000) : Calls Try.prog 10 #[s, .int .i64 x] w fun e w' => e = .returned (.bool (putB M L)) ∧ BkAt w' s M (goneV M L G) (putV M L x) ∧ TurnB s w w' := by
  obtain ⟨p, A, c, rfl, hp, ho, hr, hcap⟩ := h.open_
  obtain ⟨q, hq⟩ : ∃ q, q = L.length := ⟨_, rfl⟩
  rw [← hq] at hp ho hr hcap
  have hA0 : Below w.heap.size w (w.alloc (.cells #[.int .i64 x] 3)) := (Below.refl _ _).alloc (Nat.le_refl _) _
  have c0 := cell_of hp 0
  have c3 : (w.alloc (.cells #[.int .i64 x] 3)).cell? ⟨p, 2, none⟩ = some (.slice A q c) := (hA0.cell (p := ⟨p, 2, none⟩) (blk_lt hp)).trans (cell_of hp 2)
  have c3w := cell_of hp 2
  have hoA : WinI (w.alloc (.cells #[.int .i64 x] 3)) 0 (.slice A q c) L := winI_below ho hA0
  have hone : ∀ j u, [Value.int .i64 x][j]? = some u → (w.alloc (.cells #[.int .i64 x] 3)).cell? ((⟨w.heap.size, 0, none⟩ : Addr).add j) = some u := fun j u hj => by
    have hj0 : j = 0 := by
      have := (List.getElem?_eq_some_iff.1 hj).1
      simpa using this
    subst hj0
    rw [add_oo, cell_of (heap_new w _)]
    simpa using hj
  obtain ⟨i0, hi, hz0, hz1, hz2⟩ := info_parts info_int
  have HP := Lib.hid hp
  have HO := Lib.hid ho
  have HR := Lib.hid hr
  have HC := Lib.hid hcap
  have HQ := Lib.hid hq
  have HA0 := Lib.hid hA0
  have hq5 : q ≤ 500 := by omega
  clear hp ho hr hcap hq hA0 h
  go_enter Try.func10, Try.ntmps10
  go_wp2_with (at_builtin; refine wpList_append_win _ rfl (.tmp 18) (.tmp 20) 22 rfl 0 3 i0 (.int .i64 0) 8 Try.underlying22 hi hz0 hz1 hz2 rfl _ _ rfl hoA ⟨w.heap.size, 0, none⟩ 1 1 [.int .i64 x] rfl rfl (by decide) hone (by simp [Value.oneCell']) (by rw [ints_len, ← HQ.out]; unfold maxLen; omega) (by rw [ints_len, ← HQ.out]; omega) (Nat.zero_le _) ?_)
  intro v' w2 hown hgrow hat
  have hl1 : (L ++ [x]).length = q + 1 := by rw [List.length_append, List.length_singleton, HQ.out]
  have hown2 : WinI w2 0 v' (L ++ [x]) := by unfold WinI; rw [ints_append]; exact hown
  obtain ⟨g', o', cap', rfl⟩ := winI_succ hown2 hl1
  have hsz2 : w.heap.size ≤ w2.heap.size := by have := hgrow.size; simp at this; omega
  have hpl := blk_lt HP.out
  have hold : ∀ k, k < w.heap.size → (Value.slice A q c).ownBlock ≠ some k → w2.heap[k]? = w.heap[k]? := fun k hk hn => (hgrow.block k (by simp; omega) (fun e => hn e.symm)).trans (Below.heap_alloc w _ k hk)
  have hp2 := (hold p hpl (fun e => HR.out p e rfl)).trans HP.out
  have hgo : (Value.slice A q c).ownBlock = some g' ∨ w.heap.size ≤ g' := by
    rcases hat with e | e
    · exact Or.inl e.symm
    · have e2 : g' = w.heap.size + 1 := by simpa [Value.ownBlock] using e
      exact Or.inr (by omega)
  have hgp : g' ≠ p := by
    rcases hgo with e | e
    · exact HR.out g' e
    · omega
  obtain ⟨r, hr1⟩ : ∃ r, q + 1 = r := ⟨_, rfl⟩
  rw [hr1] at hown2 hl1
  rw [hr1]
  obtain ⟨W3, hW3⟩ : ∃ W3, w2.setCell ⟨p, 2, none⟩ (.slice (some ⟨g', o', none⟩) r cap') = W3 := ⟨_, rfl⟩
  have hp3 : W3.heap[p]? = some (.cells #[.bool true, .int .i64 (M : Int), .slice (some ⟨g', o', none⟩) r cap', .int .i64 (G : Int)] 41 (0, 0)) := by rw [← hW3]; exact set2 hp2 _
  have hown3 : WinI W3 0 (.slice (some ⟨g', o', none⟩) r cap') (L ++ [x]) := winI_keep hown2 fun k e => by
    have : g' = k := by simpa [Value.ownBlock] using e
    subst this
    rw [← hW3]
    exact Below.heap_setCell _ _ _ _ hgp
  have hs3 : w.heap.size ≤ W3.heap.size := by rw [← hW3]; simpa using hsz2
  have hold3 : ∀ k, k < w.heap.size → k ≠ p → (Value.slice A q c).ownBlock ≠ some k → W3.heap[k]? = w.heap[k]? := fun k hk hkp hn => by
    rw [← hW3, Below.heap_setCell _ _ _ _ hkp]
    exact hold k hk hn
  have ht3 : TurnB (.pointer (some ⟨p, 0, none⟩)) w W3 := turn_of HP.out hp3 (by rw [← hW3]; exact hgrow.os) (by rw [← hW3]; exact hgrow.tape) (by rw [← hW3]; exact hgrow.output) hs3 hold3 fun k e => by
    have : g' = k := by simpa [Value.ownBlock] using e
    subst this
    exact hgo
  have c3' := cell_of hp2 2
  have f3' := free_of hp2 2
  have HW3 := Lib.hid hW3
  have HP3 := Lib.hid hp3
  have HO3 := Lib.hid hown3
  have HT3 := Lib.hid ht3
  have HGp : Hid (g' ≠ p ∧ p < W3.heap.size ∧ (L ++ [x]).length = r ∧ r = q + 1) := Lib.hid ⟨hgp, blk_lt hp3, hl1, hr1.symm⟩
  have kd : Below W3.heap.size W3 W3.drew := below_drew (Below.refl _ _) 1
  have k0 : ∀ V, Below W3.heap.size W3 V → V.heap[p]? = some (.cells #[.bool true, .int .i64 (M : Int), .slice (some ⟨g', o', none⟩) r cap', .int .i64 (G : Int)] 41 (0, 0)) := fun V hV => (hV.block p (blk_lt hp3)).trans hp3
  have HK0 := Lib.hid k0
  have b1 := fun V hV => cell_of (HK0.out V hV) 1
  have b3 := fun V hV => cell_of (HK0.out V hV) 2
  have hr501 : r ≤ 501 := by omega
  clear hown hgrow hat hown2 hsz2 hpl hold hp2 hgo hgp hW3 hp3 hown3 hs3 hold3 ht3 hl1 hr1 k0
  by_cases hMr : r ≤ M
  · have g1 : decide ((r : Int) ≤ (M : Int)) = true := by simp; omega
    have g1' : decide (r ≤ M) = true := by simpa using hMr
    have hput : putB M L = false ∧ goneV M L G = G ∧ putV M L x = L ++ [x] := by
      have := HGp.out; have := HQ.out
      unfold putB goneV putV
      exact ⟨by simp; omega, if_neg (by omega), if_neg (by omega)⟩
    have HPut := Lib.hid hput
    have HE : Hid (BkAt W3.drew (.pointer (some ⟨p, 0, none⟩)) M G (L ++ [x]) ∧ TurnB (.pointer (some ⟨p, 0, none⟩)) w W3.drew) := Lib.hid (by
      refine ⟨⟨p, _, rfl, HP3.out, HO3.out, fun k e => ?_, by rw [HGp.out.2.2.1]; exact hMr, HC.out.2⟩, ⟨HT3.out.os, HT3.out.tape, HT3.out.output, HT3.out.size, HT3.out.block, HT3.out.own⟩⟩
      have : g' = k := by simpa [Value.ownBlock] using e
      subst this
      exact HGp.out.1)
    clear hput
    go_wp2
    rw [HW3.out]
    go_region_held3 (fun V => Below W3.heap.size W3 V) (assumption) (first | fail)
    go_wp2
    go_ret
    rw [HPut.out.1, HPut.out.2.1, HPut.out.2.2]
    exact ⟨rfl, HE.out⟩
  · have g1 : decide ((r : Int) ≤ (M : Int)) = false := by simp; omega
    have g1' : decide (r ≤ M) = false := by simpa using hMr
    have hput : putB M L = true ∧ goneV M L G = G + 1 ∧ putV M L x = (L ++ [x]).drop 1 := by
      have := HGp.out; have := HQ.out
      unfold putB goneV putV
      exact ⟨by simp; omega, if_pos (by omega), if_pos (by omega)⟩
    have HPut := Lib.hid hput
    have hd : ∀ V, Below W3.heap.size W3 V → Calls Try.prog 30 #[.slice (some ⟨g', o', none⟩) r cap', .int .i64 0, .int .i64 1] V fun e w' => e = .returned (.slice (some ⟨g', o', none⟩) (r - 1) cap') ∧ WinI w' 0 (.slice (some ⟨g', o', none⟩) (r - 1) cap') ((L ++ [x]).drop 1) ∧ TurnK (some g') V w' := fun V hV => by
      have := delete_any (winI_below HO3.out hV) 0 1 (by omega) (by have := HGp.out.2.2.2; omega) (by have := HGp.out.2.2.2; omega)
      rwa [List.take_zero, List.nil_append, Nat.sub_zero] at this
    have KD := Lib.hid hd
    obtain ⟨X, hX⟩ : ∃ X, X = G + 1 := ⟨_, rfl⟩
    have z1 : IntKind.i64.wrap ((G : Int) + 1) = (X : Int) := by rw [IntWalk.i64_in _ (by omega)]; omega
    rw [← hX] at HPut
    have hdl : ((L ++ [x]).drop 1).length ≤ M := by rw [List.length_drop, HGp.out.2.2.1]; have := HC.out; have := HGp.out.2.2.2; omega
    have HDl := Lib.hid hdl
    have HX := Lib.hid hX
    clear hput hMr hX hdl hd
    go_wp2
    rw [HW3.out]
    clear HW3 c3' f3'
    go_region_held3 (fun V => Below W3.heap.size W3 V) (assumption) (first | fail)
    have b3d := b3 _ kd
    go_wp2_with fail
    refine (show Calls _ _ _ _ _ from KD.out _ kd).mono ?_
    rintro e w5 ⟨rfl, ho5, ht5⟩
    obtain ⟨hp5, hp6, ho6, hr6, ht6⟩ := del_store (HK0.out _ kd) (fun q e => by have : g' = q := by simpa [Value.ownBlock] using e
                                                                                subst this; exact HGp.out.1) ho5 ht5
    have f2 := free_of hp5 2
    have d2 := cell_of hp5 2
    have hp7 := set3 hp6 (.int .i64 (X : Int))
    have d3 := cell_of hp5 3
    have e3 := free_of hp5 3
    have d3' := cell_of hp6 3
    have e3' := free_of hp6 3
    have hT : TurnB (.pointer (some ⟨p, 0, none⟩)) w ((w5.setCell ⟨p, 2, none⟩ (.slice (some ⟨g', o', none⟩) (r - 1) cap')).setCell ⟨p, 3, none⟩ (.int .i64 (X : Int))) := by
      refine TurnB.trans (TurnB.trans (TurnB.trans HT3.out (turn_old kd fun q e => ?_)) ht6) (turn_of hp6 hp7 rfl rfl rfl (by simp) (fun k _ hk _ => Below.heap_setCell _ _ _ _ hk) fun r e => Or.inl e)
      cases e
      exact HGp.out.2.1
    have HE : Hid (BkAt ((w5.setCell ⟨p, 2, none⟩ (.slice (some ⟨g', o', none⟩) (r - 1) cap')).setCell ⟨p, 3, none⟩ (.int .i64 (X : Int))) (.pointer (some ⟨p, 0, none⟩)) M X ((L ++ [x]).drop 1) ∧ TurnB (.pointer (some ⟨p, 0, none⟩)) w ((w5.setCell ⟨p, 2, none⟩ (.slice (some ⟨g', o', none⟩) (r - 1) cap')).setCell ⟨p, 3, none⟩ (.int .i64 (X : Int)))) := Lib.hid ⟨⟨p, _, rfl, hp7, winI_keep ho6 fun q e => Below.heap_setCell _ _ _ _ (hr6 q e), hr6, HDl.out, HC.out.2⟩, hT⟩
    generalize r - 1 = m at *
    clear hp5 hp6 ho6 hr6 ht6 hp7 hT ho5 ht5 KD
    go_wp2
    go_ret
    rw [HPut.out.1, HPut.out.2.1, HPut.out.2.2]
    exact ⟨rfl, HE.out⟩
end Go.Proofs.Ytpanhkhiomgclaa.Ba
