/- Layer 14: the document's back: Put, Pop, Last. -/
import Derived.Test.YtpanhkhiomgclaaBaL
import Derived.Laws.AppendOwnNone
set_option linter.unusedVariables false
namespace Go.Proofs.Ytpanhkhiomgclaa.Ba
open Go.RowKit

/-- A slice that reads so, in blocks of F. -/
def LiesF (F : Nat → Prop) (w : World) (u : Value) (l : List Int) : Prop := LiesI w u l ∧ ∀ A n c b o, u = .slice A n c → A = some ⟨b, o, none⟩ → 0 < n → F b
theorem LiesF.keep {F : Nat → Prop} {w w' : World} {u : Value} {l : List Int} (h : LiesF F w u l) (hk : ∀ b, F b → b < w.heap.size → w'.heap[b]? = w.heap[b]?) (hs : w.heap.size ≤ w'.heap.size) : LiesF F w' u l := by
  refine ⟨?_, h.2⟩
  obtain ⟨A, c, e, h0, h1, h2⟩ := h.1
  refine ⟨A, c, e, h0, h1, fun hl => ?_⟩
  obtain ⟨b, o, e2, hlt, hc⟩ := h2 hl
  have hF := h.2 A _ c b o e e2 hl
  exact ⟨b, o, e2, Nat.lt_of_lt_of_le hlt hs, fun k hk' => (World.cell?_of_block (hk b hF hlt)).trans (hc k hk')⟩
theorem LiesF.more {F F' : Nat → Prop} {w : World} {u : Value} {l : List Int} (h : LiesF F w u l) (hF : ∀ b, F b → b < w.heap.size → F' b) : LiesF F' w u l := by
  refine ⟨h.1, fun A n c b o e e2 hn => ?_⟩
  subst e
  obtain ⟨b', o', e', hb, _⟩ := h.1.at_ hn
  rw [e2] at e'
  cases e'
  exact hF b (h.2 _ _ _ _ _ rfl e2 hn) hb
theorem LiesF.of_own {w : World} {base : Nat} {v : Value} {l : List Int} (h : OwnI w base v l) : LiesF (fun b => base ≤ b) w v l := by
  refine ⟨ownI_lies h, fun A n c b o e e2 hn => ?_⟩
  subst e e2
  exact (ownI_ge h b rfl).1
/-- Cut at its front. -/
theorem LiesF.from {F : Nat → Prop} {w : World} {A : Option Addr} {n c : Nat} {l : List Int} (h : LiesF F w (.slice A n c) l) (x : Nat) (hx : x ≤ n) : ∃ p m d, m = n - x ∧ (∀ W, (Instr.slice 22 (.slice A n c) (some (.int .i64 (x : Int))) none none).run Try.prog W = .ok (.slice p m d) W) ∧ LiesF F w (.slice p m d) (l.drop x) := by
  have hl := h.1.len
  have hll : (l.drop x).length = n - x := by rw [List.length_drop, hl.1]
  cases A with
  | none =>
    obtain rfl := hl.2.1 rfl
    have h0 : n = 0 := by omega
    have hx0 : x = 0 := by omega
    subst h0 hx0
    refine ⟨none, 0, 0, rfl, fun W => by kernel_rfl, ?_⟩
    rw [List.drop_zero]
    exact h
  | some ad =>
    by_cases hn : 0 < n
    · obtain ⟨b, o, e, hb, _⟩ := h.1.at_ hn
      cases e
      refine ⟨if c = x then some ⟨b, o, none⟩ else some ⟨b, o + x, none⟩, n - x, c - x, rfl, fun W => ?_, ?_, fun A' n' c' b' o' e e2 hn' => ?_⟩
      · rw [run_slice_l W 22 (some ⟨b, o, none⟩) n c int_under .i64 (x : Int) (by omega) (by omega), int_size]
        simp only [Result.andThen, sliced, Int.toNat_natCast, Option.map_some, add_oo, Nat.mul_one]
      · refine ⟨_, c - x, by rw [hll], fun e => ?_, by omega, fun hp => ?_⟩
        · split at e <;> cases e
        · rw [hll] at hp
          have hcx : ¬ c = x := by omega
          rw [if_neg hcx]
          refine ⟨b, o + x, rfl, hb, fun k hk => ?_⟩
          rw [hll] at hk
          obtain ⟨b', o', e, _, q⟩ := h.1.at_ (k := x + k) (by omega)
          cases e
          rw [getD_drop, Nat.add_assoc]
          exact q
      · have hF := h.2 _ _ _ b o rfl rfl hn
        injection e with e e3 e4
        subst e
        split at e2 <;> cases e2 <;> exact hF
    · have h0 : n = 0 := by omega
      have hx0 : x = 0 := by omega
      subst h0 hx0
      refine ⟨some ad, 0, c, rfl, fun W => ?_, ?_⟩
      · have := run_slice_l (P := Try.prog) W 22 (some ad) 0 c int_under .i64 ((0 : Nat) : Int) (by omega) (by omega)
        rw [this, int_size]
        obtain ⟨b, o, q⟩ := ad
        cases c <;> simp [Result.andThen, sliced, Addr.add]
      · rw [List.drop_zero]
        exact h
/-- Cut at its end. -/
theorem LiesF.to {F : Nat → Prop} {w : World} {A : Option Addr} {n c : Nat} {l : List Int} (h : LiesF F w (.slice A n c) l) (y : Nat) (hy : y ≤ n) (hn : 0 < n) : (∀ W, (Instr.slice 22 (.slice A n c) none (some (.int .i64 (y : Int))) none).run Try.prog W = .ok (.slice A y c) W) ∧ LiesF F w (.slice A y c) (l.take y) := by
  have hl := h.1.len
  have hll : (l.take y).length = y := by rw [List.length_take, ← hl.1]; omega
  obtain ⟨b, o, e, hb, _⟩ := h.1.at_ hn
  subst e
  refine ⟨fun W => ?_, ?_, fun A' n' c' b' o' e e2 hn' => ?_⟩
  · rw [run_slice_h W 22 (some ⟨b, o, none⟩) n c int_under .i64 (y : Int) (by omega) (by omega), int_size]
    simp [Result.andThen, sliced]
    try (intro _; exact (add_oo _ _ _).trans rfl)
  · refine ⟨_, c, (by rw [hll]), fun e => (by cases e), (by omega), fun hp => ⟨b, o, rfl, hb, fun k hk => ?_⟩⟩
    rw [hll] at hk
    obtain ⟨b', o', e, _, q⟩ := h.1.at_ (k := k) (by omega)
    cases e
    rw [getD_take _ _ _ hk]
    exact q
  · injection e with e e3 e4
    subst e
    cases e2
    exact h.2 _ _ _ _ _ rfl rfl hn
/-- The document's back in block g. -/
def RefAt (F : Nat → Prop) (w : World) (g M G : Nat) (L : List Int) : Prop := ∃ A c, w.heap[g]? = some (.cells #[.int .i64 (M : Int), .slice A L.length c, .int .i64 (G : Int)] 30 (0, 0)) ∧ LiesF F w (.slice A L.length c) L ∧ ¬ F g
theorem RefAt.keep {F : Nat → Prop} {w w' : World} {g M G : Nat} {L : List Int} (h : RefAt F w g M G L) (hg : w'.heap[g]? = w.heap[g]?) (hk : ∀ b, F b → b < w.heap.size → w'.heap[b]? = w.heap[b]?) (hs : w.heap.size ≤ w'.heap.size) : RefAt F w' g M G L := by
  obtain ⟨A, c, h1, h2, h3⟩ := h
  exact ⟨A, c, hg.trans h1, h2.keep hk hs, h3⟩
theorem RefAt.below {F : Nat → Prop} {w w' : World} {g M G : Nat} {L : List Int} (h : RefAt F w g M G L) (hb : Below w.heap.size w w') : RefAt F w' g M G L := by
  obtain ⟨A, c, h1, _⟩ := id h
  exact h.keep (hb.block g (blk_lt h1)) (fun b _ hl => hb.block b hl) hb.size
theorem RefAt.more {F F' : Nat → Prop} {w : World} {g M G : Nat} {L : List Int} (h : RefAt F w g M G L) (hF : ∀ b, F b → b < w.heap.size → F' b) (hg : ¬ F' g) : RefAt F' w g M G L := by
  obtain ⟨A, c, h1, h2, h3⟩ := h
  exact ⟨A, c, h1, h2.more hF, hg⟩
/-- Only block g and new ones have turned. -/
structure TurnG (g : Nat) (w w' : World) : Prop where
  os : w'.os = w.os
  tape : w'.tape = w.tape
  output : w'.output = w.output
  size : w.heap.size ≤ w'.heap.size
  block : ∀ k, k < w.heap.size → k ≠ g → w'.heap[k]? = w.heap[k]?

set_option maxRecDepth 100000 in
set_option maxHeartbeats 4000000 in
theorem ref_last {F : Nat → Prop} {w : World} {g M G : Nat} {L : List Int} (h : RefAt F w g M G L) (n : Int) (hL : L.length ≤ 100000) (hn : IntIn n) : Calls Try.prog 19 #[.pointer (some ⟨g, 0, none⟩), .int .i64 n] w fun e w' => ∃ A c, e = .returned (.slice A (lastV L n).length c) ∧ LiesI w' (.slice A (lastV L n).length c) (lastV L n) ∧ Below w.heap.size w w' := by
  obtain ⟨A, c, hg, hl, -⟩ := h
  obtain ⟨q, hq⟩ : ∃ q, q = L.length := ⟨_, rfl⟩
  rw [← hq] at hg hl hL
  have q1 := cell_of hg 1
  have HL := Lib.hid hl
  have HQ := Lib.hid hq
  unfold IntIn at hn
  by_cases h1 : n < 1
  · have g1 : decide (n < 1) = true := by simpa using h1
    have e : lastV L n = [] := by unfold lastV; rw [show L.length - n.toNat = L.length by omega, List.drop_length]
    rw [e]
    clear hg hl hq
    go_enter Try.func19, Try.ntmps19
    go_wp2
    go_ret
    exact ⟨none, 0, rfl, liesI_nil _, Below.refl _ _⟩
  · have g1 : decide (n < 1) = false := by simpa using h1
    obtain ⟨N, rfl⟩ : ∃ N : Nat, n = (N : Int) := ⟨n.toNat, by omega⟩
    by_cases h2 : q < N
    · have g2 : decide ((N : Int) > (q : Int)) = true := by simp; omega
      have e : lastV L (N : Int) = L := last_all L _ (by omega)
      rw [e]
      clear hg hl e
      rw [← hq]
      clear hq
      go_enter Try.func19, Try.ntmps19
      go_wp2
      go_ret
      exact ⟨A, c, rfl, HL.out.1, Below.refl _ _⟩
    · have g2 : decide ((N : Int) > (q : Int)) = false := by simp; omega
      obtain ⟨X, hX⟩ : ∃ X, X = q - N := ⟨_, rfl⟩
      have z1 : IntKind.i64.wrap ((q : Int) - (N : Int)) = (X : Int) := by rw [IntWalk.i64_in _ (by omega)]; omega
      have z2 : wrap64 ((q : Int) - (N : Int)) = (X : Int) := by unfold wrap64; omega
      obtain ⟨P, m, d, hm, sl, hf⟩ := hl.from X (by omega)
      have e : lastV L (N : Int) = L.drop X := by unfold lastV; rw [hX, hq, Int.toNat_natCast]
      have hml : (L.drop X).length = m := hf.1.len.1.symm
      rw [e, hml]
      have HF := Lib.hid hf.1
      have kd : Below w.heap.size w w.drew := below_drew (Below.refl _ _) 1
      have q1' := fun (V : World) (hV : Below w.heap.size w V) => (hV.cell (p := ⟨g, 1, none⟩) (blk_lt hg)).trans q1
      clear hg hl hq hm hf e hml hX
      go_enter Try.func19, Try.ntmps19
      go_upto_region 5 with fail
      go_region_held3 (fun V => Below w.heap.size w V) (assumption) (first | fail)
      go_wp2
      go_ret
      exact ⟨P, d, rfl, HF.out.below kd, kd⟩
end Go.Proofs.Ytpanhkhiomgclaa.Ba
