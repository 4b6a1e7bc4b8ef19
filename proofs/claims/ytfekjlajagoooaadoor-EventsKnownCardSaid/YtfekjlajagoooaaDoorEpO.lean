/- Layer 8: take: all events that a parser has. -/
import Derived.Test.YtfekjlajagoooaaDoorEpN
namespace Go.Proofs.YtfekjlajagoooaaDoor
open Go.RowKit Ev

theorem own_mono {w : World} {base base' : Nat} {e : TypeId} {s n : Nat} {v : Value} {l : List Value} (h : w.ownsRow base e s v n l) (hb : base' ≤ base) : w.ownsRow base' e s v n l := by
  refine ⟨h.1, ?_⟩
  rcases h.2 with h0 | ⟨g, cap, cur, e1, h1, h2⟩
  · exact Or.inl h0
  · exact Or.inr ⟨g, cap, cur, e1, Nat.le_trans hb h1, h2⟩
theorem Told.mono {w : World} {base base' : Nat} {T : TypeId} {v : Value} {L : List EV} (h : Told w base T v L) (hb : base' ≤ base) : Told w base' T v L := by
  obtain ⟨ls, h1, h2⟩ := h
  exact ⟨ls, h1, own_mono h2 hb⟩
/-- What a parser's doing leaves of what was taken. -/
theorem Told.stirs {w w' : World} {base a o n : Nat} {v : Value} {L : List EV} {C : Array Value} (h : Told w base 31 v L) (hs : Stirs a o n w w') (ha : w.heap[a]? = some (.cells C 66 (0, 0))) : Told w' base 31 v L := by
  refine h.keep (KeepI.of_stirs hs ha).num fun g hg => ?_
  obtain ⟨_, hl, cur, hc⟩ := h.ge g hg
  refine hs.block g hl fun e => ?_
  rw [e, ha] at hc
  cases hc
def lenOf : Value → Nat
  | .slice _ n _ => n
  | _ => 0
theorem info_pev : (Tryd.prog.info? 31).map (fun i => (i.zero, i.size, i.bytes)) = some (some zeroEv, 6, 72) := by kernel_rfl

/-- Where the loop of take stands. -/
inductive TakeAt (w : World) (a eb base : Nat) (q : Q) (L : List EV) : Value → Value → World → Prop
  | more (A : Option Addr) (n c : Nat) (M R : List EV) (x : EV) (A1 : Option Addr) (c1 : Nat) (wr : World) (hL : L = M ++ x :: R) (hn : n = M.length) (ht : Told wr base 31 (.slice A n c) M) (he : wr.heap[eb]? = some (evO x A1 c1)) (hp : P7.TabT wr A1 x.params) (hI : IsP wr a q R) (hs : Stirs a 0 1183 w wr) (hz : base ≤ wr.heap.size) : TakeAt w a eb base q L (.slice A n c) (.bool true) wr
  | done (A : Option Addr) (n c : Nat) (wr : World) (hn : n = L.length) (ht : Told wr base 31 (.slice A n c) L) (hI : IsP wr a q []) (hs : Stirs a 0 1183 w wr) : TakeAt w a eb base q L (.slice A n c) (.bool false) wr

/-- What take answers. -/
def TookPost (w : World) (a : Nat) (q : Q) (L : List EV) (e : Ending) (w' : World) : Prop := ∃ A c, e = .returned (.slice A L.length c) ∧ Told w' w.heap.size 31 (.slice A L.length c) L ∧ IsP w' a q [] ∧ Stirs a 0 1183 w w'

/-- The append of take. -/
theorem took_snoc {w w1 : World} {a eb base n : Nat} {q : Q} {M R : List EV} {x : EV} {A1 : Option Addr} {c1 : Nat} {A : Option Addr} {c : Nat} {ls : List (List Value)} {v' : Value} (hnM : n = M.length) (hls : Evs w M ls) (ht : Told w base 31 (.slice A n c) M) (hp : P7.TabT w A1 x.params) (hI : IsP w a q R) (he : w.heap[eb]? = some (evO x A1 c1)) (heb : eb < base) {o : Obj}
    (hown : w1.ownsRow base 31 6 v' (n + 1) (ls.flatten ++ [.int .i64 x.kind, .int .i32 x.rune, .int .u8 x.final, .string (strK x.mids), .slice A1 x.params.length c1, .string (strK x.text)])) (hg : (w.alloc o).grownBy w1 (Value.slice A n c).ownBlock) (hz : base ≤ w.heap.size) (w0 : World) (hs : Stirs a 0 1183 w0 w) (hw0 : w0.heap.size ≤ base) (ha0 : a < w0.heap.size) :
    ∃ g c', v' = .slice (some ⟨g, 0, none⟩) (n + 1) c' ∧ Told w1 base 31 (.slice (some ⟨g, 0, none⟩) (n + 1) c') (M ++ [x]) ∧ IsP w1 a q R ∧ w1.heap[eb]? = some (evO x A1 c1) ∧ Stirs a 0 1183 w0 w1 ∧ base ≤ w1.heap.size := by
  subst hnM
  obtain ⟨g, c', rfl, _, _⟩ := hown.form (by omega)
  have ha : Below w.heap.size w (w.alloc o) := (Below.refl _ _).alloc (Nat.le_refl _) _
  have ht' := ht.below ha
  have hk1 := keep_grown ht' ⟨by decide, by decide⟩ hg
  have hk := (P7.KeepT.of_below ha).trans hk1
  have hge := fun k hk => (ht'.ge k hk).1
  have hsz : w.heap.size ≤ w1.heap.size := by have := hg.size; simp at this; omega
  have hblk : ∀ k, k < w.heap.size → (∀ t cur, w.heap[k]? = some (.cells cur t (0, 0)) → t ≠ 31) → w1.heap[k]? = w.heap[k]? := fun k hkl hk => by
    refine (hg.block k (by simp; omega) (fun e => ?_)).trans (heap_alloc_old w o hkl)
    obtain ⟨_, _, cur, hc⟩ := ht.ge k e.symm
    exact hk _ _ hc rfl
  obtain ⟨C, hC, hCs⟩ := hI.blk
  have hab : w1.heap[a]? = w.heap[a]? := hblk a hI.lt (fun t cur h => by rw [hC] at h; cases h; decide)
  have hbel : Below base w w1 := ⟨hg.os, hg.tape, hg.output, hsz, fun k hkb => by
    refine (hg.block k (by simp; omega) (fun e => ?_)).trans (heap_alloc_old w o (by omega))
    have := hge k e.symm
    omega⟩
  have hki : KeepI w w1 := ⟨hk, fun k cur h => hblk k (Array.getElem?_eq_some_iff.1 h).1 (fun t cur' h' => by rw [h] at h'; cases h'; decide)⟩
  have hc : ∀ i', w1.cell? ⟨a, i', none⟩ = w.cell? ⟨a, i', none⟩ := fun i' => World.cell?_of_block (w := w) hab
  refine ⟨g, c', rfl, ?_, ?_, (hbel.block eb heb).trans he, hs.andthen (hbel.mono hw0) (Nat.le_refl _) ha0, Nat.le_trans hz hsz⟩
  · have hl : (M ++ [x]).length = M.length + 1 := by simp
    exact Told.snoc (hls.keep hk) ⟨A1, c1, rfl, hp.keep hk⟩ hown
  · refine ⟨?_, ⟨hI.dec.blk.of_block hab, hI.dec.ok, hI.dec.ne⟩, (hc _).trans hI.st, ⟨Part.of_block hI.par.blk hab, hI.par.ok⟩, fun i hi => ?_, (hc _).trans hI.col, (hc _).trans hI.fin, fun i hi => ?_, (hc _).trans hI.siz, ?_, hI.stb⟩
    · rw [hab]; exact hI.blk
    · rw [hc]; exact hI.mid i hi
    · rw [hc]; exact hI.txt i hi
    · obtain ⟨F, B, h1, h2, h3⟩ := hI.told
      exact ⟨F, B, (hc _).trans h1, (hc _).trans h2, h3.keep hki⟩

/-- Behind the Next of take's round, and the stores of what it answered. -/
theorem took_next {w w2 w3 : World} {a eb n c : Nat} {q : Q} {M R : List EV} {A A1 : Option Addr} {c1 : Nat} {x : EV} (ht : Told w2 (eb + 1) 31 (.slice A n c) M) (hP : ∃ C, w2.heap[a]? = some (.cells C 66 (0, 0))) (hs3 : Stirs a 0 1183 w2 w3) (hI : IsP w3 a q R) (he : w2.heap[eb]? = some (evO x A1 c1)) (hs2 : Stirs a 0 1183 w w2) (hw : w.heap.size ≤ eb) (hla : a < w.heap.size) (hz : eb + 1 ≤ w2.heap.size) :
    w3.heap[eb]? = some (evO x A1 c1) ∧ ∀ v0 v1 v2 v3 v4 v5, Hid (Told (resS w3 eb v0 v1 v2 v3 v4 v5) (eb + 1) 31 (.slice A n c) M ∧ IsP (resS w3 eb v0 v1 v2 v3 v4 v5) a q R ∧ Stirs a 0 1183 w (resS w3 eb v0 v1 v2 v3 v4 v5) ∧ (resS w3 eb v0 v1 v2 v3 v4 v5).heap[eb]? = some (.cells #[v0, v1, v2, v3, v4, v5] 31 (0, 0)) ∧ (∀ A l, P7.TabT w3 A l → P7.TabT (resS w3 eb v0 v1 v2 v3 v4 v5) A l) ∧ eb + 1 ≤ (resS w3 eb v0 v1 v2 v3 v4 v5).heap.size) := by
  obtain ⟨C, hC⟩ := hP
  have hne : eb ≠ a := fun e => by
    rw [e, hC] at he
    cases he
  have h3 : w3.heap[eb]? = some (evO x A1 c1) := (hs3.block eb (by omega) hne).trans he
  have ht3 := ht.stirs hs3 hC
  refine ⟨h3, fun v0 v1 v2 v3 v4 v5 => Lib.hid ?_⟩
  obtain ⟨⟨k1, k2⟩, k3, k4⟩ := res_all hI (hs2.trans hs3) hla hw h3 v0 v1 v2 v3 v4 v5
  have hk : ∀ k, k ≠ eb → (resS w3 eb v0 v1 v2 v3 v4 v5).heap[k]? = w3.heap[k]? := fun k hk => by
    unfold resS
    rw [Below.heap_setCell _ _ _ _ hk, Below.heap_setCell _ _ _ _ hk, Below.heap_setCell _ _ _ _ hk, Below.heap_setCell _ _ _ _ hk, Below.heap_setCell _ _ _ _ hk, Below.heap_setCell _ _ _ _ hk]
  refine ⟨ht3.keep ⟨by simp [resS], fun k cur t hk' ht' => hk k fun e => ?_⟩ fun g hg => hk g fun e => ?_, k1, k2, k4, k3, by have := hs3.size; simp [resS]; omega⟩
  · rw [e, h3] at hk'
    cases hk'
    rcases ht' with e | e <;> exact absurd e (by decide)
  · have := (ht3.ge g hg).1
    omega
end Go.Proofs.YtfekjlajagoooaaDoor
