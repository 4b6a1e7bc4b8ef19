/- Layer 2: two logs of one lattice; what is put into one and into the other (AuditApart), plain. -/
import Derived.Test.YtjfonbkeamhnmaaAudJ
namespace Go.Proofs.Ytjfonbkeamhnmaa
open Go.RowKit Lat

/-- Two logs of the call's own over one lattice, apart from one another. -/
structure Two (w0 w : World) (B gb hb lb n : Nat) (T : Nat → Nat → Bool) (lg lh : List Ent) : Prop where
  logs : ∃ vg vh, IsLog w gb lb n T vg lg ∧ IsLog w hb lb n T vh lh ∧ (∀ k, vg.ownBlock = some k → B ≤ k) ∧ (∀ k, vh.ownBlock = some k → B ≤ k) ∧ ∀ k, vg.ownBlock = some k → vh.ownBlock ≠ some k
  ne : gb ≠ hb
  g_ : B ≤ gb
  h_ : B ≤ hb
  old : Below B w0 w
  sz : B ≤ w.heap.size

variable {w0 w w' : World} {B gb hb lb n : Nat} {T : Nat → Nat → Bool} {lg lh l : List Ent}

theorem Two.swap (h : Two w0 w B gb hb lb n T lg lh) : Two w0 w B hb gb lb n T lh lg := by
  obtain ⟨vg, vh, h1, h2, h3, h4, h5⟩ := h.logs
  exact ⟨⟨vh, vg, h2, h1, h4, h3, fun k hk hk' => h5 k hk' hk⟩, fun e => h.ne e.symm, h.h_, h.g_, h.old, h.sz⟩
theorem Two.fst (h : Two w0 w B gb hb lb n T lg lh) : Mine w0 w B gb lb n T lg := by
  obtain ⟨vg, vh, h1, h2, h3, h4, h5⟩ := h.logs
  exact ⟨⟨vg, h1, h3⟩, h.g_, h.old, h.sz⟩
theorem Two.snd (h : Two w0 w B gb hb lb n T lg lh) : Mine w0 w B hb lb n T lh := h.swap.fst
theorem Two.lat (h : Two w0 w B gb hb lb n T lg lh) : IsLat w lb n T := by
  obtain ⟨vg, vh, h1, _⟩ := h.logs
  exact h1.lat
theorem Two.below (h : Two w0 w B gb hb lb n T lg lh) (hb' : Below w.heap.size w w') : Two w0 w' B gb hb lb n T lg lh := by
  obtain ⟨vg, vh, h1, h2, h3⟩ := h.logs
  exact ⟨⟨vg, vh, h1.below hb' (Nat.le_refl _), h2.below hb' (Nat.le_refl _), h3⟩, h.ne, h.g_, h.h_, h.old.trans (hb'.mono h.sz), Nat.le_trans h.sz hb'.size⟩
theorem Two.alloc (h : Two w0 w B gb hb lb n T lg lh) (o : Obj) : Two w0 (w.alloc o) B gb hb lb n T lg lh := h.below ((Below.refl _ w).alloc (Nat.le_refl _) o)

theorem ents_ne {base : Nat} {v : Value} {l : List Ent} (h : Ents w base v l) {b : Nat} {c : Array Value} (hb : w.heap[b]? = some (.cells c 54 (0, 0))) : v.ownBlock ≠ some b := by
  intro e
  rcases h.2 with ⟨rfl, _⟩ | ⟨g, cap, cur, rfl, _, hh, _⟩
  · simp [Value.ownBlock] at e
  · have : g = b := by simpa [Value.ownBlock] using e
    subst this
    rw [hh] at hb
    injection hb with hb
    injection hb with _ ht
    exact absurd ht (by decide)

def TwoPut (w0 : World) (B gb hb lb n : Nat) (T : Nat → Nat → Bool) (lg lh : List Ent) (x : Ent) (e : Ending) (w' : World) : Prop :=
  e = .returned (.int .i64 (putErr n T lg x)) ∧ Two w0 w' B gb hb lb n T (putL n T lg x) lh

/-- What was below B, and all that the two logs do not hold, is as it was. -/
theorem two_put (x : Ent) (h : Two w0 w B gb hb lb n T lg lh) (hs : x.s.size ≤ 9223372036854775807) (hlen : lg.length ≤ 100000) :
    Calls Try.prog 9 #[.pointer (some ⟨gb, 0, none⟩), x.val] w (TwoPut w0 B gb hb lb n T lg lh x) := by
  obtain ⟨vg, vh, h1, h2, h3, h4, h5⟩ := h.logs
  refine (put_any gb lb n T vg lg x w h1 hs hlen).mono ?_
  rintro e w' ⟨v', he, hl', hm⟩
  obtain ⟨hB, hv'⟩ := hm.below h.g_ h3 h.sz
  have hhb := lt_of h2.blk
  have hgb := lt_of h1.blk
  refine ⟨he, ⟨v', vh, hl', ⟨?_, hl'.lat, ?_⟩, hv', h4, ?_⟩, h.ne, h.g_, h.h_, h.old.trans hB, Nat.le_trans h.sz hm.size⟩
  · exact (hm.block hb hhb (fun e => h.ne e.symm) (ents_ne h1.own h2.blk)).trans h2.blk
  · exact ents_block h2.own fun k hk => hm.block k (ents_lt h2.own hk) (fun e => ents_ne h2.own h1.blk (by rw [hk, e])) (fun e => h5 k e hk)
  · intro k hk hk'
    have hlt := ents_lt h2.own hk'
    rcases hm.own with e | ⟨g', e, hg'⟩
    · exact h5 k (by rw [← e]; exact hk) hk'
    · rw [e] at hk
      injection hk with hk
      omega

def TwoNew (w0 : World) (B gb lb n : Nat) (T : Nat → Nat → Bool) (lg : List Ent) (e : Ending) (w' : World) : Prop := ∃ hb, e = .returned (.tuple #[.pointer (some ⟨hb, 0, none⟩), .int .i64 0]) ∧ Two w0 w' B gb hb lb n T lg []

theorem two_new (h : Mine w0 w B gb lb n T lg) (hlat : IsLat w lb n T) : Calls Try.prog 7 #[.pointer (some ⟨lb, 0, none⟩)] w (TwoNew w0 B gb lb n T lg) := by
  refine (logNew_any lb n T w hlat).mono ?_
  rintro e w' ⟨hb, rfl, hhb, hl, hB⟩
  have hM := h.below hB
  obtain ⟨v, h1, h2⟩ := h.log
  have hlt := lt_of h1.blk
  exact ⟨hb, rfl, ⟨v, _, h1.below hB (Nat.le_refl _), hl, h2, fun k hk => by simp [Value.ownBlock] at hk, fun k _ hk => by simp [Value.ownBlock] at hk⟩, by omega, h.at_, Nat.le_trans h.sz hhb, hM.old, hM.sz⟩

/-- What the first log has behind the first k entries; what the second one has, into which only those were put whose issuer is below the label. -/
def gL (n : Nat) (T : Nat → Nat → Bool) (X : Nat → Ent) : Nat → List Ent
  | 0 => []
  | k + 1 => putL n T (gL n T X k) (X k)
def hL (n : Nat) (T : Nat → Nat → Bool) (X : Nat → Ent) (x : Int) : Nat → List Ent
  | 0 => []
  | k + 1 => if belowV n T (X k).b x then putL n T (hL n T X x k) (X k) else hL n T X x k

theorem cnt_seen (n : Nat) (T : Nat → Nat → Bool) (l : List Ent) (x b : Int) (h : belowV n T b x = true) : cnt b (seenL n T l x) = cnt b l := by
  unfold cnt seenL
  rw [List.filter_filter]
  congr 1
  apply List.filter_congr
  intro y _
  by_cases e : y.b = b
  · simp [e, h]
  · simp [e]

theorem putErr_seen (n : Nat) (T : Nat → Nat → Bool) (l : List Ent) (x : Int) (y : Ent) (h : belowV n T y.b x = true) : putErr n T (seenL n T l x) y = putErr n T l y := by
  have hr : roomV n (seenL n T l x) y.b = roomV n l y.b := by unfold roomV; rw [cnt_seen n T l x y.b h]
  unfold putErr
  rw [hr]

theorem hL_eq (n : Nat) (T : Nat → Nat → Bool) (X : Nat → Ent) (x : Int) (k : Nat) : hL n T X x k = seenL n T (gL n T X k) x := by
  induction k with
  | zero => rfl
  | succ k ih =>
    simp only [hL, gL]
    cases hb : belowV n T (X k).b x
    · simp only [Bool.false_eq_true, if_false]
      rw [ih, putL]
      split
      · rw [seen_snoc, hb]; simp
      · rfl
    · simp only [if_true]
      rw [ih, putL, putL, putErr_seen n T _ x _ hb]
      split
      · rw [seen_snoc, hb]; simp
      · rfl

theorem putErr_same (n : Nat) (T : Nat → Nat → Bool) (X : Nat → Ent) (x : Int) (k : Nat) (h : belowV n T (X k).b x = true) : putErr n T (hL n T X x k) (X k) = putErr n T (gL n T X k) (X k) := by rw [hL_eq, putErr_seen n T _ x _ h]

theorem putL_len (n : Nat) (T : Nat → Nat → Bool) (l : List Ent) (y : Ent) : (putL n T l y).length = if putErr n T l y = 0 then l.length + 1 else l.length := by
  unfold putL
  split <;> simp

theorem gL_len (n : Nat) (T : Nat → Nat → Bool) (X : Nat → Ent) (k : Nat) : (gL n T X k).length ≤ k := by
  induction k with
  | zero => exact Nat.le_refl _
  | succ k ih => simp only [gL]; rw [putL_len]; split <;> omega
theorem hL_len (n : Nat) (T : Nat → Nat → Bool) (X : Nat → Ent) (x : Int) (k : Nat) : (hL n T X x k).length ≤ k := by
  rw [hL_eq]
  exact Nat.le_trans (seen_len _ _ _ _) (gL_len n T X k)

theorem gL_may (n : Nat) (T : Nat → Nat → Bool) (X : Nat → Ent) (k : Nat) : ∀ y ∈ gL n T X k, belowV n T y.f y.t = false := by
  induction k with
  | zero => intro y hy; simp [gL] at hy
  | succ k ih =>
    intro y hy
    simp only [gL, putL] at hy
    split at hy
    · rename_i h0
      rw [List.mem_append] at hy
      rcases hy with hy | hy
      · exact ih y hy
      · simp at hy
        subst hy
        unfold putErr at h0
        split at h0
        · omega
        · split at h0
          · omega
          · rename_i hm
            have hm : mayB n T (X k) = true := by simpa using hm
            simp only [mayB, Bool.and_eq_true, Bool.not_eq_true'] at hm
            exact hm.2
    · exact ih y hy

theorem hL_may (n : Nat) (T : Nat → Nat → Bool) (X : Nat → Ent) (x : Int) (k : Nat) : ∀ y ∈ hL n T X x k, belowV n T y.b x = true ∧ belowV n T y.f y.t = false := by
  intro y hy
  rw [hL_eq, seenL, List.mem_filter] at hy
  exact ⟨hy.2, gL_may n T X k y hy.1⟩

theorem seen_hL (n : Nat) (T : Nat → Nat → Bool) (X : Nat → Ent) (x : Int) (k : Nat) : seenL n T (hL n T X x k) x = hL n T X x k := by
  rw [hL_eq]
  unfold seenL
  rw [List.filter_filter]
  simp

/-- The first entry, or the empty one. -/
def hd (l : List Ent) : Ent := match l with | [] => ⟨0, 0, 0, ⟨#[]⟩⟩ | y :: _ => y
theorem hd_put (n : Nat) (T : Nat → Nat → Bool) (l : List Ent) (y : Ent) (h : 0 < l.length) : hd (putL n T l y) = hd l := by
  unfold putL
  split
  · cases l with
    | nil => simp at h
    | cons a l => rfl
  · rfl

/-- At(0), whatever there is. -/
theorem mine_at0 (h : Mine w0 w B gb lb n T l) : Calls Try.prog 20 #[.pointer (some ⟨gb, 0, none⟩), .int .i64 0] w fun e w' => e = .returned (.tuple #[(hd l).val, .bool (decide (0 < l.length))]) ∧ Below w.heap.size w w' := by
  cases l with
  | nil => exact mine_off 0 (Or.inr (by simp)) h
  | cons a l => exact mine_at 0 (by simp) h
end Go.Proofs.Ytjfonbkeamhnmaa
