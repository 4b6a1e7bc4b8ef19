/- Layer 2: same; a log beside the document's (AuditPlays). -/
import Derived.Test.YtjfonbkeamhnmaaRefB
import Derived.Test.YtjfonbkeamhnmaaAudH
namespace Go.Proofs.Ytjfonbkeamhnmaa
open Go.RowKit Lat

set_option maxHeartbeats 1000000 in
theorem same_any {w : World} {ba bb c1 c2 : Nat} {A1 A2 : Option Addr} {l : List Ent} (h1 : Ents w ba (.slice A1 l.length c1) l) (h2 : REnts w bb (.slice A2 l.length c2) l) :
    Calls Try.prog 21 #[.slice A1 l.length c1, .slice A2 l.length c2] w fun e w' => e = .returned (.bool true) ∧ ∃ q, w' = w.drewN q := by
  obtain ⟨A, c, eA, hm, hr1⟩ := ents_shape h1
  injection eA with e1 e2 e3
  subst e1 e3
  clear e2
  obtain ⟨A, c, eA, _, hr2⟩ := rents_shape h2
  injection eA with e1 e2 e3
  subst e1 e3
  clear e2
  have HR1 := Lib.hid hr1
  have HR2 := Lib.hid hr2
  clear hr1 hr2 h1 h2
  go_enter Try.func21, Try.ntmps21
  go_wp2
  go_loopw [5] (fun i wr => ∃ k : Nat, k ≤ l.length ∧ i = .int .i64 k ∧ ∃ q, wr = w.drewN q) (fun i _ => l.length - (intOf i).toNat)
  case atStart => exact ⟨0, Nat.zero_le _, rfl, 0, rfl⟩
  case round =>
    obtain ⟨k, hk, rfl, q, rfl⟩ := hrel
    by_cases hlt : k < l.length
    · obtain ⟨g1, rfl, _, ha⟩ := HR1.out k hlt
      obtain ⟨g2, rfl, _, hb⟩ := HR2.out k hlt
      generalize l[k] = y at ha hb
      obtain ⟨yb, yf, yt, ys⟩ := y
      have k0 := ha 0 _ rfl
      have k1 := ha 1 _ rfl
      have k2 := ha 2 _ rfl
      have k3 := ha 3 _ rfl
      have j0 := hb 0 _ rfl
      have j1 := hb 1 _ rfl
      have j2 := hb 2 _ rfl
      have j3 := hb 3 _ rfl
      simp only [Nat.add_zero] at k0 j0
      clear ha hb
      go_wp2
      go_quiet (fail)
      go_wp2
      go_roundw
      case rel => exact ⟨k + 1, by omega, by go_num, _, rfl⟩
      case measure => simp [intOf]; omega
    · go_wp2
      go_ret
      exact ⟨rfl, q, rfl⟩

/-- A log of the call's own beside the document's, over a table that came in below B. -/
structure Duo (w0 w : World) (B gb rb lb : Nat) (A : Option Addr) (n cap : Nat) (T : Nat → Nat → Bool) (lg lr : List Ent) : Prop where
  logs : ∃ vg vr, IsLog w gb lb n T vg lg ∧ IsRef w B rb A n cap T vr lr ∧ (∀ k, vg.ownBlock = some k → B ≤ k) ∧ (∀ k, vr.ownBlock = some k → B ≤ k)
  g_ : B ≤ gb
  r_ : B ≤ rb
  old : Below B w0 w
  sz : B ≤ w.heap.size

section
variable {w0 w w' : World} {B gb rb lb n cap : Nat} {A : Option Addr} {T : Nat → Nat → Bool} {lg lr : List Ent}

theorem Duo.mine (h : Duo w0 w B gb rb lb A n cap T lg lr) : Mine w0 w B gb lb n T lg := by
  obtain ⟨vg, vr, h1, h2, h3, h4⟩ := h.logs
  exact ⟨⟨vg, h1, h3⟩, h.g_, h.old, h.sz⟩
theorem Duo.ref (h : Duo w0 w B gb rb lb A n cap T lg lr) : ∃ vr, IsRef w B rb A n cap T vr lr ∧ ∀ k, vr.ownBlock = some k → B ≤ k := by
  obtain ⟨vg, vr, h1, h2, h3, h4⟩ := h.logs
  exact ⟨vr, h2, h4⟩
theorem Duo.below (h : Duo w0 w B gb rb lb A n cap T lg lr) (hb : Below w.heap.size w w') : Duo w0 w' B gb rb lb A n cap T lg lr := by
  obtain ⟨vg, vr, h1, h2, h3⟩ := h.logs
  exact ⟨⟨vg, vr, h1.below hb (Nat.le_refl _), h2.below hb (Nat.le_refl _) h.sz, h3⟩, h.g_, h.r_, h.old.trans (hb.mono h.sz), Nat.le_trans h.sz hb.size⟩
theorem Duo.alloc (h : Duo w0 w B gb rb lb A n cap T lg lr) (o : Obj) : Duo w0 (w.alloc o) B gb rb lb A n cap T lg lr := h.below ((Below.refl _ w).alloc (Nat.le_refl _) o)
theorem Duo.drewN (h : Duo w0 w B gb rb lb A n cap T lg lr) (q : Nat) : Duo w0 (w.drewN q) B gb rb lb A n cap T lg lr := h.below (below_drew (Below.refl _ w) q)

/-- Blocks of unlike types are not one. -/
theorem typ_ne {k k' : Nat} {c c' : Array Value} {t t' : TypeId} (h : w.heap[k]? = some (.cells c t (0, 0))) (h' : w.heap[k']? = some (.cells c' t' (0, 0))) (hne : t ≠ t') : k ≠ k' := by
  rintro rfl
  rw [h] at h'
  injection h' with h'
  injection h' with _ ht
  exact hne ht
theorem own_typ {base : Nat} {e : TypeId} {size m : Nat} {v : Value} {xs : List Value} (h : w.ownsRow base e size v m xs) {k : Nat} (hk : v.ownBlock = some k) : ∃ c, w.heap[k]? = some (.cells c e (0, 0)) := by
  rcases h.2 with ⟨rfl, _⟩ | ⟨g, cap', cur, rfl, _, hh, _⟩
  · simp [Value.ownBlock] at hk
  · have : g = k := by simpa [Value.ownBlock] using hk
    subst this
    exact ⟨cur, hh⟩

theorem duo_put (x : Ent) (h : Duo w0 w B gb rb lb A n cap T lg lr) (hs : x.s.size ≤ 9223372036854775807) (hlen : lg.length ≤ 100000) :
    Calls Try.prog 9 #[.pointer (some ⟨gb, 0, none⟩), x.val] w fun e w' => e = .returned (.int .i64 (putErr n T lg x)) ∧ Duo w0 w' B gb rb lb A n cap T (putL n T lg x) lr := by
  obtain ⟨vg, vr, h1, h2, h3, h4⟩ := h.logs
  refine (put_any gb lb n T vg lg x w h1 hs hlen).mono ?_
  rintro e w' ⟨v', he, hl', hm⟩
  obtain ⟨hB, hv'⟩ := hm.below h.g_ h3 h.sz
  have hkeep : ∀ (k : Nat) (c : Array Value) (t : TypeId), w.heap[k]? = some (.cells c t (0, 0)) → t ≠ 54 → t ≠ 30 → w'.heap[k]? = w.heap[k]? := fun k c t hc ht1 ht2 =>
    hm.block k (lt_of hc) (typ_ne hc h1.blk ht1) (fun e => by
      obtain ⟨c', hc'⟩ := own_typ h1.own e
      exact typ_ne hc hc' ht2 rfl)
  refine ⟨he, ⟨v', vr, hl', ⟨?_, h2.sq.below hB, ?_⟩, hv', h4⟩, h.g_, h.r_, h.old.trans hB, Nat.le_trans h.sz hm.size⟩
  · exact (hkeep rb _ _ h2.blk (by decide) (by decide)).trans h2.blk
  · refine rents_block h2.own fun k hk => ?_
    obtain ⟨c, hc⟩ := own_typ h2.own hk
    exact hkeep k c _ hc (by decide) (by decide)

theorem lat_kept' (h : IsLat w lb n T) (hk : ∀ (k : Nat) (c : Array Value) (t : TypeId), w.heap[k]? = some (.cells c t (0, 0)) → t ≠ 44 → t ≠ 46 → w'.heap[k]? = w.heap[k]?) : IsLat w' lb n T := by
  obtain ⟨ub, db, d, js, ms, h⟩ := h
  refine ⟨ub, db, d, js, ms, (hk lb _ _ h.blk (by decide) (by decide)).trans h.blk, ?_, ?_, h.le, h.pos, ?_⟩
  · obtain ⟨U, hr, hu⟩ := h.up
    exact ⟨U, row_keep hr fun c hc => hk ub c _ hc (by decide) (by decide), hu⟩
  · obtain ⟨U, hr, hu⟩ := h.dn
    exact ⟨U, row_keep hr fun c hc => hk db c _ hc (by decide) (by decide), hu⟩
  · have ht : ∀ v J, Table w v n J → Table w' v n J := by
      rintro v J ⟨jb, R, hv, hr, hR⟩
      exact ⟨jb, R, hv, row_keep hr fun c hc => hk jb c _ hc (by decide) (by decide), fun i hi => row_keep (hR i hi) fun c hc => hk (R i) c _ hc (by decide) (by decide)⟩
    exact h.made.imp id fun ⟨a, b, c⟩ => ⟨a, ht _ _ b, ht _ _ c⟩

theorem duo_rput (x : Ent) (h : Duo w0 w B gb rb lb A n cap T lg lr) (hs : x.s.size ≤ 9223372036854775807) (hlen : lr.length ≤ 100000) :
    Calls Try.prog 17 #[.pointer (some ⟨rb, 0, none⟩), x.val] w fun e w' => e = .returned (.int .i64 (putErr n T lr x)) ∧ Duo w0 w' B gb rb lb A n cap T lg (putL n T lr x) := by
  obtain ⟨vg, vr, h1, h2, h3, h4⟩ := h.logs
  refine (rput_any x h2 h.sz h.r_ h4 hs hlen).mono ?_
  rintro e w' ⟨v', he, hl', hm⟩
  obtain ⟨hB, hv'⟩ := hm.below h.r_ h4 h.sz
  have hkeep : ∀ (k : Nat) (c : Array Value) (t : TypeId), w.heap[k]? = some (.cells c t (0, 0)) → t ≠ 44 → t ≠ 46 → w'.heap[k]? = w.heap[k]? := fun k c t hc ht1 ht2 =>
    hm.block k (lt_of hc) (typ_ne hc h2.blk ht1) (fun e => by
      obtain ⟨c', hc'⟩ := own_typ h2.own e
      exact typ_ne hc hc' ht2 rfl)
  refine ⟨he, ⟨vg, v', ⟨?_, lat_kept' h1.lat hkeep, ?_⟩, hl', h3, hv'⟩, h.g_, h.r_, h.old.trans hB, Nat.le_trans h.sz hm.size⟩
  · exact (hkeep gb _ _ h1.blk (by decide) (by decide)).trans h1.blk
  · refine ents_block h1.own fun k hk => ?_
    obtain ⟨c, hc⟩ := own_typ h1.own hk
    exact hkeep k c _ hc (by decide) (by decide)

theorem duo_rroom (b : Int) (h : Duo w0 w B gb rb lb A n cap T lg lr) : Calls Try.prog 19 #[.pointer (some ⟨rb, 0, none⟩), .int .i64 b] w fun e w' => e = .returned (.int .i64 (roomV n lr b)) ∧ w = w' := by
  obtain ⟨vr, h2, h4⟩ := h.ref
  exact rroom_any b h2

/-- The document's list, as its field holds it. -/
theorem Duo.field (h : Duo w0 w B gb rb lb A n cap T lg lr) : ∃ A' c', w.cell? ⟨rb, 1, none⟩ = some (.slice A' lr.length c') ∧ REnts w 0 (.slice A' lr.length c') lr := by
  obtain ⟨vr, h2, h4⟩ := h.ref
  obtain ⟨A', c', rfl, _⟩ := rents_shape h2.own
  exact ⟨A', c', h2.cells.2, h2.own⟩
end
end Go.Proofs.Ytjfonbkeamhnmaa
