/- Layer 2: mayBe. -/
import Derived.Test.YtjfonbkeamhnmaaAudB
namespace Go.Proofs.Ytjfonbkeamhnmaa
open Go.RowKit Lat

/-- Does the issuer stand above both ends, and is the flow one that the order does not let through? -/
def mayB (n : Nat) (T : Nat → Nat → Bool) (x : Ent) : Bool := belowV n T x.f x.b && belowV n T x.t x.b && !belowV n T x.f x.t

theorem IsLog.alloc {w : World} {gb lb n : Nat} {T : Nat → Nat → Bool} {v : Value} {l : List Ent} (h : IsLog w gb lb n T v l) (o : Obj) : IsLog (w.alloc o) gb lb n T v l :=
  ⟨(Below.heap_alloc w o gb (lt_of h.blk)).trans h.blk, h.lat.below ((Below.refl _ w).alloc (Nat.le_refl _) o) (Nat.le_refl _), World.ownsRow.alloc h.own o⟩
theorem ents_block {w w' : World} {base : Nat} {v : Value} {l : List Ent} (h : Ents w base v l) (hk : ∀ g, v.ownBlock = some g → w'.heap[g]? = w.heap[g]?) : Ents w' base v l := by
  refine ⟨h.1, ?_⟩
  rcases h.2 with h2 | ⟨g, cap, cur, rfl, h3, h4, h5⟩
  · exact Or.inl h2
  · exact Or.inr ⟨g, cap, cur, rfl, h3, (hk g rfl).trans h4, h5⟩
theorem ents_lt {w : World} {base : Nat} {v : Value} {l : List Ent} (h : Ents w base v l) {g : Nat} (hg : v.ownBlock = some g) : g < w.heap.size := (World.ownsRow.lt h g hg).2
theorem IsLog.below {w w' : World} {gb lb n : Nat} {T : Nat → Nat → Bool} {v : Value} {l : List Ent} (h : IsLog w gb lb n T v l) {B : Nat} (hb : Below B w w') (hB : w.heap.size ≤ B) : IsLog w' gb lb n T v l :=
  ⟨(hb.block gb (Nat.lt_of_lt_of_le (lt_of h.blk) hB)).trans h.blk, h.lat.below hb hB, ents_block h.own fun g hg => hb.block g (Nat.lt_of_lt_of_le (ents_lt h.own hg) hB)⟩
theorem IsLog.drewN {w : World} {gb lb n : Nat} {T : Nat → Nat → Bool} {v : Value} {l : List Ent} (h : IsLog w gb lb n T v l) (k : Nat) : IsLog (w.drewN k) gb lb n T v l :=
  ⟨h.blk, h.lat.drewN k, h.own⟩

set_option maxHeartbeats 1000000 in
theorem mayBe_any (gb lb n : Nat) (T : Nat → Nat → Bool) (v : Value) (l : List Ent) (x : Ent) (w : World) (h : IsLog w gb lb n T v l) :
    Calls Try.prog 28 #[.pointer (some ⟨gb, 0, none⟩), x.val] w fun e w' => e = .returned (.bool (mayB n T x)) ∧ Below w.heap.size w w' := by
  obtain ⟨xb, xf, xt, xs⟩ := x
  have c0 : ∀ o : Obj, (w.alloc o).cell? ⟨gb, 0, none⟩ = some (.pointer (some ⟨lb, 0, none⟩)) := fun o => (h.alloc o).cells.1
  have HL := Lib.hid (fun (o : Obj) k => (h.alloc o).lat.drewN k)
  have hgb := lt_of h.blk
  clear h
  unfold Ent.val
  cases h1 : belowV n T xf xb
  · have HC1 := Lib.hid (show ∀ W : World, IsLat W lb n T → Calls Try.prog 24 #[.pointer (some ⟨lb, 0, none⟩), .int .i64 xf, .int .i64 xb] W fun e w' => e = .returned (.bool false) ∧ W = w' from fun W hW => h1 ▸ below_any lb n T xf xb W hW)
    have E := Lib.hid (show mayB n T ⟨xb, xf, xt, xs⟩ = false by simp [mayB, h1])
    clear h1
    go_enter Try.func28, Try.ntmps28
    go_wp2
    go_quiet ((first | (go_at_call 24; with_reducible exact still_left (HC1.out _ (HL.out _ _)))))
    go_wp2
    go_ret
    exact ⟨ret_bool E.out.symm, below_drew ((Below.refl _ w).alloc (Nat.le_refl _) _) _⟩
  · have HC1 := Lib.hid (show ∀ W : World, IsLat W lb n T → Calls Try.prog 24 #[.pointer (some ⟨lb, 0, none⟩), .int .i64 xf, .int .i64 xb] W fun e w' => e = .returned (.bool true) ∧ W = w' from fun W hW => h1 ▸ below_any lb n T xf xb W hW)
    cases h2 : belowV n T xt xb
    · have HC2 := Lib.hid (show ∀ W : World, IsLat W lb n T → Calls Try.prog 24 #[.pointer (some ⟨lb, 0, none⟩), .int .i64 xt, .int .i64 xb] W fun e w' => e = .returned (.bool false) ∧ W = w' from fun W hW => h2 ▸ below_any lb n T xt xb W hW)
      have E := Lib.hid (show mayB n T ⟨xb, xf, xt, xs⟩ = false by simp [mayB, h2])
      clear h1 h2
      go_enter Try.func28, Try.ntmps28
      go_wp2
      go_quiet ((first | (go_at_call 24; with_reducible exact still_left (HC1.out _ (HL.out _ _))) | (go_at_call 24; with_reducible exact still_left (HC2.out _ (HL.out _ _)))))
      go_wp2
      go_ret
      exact ⟨ret_bool E.out.symm, below_drew ((Below.refl _ w).alloc (Nat.le_refl _) _) _⟩
    · have HC2 := Lib.hid (show ∀ W : World, IsLat W lb n T → Calls Try.prog 24 #[.pointer (some ⟨lb, 0, none⟩), .int .i64 xt, .int .i64 xb] W fun e w' => e = .returned (.bool true) ∧ W = w' from fun W hW => h2 ▸ below_any lb n T xt xb W hW)
      have HC3 := Lib.hid (show ∀ W : World, IsLat W lb n T → Calls Try.prog 24 #[.pointer (some ⟨lb, 0, none⟩), .int .i64 xf, .int .i64 xt] W fun e w' => e = .returned (.bool (belowV n T xf xt)) ∧ W = w' from fun W hW => below_any lb n T xf xt W hW)
      have E := Lib.hid (show mayB n T ⟨xb, xf, xt, xs⟩ = !belowV n T xf xt by simp [mayB, h1, h2])
      clear h1 h2
      go_enter Try.func28, Try.ntmps28
      go_wp2
      go_quiet ((first | (go_at_call 24; with_reducible exact still_left (HC1.out _ (HL.out _ _))) | (go_at_call 24; with_reducible exact still_left (HC2.out _ (HL.out _ _))) | (go_at_call 24; with_reducible exact still_left (HC3.out _ (HL.out _ _)))))
      go_wp2
      go_ret
      exact ⟨ret_bool E.out.symm, below_drew ((Below.refl _ w).alloc (Nat.le_refl _) _) _⟩
end Go.Proofs.Ytjfonbkeamhnmaa
