/- Layer 3: add and Take of a quota with keys of type api.Pane. -/
import Derived.Test.YthjechngpjkgnaaQuoQ
namespace Go.Proofs.Ythjechngpjkgnaa.OfPane
open Go.RowKit Go.Maps Go.ChangeMaps

def AddPost (w : World) (q m : Nat) (most : Int) (T : Value → Int) (n : Nat) (S : Nat → Prop) (key : Value) (x : Int) (e : Ending) (w' : World) : Prop :=
  e = .returned (.tuple #[]) ∧ ∃ T' n' S', QP w' q m most T' n' S' ∧ Turned w w' m S S' ∧ Took T T' n n' key x

theorem Turned.of_below {w w1 w' : World} {m : Nat} {S S' : Nat → Prop} (hb : Below w.heap.size w w1) (h : Turned w1 w' m S S') : Turned w w' m S S' :=
  ⟨h.os.trans hb.os, h.tape.trans hb.tape, h.output.trans hb.output, Nat.le_trans hb.size h.size, fun b h1 h2 h3 => (h.block b (Nat.lt_of_lt_of_le h1 hb.size) h2 h3).trans (hb.block b h1), fun c hc => (h.new c hc).imp id (fun e => Nat.le_trans hb.size e)⟩

theorem qadd_any (q m : Nat) (most : Int) (T : Value → Int) (n : Nat) (S : Nat → Prop) (a b c : Int) (kl : Lit) (x : Int) (w : World) (h : QP w q m most T n S) (hk : keyOf Try.prog 27 (key a b c) = some kl) (hx : 0 < x ∧ x ≤ most - T (key a b c)) :
    Calls Try.prog 23 #[.pointer (some ⟨q, 0, none⟩), .agg #[.int .i64 a, .int .i64 b, .int .i64 c], .int .i64 x] w (AddPost w q m most T n S (key a b c) x) := by
  have hf := h.fits (key a b c)
  have hlim := h.lim
  have hb0 : Below w.heap.size w (w.alloc (box a b c)) := (Below.refl _ _).alloc (Nat.le_refl _) _
  have h1 : QP (w.alloc (box a b c)) q m most T n S := h.below hb0
  have c1 := h1.cells.2
  rcases h1.at_heap keyedP Try.underlying53 hk with ⟨h0, hl⟩ | ⟨d, h0, hS, hc, hl⟩
  · obtain ⟨es, clock, he, hks, hno⟩ := h1.free h0
    have hl' := fun j => hl ((w.alloc (box a b c)).drewN j) rfl
    have hq : q < w.heap.size := h.lt.1
    have hz : (w.alloc (box a b c)).heap.size = w.heap.size + 1 := by simp
    have hst : ∀ j, (Instr.mapUpdate 53 (.map (some m)) (.agg #[.int .i64 a, .int .i64 b, .int .i64 c]) (.pointer (some ⟨w.heap.size + 1, 0, none⟩))).run Try.prog ((((w.alloc (box a b c)).drewN j).alloc (.cells #[.int .i64 0] 75 (0, 0))).drew) = .ok () (setBlock ((((w.alloc (box a b c)).drewN j).alloc (.cells #[.int .i64 0] 75 (0, 0))).drew) m (.map (es.push ⟨key a b c, .pointer (some ⟨w.heap.size + 1, 0, none⟩), clock⟩) (clock + 1))) := fun j =>
      store_raw (P := Try.prog) (w := (((w.alloc (box a b c)).drewN j).alloc (.cells #[.int .i64 0] 75 (0, 0))).drew) keyedP Try.underlying53 (((MapKept.heap_alloc ((w.alloc (box a b c)).drewN j) _).2 _ h1.lt.2).trans he) hks hk hno
    have c1' : ∀ j, (((w.alloc (box a b c)).drewN j).alloc (.cells #[.int .i64 0] 75 (0, 0))).cell? ⟨q, 1, none⟩ = some (.map (some m)) := fun j => by
      rw [World.cell?_alloc_past _ _ _ (show q < ((w.alloc (box a b c)).drewN j).heap.size from h1.lt.1)]; exact c1
    have hcc : ∀ j, (setBlock ((((w.alloc (box a b c)).drewN j).alloc (.cells #[.int .i64 0] 75 (0, 0))).drew) m (.map (es.push ⟨key a b c, .pointer (some ⟨w.heap.size + 1, 0, none⟩), clock⟩) (clock + 1))).heap[w.heap.size + 1]? = some (.cells #[.int .i64 0] 75 (0, 0)) := fun j => by
      have e1 : ((((w.alloc (box a b c)).drewN j).alloc (.cells #[.int .i64 0] 75 (0, 0))).drew).heap[m]? = some (.map es clock) := (((MapKept.heap_alloc ((w.alloc (box a b c)).drewN j) _).2 _ h1.lt.2).trans he)
      rw [heap_setBlock_other e1 _ (by have := h1.lt.2; omega), ← hz]
      exact (MapKept.heap_alloc ((w.alloc (box a b c)).drewN j) _).1
    have HA := fun j => Lib.hid (add_any (w.heap.size + 1) 0 x _ (hcc j) (by omega) (by omega))
    have HF : Hid (∀ j, ∃ T' n' S', QP ((setBlock ((((w.alloc (box a b c)).drewN j).alloc (.cells #[.int .i64 0] 75 (0, 0))).drew) m (.map (es.push ⟨key a b c, .pointer (some ⟨w.heap.size + 1, 0, none⟩), clock⟩) (clock + 1))).setCell ⟨w.heap.size + 1, 0, none⟩ (.int .i64 x)) q m most T' n' S' ∧ Turned ((w.alloc (box a b c)).drewN j).drew ((setBlock ((((w.alloc (box a b c)).drewN j).alloc (.cells #[.int .i64 0] 75 (0, 0))).drew) m (.map (es.push ⟨key a b c, .pointer (some ⟨w.heap.size + 1, 0, none⟩), clock⟩) (clock + 1))).setCell ⟨w.heap.size + 1, 0, none⟩ (.int .i64 x)) m S S' ∧ Took T T' n n' (key a b c) x) := Lib.hid (fun j => by
      have hd : QP ((w.alloc (box a b c)).drewN j).drew q m most T n S := h1.keep rfl rfl (fun _ _ _ => rfl) (Nat.le_refl _)
      refine hd.fresh hk h0 he hx ?_
      have e : ((w.alloc (box a b c)).drewN j).drew.heap.size = w.heap.size + 1 := hz
      rw [e, Int.zero_add]
      rfl)
    have H0 := Lib.hid hb0
    clear hl h h1 he hks hk hno h0 hb0 hcc hz
    go_enter Try.func23, Try.ntmps23
    go_wp2
    go_quiet (fail)
    go_wp2
    go_region
    go_wp2_with fail
    refine (HA _).out.mono ?_
    rintro e w' ⟨rfl, rfl⟩
    rw [Int.zero_add]
    go_wp2_with fail
    go_end0
    obtain ⟨T', n', S', g1, g2, g3⟩ := HF.out nq
    exact ⟨rfl, T', n', S', g1, Turned.of_below (w1 := ((w.alloc (box a b c)).drewN nq).drew) ⟨rfl, rfl, rfl, H0.out.size, H0.out.block⟩ g2, g3⟩
  · have HB := fun j => Lib.hid ((h1.drewN j).bump keyedP Try.underlying53 hk (hl _ rfl) hx)
    have HA := fun j => Lib.hid (add_any d _ x ((w.alloc (box a b c)).drewN j) hc (by omega) (by omega))
    have hl' := fun j => hl ((w.alloc (box a b c)).drewN j) rfl
    have H0 := Lib.hid hb0
    clear h h1 hc hS hk hl hb0
    go_enter Try.func23, Try.ntmps23
    go_wp2
    go_quiet (fail)
    go_wp2_with fail
    refine (HA _).out.mono ?_
    rintro e w' ⟨rfl, rfl⟩
    go_wp2_with fail
    go_end0
    obtain ⟨T', n', S', g1, g2, g3⟩ := (HB _).out
    exact ⟨rfl, T', n', S', g1, Turned.of_below (below_drew H0.out _) g2, g3⟩

end Go.Proofs.Ythjechngpjkgnaa.OfPane
