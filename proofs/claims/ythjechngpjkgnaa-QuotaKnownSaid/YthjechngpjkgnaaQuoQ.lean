/- Layer 3: Left, Keys, New, add, Take of a quota with keys of type api.Pane. -/
import Derived.Test.YthjechngpjkgnaaQuoP
namespace Go.Proofs.Ythjechngpjkgnaa.OfPane
open Go.RowKit Go.Maps Go.ChangeMaps

abbrev key (a b c : Int) : Value := .agg #[.int .i64 a, .int .i64 b, .int .i64 c]

theorem left_any (q m : Nat) (most : Int) (T : Value → Int) (n : Nat) (S : Nat → Prop) (a b c : Int) (kl : Lit) (w : World) (h : QP w q m most T n S) (hk : keyOf Try.prog 27 (key a b c) = some kl) :
    Calls Try.prog 22 #[.pointer (some ⟨q, 0, none⟩), .agg #[.int .i64 a, .int .i64 b, .int .i64 c]] w fun e w' => e = .returned (.int .i64 (most - T (key a b c))) ∧ Below w.heap.size w w' := by
  have hnot : ∀ (x : Bool) (w : World), (Op.unary .not (.bool x)).run Try.prog w = .ok (.bool (!x)) w := fun _ _ => rfl
  have hf := h.fits (key a b c)
  have hlim := h.lim
  have h1 : QP (w.alloc (box a b c)) q m most T n S := h.below ((Below.refl _ _).alloc (Nat.le_refl _) _)
  have h2 : QP ((w.alloc (box a b c)).alloc (box a b c)) q m most T n S := h1.below ((Below.refl _ _).alloc (Nat.le_refl _) _)
  rcases h2.at_heap keyedP Try.underlying53 hk with ⟨h0, hl⟩ | ⟨d, h0, hS, hc, hl⟩
  · have HF := Lib.hid (find_at q m a b c _ (w.alloc (box a b c)) h1.lt.1 h1.cells.2 (fun j => hl _ rfl))
    have H0 := Lib.hid h0
    have H1 := Lib.hid h1
    clear hl h0 h h1 h2
    go_enter Try.func22, Try.ntmps22
    go_wp2_with fail
    refine HF.out.mono ?_
    rintro e w' ⟨rfl, hb⟩
    have c0 := (H1.out.below hb).cells.1
    have HB := Lib.hid (((Below.refl _ _).alloc (Nat.le_refl w.heap.size) _).trans (hb.mono (by simp)))
    clear hb
    go_wp2
    go_ret
    exact ⟨ret_int (by rw [H0.out]; omega), HB.out⟩
  · have HF := Lib.hid (find_at q m a b c _ (w.alloc (box a b c)) h1.lt.1 h1.cells.2 (fun j => hl _ rfl))
    have hs := IntWalk.i64_in (most - T (key a b c)) (by omega)
    rcases h1.at_heap keyedP Try.underlying53 hk with ⟨h0', hl'⟩ | ⟨d', _, _, hc', _⟩
    · omega
    have hdd : (w.alloc (box a b c)).heap[d]? = some (.cells #[.int .i64 (T (key a b c))] 75 (0, 0)) := by
      have hd := lt_of hc
      refine ((MapKept.heap_alloc (w.alloc (box a b c)) (box a b c)).2 d ?_).symm.trans hc
      rcases Nat.lt_or_ge d (w.alloc (box a b c)).heap.size with hlt | hge
      · exact hlt
      · have : d = (w.alloc (box a b c)).heap.size := by simp at hd hge ⊢; omega
        rw [this, (MapKept.heap_alloc _ _).1] at hc
        injection hc with hc
        injection hc with hc _ _
        have := congrArg Array.size hc
        simp at this
    have HC := Lib.hid hdd
    have H1 := Lib.hid h1
    clear hl h h1 h2 hS hc hc' hdd
    go_enter Try.func22, Try.ntmps22
    go_wp2_with fail
    refine HF.out.mono ?_
    rintro e w' ⟨rfl, hb⟩
    have c0 := (H1.out.below hb).cells.1
    have HC' := Lib.hid ((hb.block d (lt_of HC.out)).trans HC.out)
    have HB := Lib.hid (((Below.refl _ _).alloc (Nat.le_refl w.heap.size) _).trans (hb.mono (by simp)))
    clear hb
    go_wp2_with fail
    go_quiet ((go_at_call 28; exact still_left (load_any d _ _ HC'.out)))
    go_wp2
    go_ret
    exact ⟨rfl, below_drew HB.out _⟩

theorem keys_any (q m : Nat) (most : Int) (T : Value → Int) (n : Nat) (S : Nat → Prop) (w : World) (h : QP w q m most T n S) :
    Calls Try.prog 11 #[.pointer (some ⟨q, 0, none⟩)] w fun e w' => e = .returned (.int .i64 n) ∧ w = w' := by
  obtain ⟨c0, c1⟩ := h.cells
  obtain ⟨es, clock, he, hn, _⟩ := h.ent
  have hl := fun ty => len_raw (P := Try.prog) Try.underlying53 he ty
  rw [hn] at hl
  clear h he hn c0
  go_enter Try.func11, Try.ntmps11
  go_wp2
  go_ret
  exact ⟨rfl, rfl⟩

def NewPost (w : World) (most : Int) (e : Ending) (w' : World) : Prop :=
  ∃ q m, e = .returned (.tuple #[.pointer (some ⟨q, 0, none⟩), .int .i64 0]) ∧ w.heap.size ≤ q ∧ w.heap.size ≤ m ∧ QP w' q m most (fun _ => 0) 0 (fun _ => False) ∧ Below w.heap.size w w'

theorem new_some (most : Int) (w : World) (h : 0 ≤ most ∧ most ≤ 1099511627776) :
    Calls Try.prog 7 #[.int .i64 most] w (NewPost w most) := by
  have h0 : ¬ most < 0 := by omega
  have h1 : ¬ 1099511627776 < most := by omega
  have hmm := @run_makeMap Try.prog
  go_enter Try.func7, Try.ntmps7
  go_wp2
  go_ret2
  refine ⟨w.heap.size + 1, w.heap.size, by simp, by omega, by omega, ⟨?_, ⟨#[], 0, ?_, rfl, ?_⟩, h, fun v => ⟨by simp, h.1⟩, fun _ hc => hc.elim⟩, ?_⟩
  · exact alloc_at _ _ (by simp)
  · exact ((MapKept.heap_alloc _ _).2 _ (by simp)).trans (MapKept.heap_alloc _ _).1
  · exact ⟨by simp, by simp, fun _ _ => rfl, by simp, by simp⟩
  · exact ((Below.refl _ _).alloc (Nat.le_refl _) _).alloc (by simp) _

end Go.Proofs.Ythjechngpjkgnaa.OfPane
