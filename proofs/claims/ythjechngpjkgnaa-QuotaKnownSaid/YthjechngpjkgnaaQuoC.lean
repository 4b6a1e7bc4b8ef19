/- Layer 3: Left, Keys, Tick, New of a quota with keys of type string. -/
import Derived.Test.YthjechngpjkgnaaQuoB
namespace Go.Proofs.Ythjechngpjkgnaa
open Go.RowKit Go.Maps Go.ChangeMaps

theorem left_any (q m : Nat) (most : Int) (T : Value → Int) (n : Nat) (S : Nat → Prop) (key : ByteArray) (w : World) (h : QS w q m most T n S) (hk : key.size ≤ maxLen) :
    Calls Try.prog 18 #[.pointer (some ⟨q, 0, none⟩), .string key] w fun e w' => e = .returned (.int .i64 (most - T (.string key))) ∧ ∃ j, w' = w.drewN j := by
  obtain ⟨c0, c1⟩ := h.cells
  have hnot : ∀ (x : Bool) (w : World), (Op.unary .not (.bool x)).run Try.prog w = .ok (.bool (!x)) w := fun _ _ => rfl
  have hf := h.fits (.string key)
  have hlim := h.lim
  rcases h.at keyedS Try.underlying49 (WideMaps.keyOf_string_mk Try.underlying9 hk) with ⟨h0, hl⟩ | ⟨c, h0, hS, hc, hl⟩
  · have HF := Lib.hid (find_at q m key _ w c1 hl)
    have H0 := Lib.hid h0
    clear hl h0 c1 h
    go_enter Try.func18, Try.ntmps18
    go_wp2_with fail
    refine HF.out.mono ?_
    rintro e w' ⟨rfl, rfl⟩
    go_wp2
    go_ret
    exact ⟨ret_int (by rw [H0.out]; omega), 0, rfl⟩
  · have HF := Lib.hid (find_at q m key _ w c1 hl)
    have HC := Lib.hid hc
    have hs := IntWalk.i64_in (most - T (.string key)) (by omega)
    clear hl c1 h hS hc
    go_enter Try.func18, Try.ntmps18
    go_wp2_with fail
    refine HF.out.mono ?_
    rintro e w' ⟨rfl, rfl⟩
    go_wp2_with fail
    go_quiet ((go_at_call 28; exact still_left (load_any c _ _ HC.out)))
    go_wp2
    go_ret
    exact ⟨rfl, _, rfl⟩

theorem keys_any (q m : Nat) (most : Int) (T : Value → Int) (n : Nat) (S : Nat → Prop) (w : World) (h : QS w q m most T n S) :
    Calls Try.prog 20 #[.pointer (some ⟨q, 0, none⟩)] w fun e w' => e = .returned (.int .i64 n) ∧ w = w' := by
  obtain ⟨c0, c1⟩ := h.cells
  obtain ⟨es, clock, he, hn, _⟩ := h.ent
  have hl := fun ty => len_raw (P := Try.prog) Try.underlying49 he ty
  rw [hn] at hl
  clear h he hn c0
  go_enter Try.func20, Try.ntmps20
  go_wp2
  go_ret
  exact ⟨rfl, rfl⟩

def TickPost (w : World) (q m : Nat) (most : Int) (S : Nat → Prop) (e : Ending) (w' : World) : Prop :=
  e = .returned (.tuple #[]) ∧ QS w' q m most (fun _ => 0) 0 (fun _ => False) ∧ Turned w w' m S (fun _ => False)

theorem tick_any (q m : Nat) (most : Int) (T : Value → Int) (n : Nat) (S : Nat → Prop) (w : World) (h : QS w q m most T n S) :
    Calls Try.prog 17 #[.pointer (some ⟨q, 0, none⟩)] w (TickPost w q m most S) := by
  obtain ⟨c0, c1⟩ := h.cells
  obtain ⟨es, clock, he, hn, _⟩ := h.ent
  have hl := fun ty => clear_raw (P := Try.prog) Try.underlying49 he ty
  have hne : q ≠ m := by
    rintro rfl
    have := h.blk
    rw [he] at this
    cases this
  have HP : Hid (TickPost w q m most S (.returned (.tuple #[])) (setBlock w m (.map #[] clock))) := Lib.hid (by
    refine ⟨rfl, ⟨(heap_setBlock_other he _ hne).trans h.blk, ⟨#[], clock, heap_setBlock_same he _, rfl, ?_⟩, h.lim, fun v => ⟨by simp, h.lim.1⟩, fun _ hc => hc.elim⟩, ?_⟩
    · exact ⟨by simp, by simp, fun _ _ => rfl, by simp, by simp⟩
    · exact ⟨rfl, rfl, rfl, by simp [setBlock], fun b _ hb _ => heap_setBlock_other he _ hb, fun c hc => hc.elim⟩)
  clear h he hn c0
  go_enter Try.func17, Try.ntmps17
  go_wp2
  go_end0
  exact HP.out

def NewPost (w : World) (most : Int) (e : Ending) (w' : World) : Prop :=
  ∃ q m, e = .returned (.tuple #[.pointer (some ⟨q, 0, none⟩), .int .i64 0]) ∧ w.heap.size ≤ q ∧ w.heap.size ≤ m ∧ QS w' q m most (fun _ => 0) 0 (fun _ => False) ∧ Below w.heap.size w w'

theorem new_none (most : Int) (w : World) (h : most < 0 ∨ 1099511627776 < most) :
    Calls Try.prog 14 #[.int .i64 most] w fun e w' => e = .returned (.tuple #[.pointer none, .int .i64 1]) ∧ w = w' := by
  rcases h with h | h
  · go_enter Try.func14, Try.ntmps14
    go_wp2
    go_ret2
    exact ⟨rfl, rfl⟩
  · have h0 : ¬ most < 0 := by omega
    go_enter Try.func14, Try.ntmps14
    go_wp2
    go_ret2
    exact ⟨rfl, rfl⟩

theorem new_some (most : Int) (w : World) (h : 0 ≤ most ∧ most ≤ 1099511627776) :
    Calls Try.prog 14 #[.int .i64 most] w (NewPost w most) := by
  have h0 : ¬ most < 0 := by omega
  have h1 : ¬ 1099511627776 < most := by omega
  have hmm := @run_makeMap Try.prog
  go_enter Try.func14, Try.ntmps14
  go_wp2
  go_ret2
  refine ⟨w.heap.size + 1, w.heap.size, by simp, by omega, by omega, ⟨?_, ⟨#[], 0, ?_, rfl, ?_⟩, h, fun v => ⟨by simp, h.1⟩, fun _ hc => hc.elim⟩, ?_⟩
  · exact alloc_at _ _ (by simp)
  · exact ((MapKept.heap_alloc _ _).2 _ (by simp)).trans (MapKept.heap_alloc _ _).1
  · exact ⟨by simp, by simp, fun _ _ => rfl, by simp, by simp⟩
  · exact ((Below.refl _ _).alloc (Nat.le_refl _) _).alloc (by simp) _

end Go.Proofs.Ythjechngpjkgnaa
