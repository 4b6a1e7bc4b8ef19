/- Layer 13: the six answers of ScrollApart, side by side. -/
import Derived.Test.YtomfeehebkknoaaScS
set_option linter.unusedVariables false
namespace Go.Proofs.Ytomfeehebkknoaa.Rw
open Go.RowKit

def six {α : Type} (a b c d e f : α) : Nat → α
  | 0 => a | 1 => b | 2 => c | 3 => d | 4 => e | _ => f
theorem of_six {i : Nat} (h : i < 6) : i = 0 ∨ i = 1 ∨ i = 2 ∨ i = 3 ∨ i = 4 ∨ i = 5 := by omega
theorem six_f {Fa Fg Fb Fh Fc Fd : Nat → Prop} {s0 s1 s2 s3 s4 : Nat} (h1 : s0 ≤ s1) (h2 : s1 ≤ s2) (h3 : s2 ≤ s3) (h4 : s3 ≤ s4)
    (fa : ∀ b, Fa b → s0 ≤ b ∧ b < s1 ∧ ¬ Fg b) (fg : ∀ b, Fg b → s0 ≤ b ∧ b < s1) (fb : ∀ b, Fb b → s1 ≤ b ∧ b < s2 ∧ ¬ Fh b) (fh : ∀ b, Fh b → s1 ≤ b ∧ b < s2) (fc : ∀ b, Fc b → s2 ≤ b ∧ b < s3) (fd : ∀ b, Fd b → s3 ≤ b ∧ b < s4) : SixF (six Fa Fg Fb Fh Fc Fd) ∧ ∀ i b, i < 6 → six Fa Fg Fb Fh Fc Fd i b → s0 ≤ b ∧ b < s4 := by
  have fa' : ∀ b, Fa b → s0 ≤ b ∧ b < s1 := fun b h => ⟨(fa b h).1, (fa b h).2.1⟩
  have fb' : ∀ b, Fb b → s1 ≤ b ∧ b < s2 := fun b h => ⟨(fb b h).1, (fb b h).2.1⟩
  refine ⟨fun i k b hi hk hne p q => ?_, fun i b hi p => ?_⟩
  · rcases of_six hi with rfl | rfl | rfl | rfl | rfl | rfl <;> rcases of_six hk with rfl | rfl | rfl | rfl | rfl | rfl
    all_goals
      simp only [six] at p q
      first
        | exact absurd rfl hne
        | exact (fa b p).2.2 q
        | exact (fa b q).2.2 p
        | exact (fb b p).2.2 q
        | exact (fb b q).2.2 p
        | ((first | have x := fa' b p | have x := fg b p | have x := fb' b p | have x := fh b p | have x := fc b p | have x := fd b p)
           (first | have y := fa' b q | have y := fg b q | have y := fb' b q | have y := fh b q | have y := fc b q | have y := fd b q)
           omega)
  · rcases of_six hi with rfl | rfl | rfl | rfl | rfl | rfl
    all_goals
      simp only [six] at p
      (first | have x := fa' b p | have x := fg b p | have x := fb' b p | have x := fh b p | have x := fc b p | have x := fd b p)
      omega
theorem six_c {Fa Fg Fb Fh Fc Fd : Nat → Prop} {xa xg xb xh xc xd : Value} {la lg lb lh lc ld : Ls} {w1 w2 w3 w4 W : World} (b1 : Below w1.heap.size w1 W) (b2 : Below w2.heap.size w2 W) (b3 : Below w3.heap.size w3 W) (b4 : Below w4.heap.size w4 W)
    (ta : TabAt Fa w1 xa la) (wa : TabW Fa w1 xa la.length) (tg : TabAt Fg w1 xg lg) (wg : TabW Fg w1 xg lg.length) (tb : TabAt Fb w2 xb lb) (wb : TabW Fb w2 xb lb.length) (th : TabAt Fh w2 xh lh) (wh : TabW Fh w2 xh lh.length) (tc : TabAt Fc w3 xc lc) (wc : TabW Fc w3 xc lc.length) (td : TabAt Fd w4 xd ld) (wd : TabW Fd w4 xd ld.length) :
    SixC (six xa xg xb xh xc xd) (six Fa Fg Fb Fh Fc Fd) (six la lg lb lh lc ld) 0 W W := by
  refine ⟨fun i _ hi => ?_, fun i _ hi => ?_, rfl, fun _ _ => rfl, fun _ _ _ h => h⟩
  · rcases of_six hi with rfl | rfl | rfl | rfl | rfl | rfl
    · exact ta.below b1
    · exact tg.below b1
    · exact tb.below b2
    · exact th.below b2
    · exact tc.below b3
    · exact td.below b4
  · rcases of_six hi with rfl | rfl | rfl | rfl | rfl | rfl
    · exact wa.keep fun b _ hl => b1.block b hl
    · exact wg.keep fun b _ hl => b1.block b hl
    · exact wb.keep fun b _ hl => b2.block b hl
    · exact wh.keep fun b _ hl => b2.block b hl
    · exact wc.keep fun b _ hl => b3.block b hl
    · exact wd.keep fun b _ hl => b4.block b hl
theorem six_cells (a b c d e f : Value) {i : Nat} (h : i < 6) : (#[a, b, c, d, e, f] : Array Value)[i]? = some (six a b c d e f i) := by
  rcases of_six h with rfl | rfl | rfl | rfl | rfl | rfl <;> rfl
theorem six_all {α : Type} {p : α → Prop} {a b c d e f : α} (h : p a ∧ p b ∧ p c ∧ p d ∧ p e ∧ p f) {i : Nat} (hi : i < 6) : p (six a b c d e f i) := by
  obtain ⟨ha, hb, hc, hd, he, hf⟩ := h
  rcases of_six hi with rfl | rfl | rfl | rfl | rfl | rfl <;> assumption
theorem idx_tabs (b o n c k : Nat) (hk : k < n) (W : World) : (Instr.indexAt 42 (.slice (some ⟨b, o, none⟩) n c) (.int .i64 (k : Int))).run Try.prog W = .ok (.pointer (some ⟨b, o + k, none⟩)) W := by
  have hs : ∀ W : World, (sizeOf (Try.prog.elem 42)).run Try.prog W = .ok 1 W := fun W => by kernel_rfl
  rw [run_indexAt_slice (P := Try.prog) W 42 ⟨b, o, none⟩ n c .i64 k (by kernel_rfl), if_pos (by omega), hs]
  simp only [Result.andThen, Int.toNat_natCast, add_oo, Nat.mul_one]
/-- A line that is being written. -/
structure LineC (F : Nat → Prop) (w0 wv : World) (b o n c k : Nat) (B1 : Option Addr) (n1 d1 : Nat) : Prop where
  tab : TabW F wv (.slice (some ⟨b, o, none⟩) n c) n
  only : OnlyF F w0 wv
  cell : wv.cell? ⟨b, o + k, none⟩ = some (.slice B1 n1 d1)
  free : wv.frozen? ⟨b, o + k, none⟩ = false
  row : RowW F wv (.slice B1 n1 d1)
theorem LineC.store {F : Nat → Prop} {w0 wv : World} {b o n c k : Nat} {B1 : Option Addr} {n1 d1 r i : Nat} {cs : Array Value} (h : LineC F w0 wv b o n c k B1 n1 d1) (hk : k < n) (hF : F r) (hr : wv.heap[r]? = some (.cells cs 40 (0, 0))) (x : Value) : LineC F w0 (wv.setCell ⟨r, i, none⟩ x) b o n c k B1 n1 d1 := by
  obtain ⟨b', o', u, e, hF', hc, hf, _⟩ := h.tab.at_ hk
  obtain ⟨A, c', e2, _, h2⟩ := id h.tab
  cases e2
  obtain ⟨b2, o2, ct, e3, _, hb, _⟩ := h2 (by omega)
  cases e3
  have hne : b ≠ r := fun e => by subst e; rw [hr] at hb; simp at hb
  have hblk : (wv.setCell ⟨r, i, none⟩ x).heap[b]? = wv.heap[b]? := Below.heap_setCell _ _ _ _ hne
  exact ⟨h.tab.cell hr x, h.only.set hF i x, (World.cell?_of_block hblk).trans h.cell, by rw [free_of (hblk.trans hb)], h.row.set r i x⟩
end Go.Proofs.Ytomfeehebkknoaa.Rw
