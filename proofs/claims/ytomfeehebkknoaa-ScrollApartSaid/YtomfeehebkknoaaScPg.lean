/- Layer 13: the program's Up: the walk. -/
import Derived.Test.YtomfeehebkknoaaScPf
set_option linter.unusedVariables false
namespace Go.Proofs.Ytomfeehebkknoaa.Rw
open Go.RowKit

theorem own_slice {w : World} {base : Nat} {v : Value} {us : List Value} {ls : Ls} (h : OwnT w base v us ls) : ∃ A n c, v = .slice A n c := by
  rcases one_shape h.1 with ⟨rfl, _⟩ | ⟨g, c, cur, rfl, _⟩ <;> exact ⟨_, _, _, rfl⟩
/-- Lines are answered, said of a world that stood ahead. -/
def CallPost (w0 V : World) (ls : Ls) (e : Ending) (w' : World) : Prop := ∃ A n c us, e = .returned (.slice A n c) ∧ Hid (OwnT w' V.heap.size (.slice A n c) us ls ∧ Below V.heap.size V w') ∧ Below w0.heap.size w0 w'
theorem TabPost.call {w0 V : World} {ls : Ls} {e : Ending} {w' : World} (h : TabPost V ls e w') (hV : Below w0.heap.size w0 V) : CallPost w0 V ls e w' := by
  obtain ⟨v, us, rfl, ho, hb⟩ := h
  obtain ⟨A, n, c, rfl⟩ := own_slice ho
  exact ⟨A, n, c, us, rfl, Lib.hid ⟨ho, hb⟩, hV.trans (hb.mono hV.size)⟩
theorem from_any {F : Nat → Prop} {w : World} {A : Option Addr} {n c : Nat} {ls : Ls} (h : TabAt F w (.slice A n c) ls) (x : Nat) (hx : x ≤ n) : ∃ p m d, (∀ W, (Instr.slice 22 (.slice A n c) (some (.int .i64 (x : Int))) none none).run Try.prog W = .ok (.slice p m d) W) ∧ ∀ V, Below w.heap.size w V → TabAt F V (.slice p m d) (ls.drop x) := by
  have hl := h.len
  cases A with
  | none =>
    obtain rfl := hl.2.1 rfl
    have h0 : n = 0 := by omega
    have hx0 : x = 0 := by omega
    subst h0 hx0
    refine ⟨none, 0, 0, fun W => by kernel_rfl, fun V hV => ?_⟩
    rw [List.drop_zero]
    exact h.below hV
  | some ad =>
    by_cases hn : 0 < n
    · obtain ⟨b, o, e⟩ := h.some_ hn
      cases e
      obtain ⟨p, k, q⟩ := from_tab h x hx
      exact ⟨p, _, _, k, q⟩
    · have h0 : n = 0 := by omega
      have hx0 : x = 0 := by omega
      subst h0 hx0
      have hls : ls = [] := List.eq_nil_of_length_eq_zero hl.1.symm
      subst hls
      refine ⟨some ad, 0, c, fun W => ?_, fun V hV => ?_⟩
      · have := run_slice_l (P := Try.prog) W 22 (some ad) 0 c tab_under .i64 ((0 : Nat) : Int) (by omega) (by omega)
        rw [this, tab_size]
        obtain ⟨b, o, q⟩ := ad
        cases c <;> simp [Result.andThen, sliced, Addr.add]
      · exact h.below hV
theorem to_any {F : Nat → Prop} {w : World} {A : Option Addr} {n c : Nat} {ls : Ls} (h : TabAt F w (.slice A n c) ls) (y : Nat) (hy : y ≤ n) : ∃ p m d, (∀ W, (Instr.slice 22 (.slice A n c) none (some (.int .i64 (y : Int))) none).run Try.prog W = .ok (.slice p m d) W) ∧ ∀ V, Below w.heap.size w V → TabAt F V (.slice p m d) (ls.take y) := by
  have hl := h.len
  cases A with
  | none =>
    obtain rfl := hl.2.1 rfl
    have h0 : n = 0 := by omega
    have hy0 : y = 0 := by omega
    subst h0 hy0
    have hls : ls = [] := List.eq_nil_of_length_eq_zero hl.1.symm
    subst hls
    exact ⟨none, 0, 0, fun W => by kernel_rfl, fun V hV => h.below hV⟩
  | some ad =>
    by_cases hn : 0 < n
    · obtain ⟨b, o, e⟩ := h.some_ hn
      cases e
      obtain ⟨k, q⟩ := to_tab h y hy
      exact ⟨_, _, _, k, q⟩
    · have h0 : n = 0 := by omega
      have hy0 : y = 0 := by omega
      subst h0 hy0
      have hls : ls = [] := List.eq_nil_of_length_eq_zero hl.1.symm
      subst hls
      refine ⟨some ad, 0, c, fun W => ?_, fun V hV => ?_⟩
      · have := run_slice_h (P := Try.prog) W 22 (some ad) 0 c tab_under .i64 ((0 : Nat) : Int) (by omega) (by omega)
        rw [this, tab_size]
        obtain ⟨b, o, q⟩ := ad
        simp [Result.andThen, sliced, Addr.add]
        try (split <;> simp_all)
      · exact h.below hV
/-- Four slices of lines, joined. -/
theorem four_call {w0 V1 y1 y2 y3 y4 : World} {l1 l2 l3 l4 : Ls} {A1 A2 A3 A4 : Option Addr} {n1 c1 n2 c2 n3 c3 n4 c4 : Nat} {u1 u2 u3 u4 : List Value} {B : Nat} (h1 : OwnT y1 V1.heap.size (.slice A1 n1 c1) u1 l1 ∧ Below V1.heap.size V1 y1) (h2 : OwnT y2 y1.heap.size (.slice A2 n2 c2) u2 l2 ∧ Below y1.heap.size y1 y2) (h3 : OwnT y3 y2.heap.size (.slice A3 n3 c3) u3 l3 ∧ Below y2.heap.size y2 y3) (h4 : OwnT y4 y3.heap.size (.slice A4 n4 c4) u4 l4 ∧ Below y3.heap.size y3 y4)
    (hV : w0.heap.size ≤ V1.heap.size) (hb : Below w0.heap.size w0 y4) (hl : (l1 ++ l2 ++ l3 ++ l4).length ≤ 1000000) (hBw : B ≤ w0.heap.size) {X : World} (hX : X = y4.alloc (.cells #[.slice A1 n1 c1, .slice A2 n2 c2, .slice A3 n3 c3, .slice A4 n4 c4] 22 (0, 0))) :
    Calls Try.prog 18 #[.slice (some ⟨y4.heap.size, 0, none⟩) 4 4] X fun e w' => ∃ A n c us, e = .returned (.slice A n c) ∧ Hid (OwnT w' B (.slice A n c) us (l1 ++ l2 ++ l3 ++ l4)) ∧ Below w0.heap.size w0 w' := by
  have b34 := h4.2
  have b24 := h3.2.trans (b34.mono h3.2.size)
  have b14 := h2.2.trans (b24.mono h2.2.size)
  have s1 := h1.2.size
  have s2 := h2.2.size
  have s3 := h3.2.size
  have s4 := h4.2.size
  have bX : Below y4.heap.size y4 X := by rw [hX]; exact (Below.refl _ _).alloc (Nat.le_refl _) _
  have hXs : X.heap.size = y4.heap.size + 1 := by rw [hX]; simp
  have hXb : X.heap[y4.heap.size]? = some (.cells #[.slice A1 n1 c1, .slice A2 n2 c2, .slice A3 n3 c3, .slice A4 n4 c4] 22 (0, 0)) := by rw [hX]; exact heap_alloc_new y4 _
  have o1 := (h1.1.below b14).below bX
  have o2 := (h2.1.below b24).below bX
  have o3 := (h3.1.below b34).below bX
  have o4 := h4.1.below bX
  have r := ((((o1.less (B := B) (by omega)).2.append (o2.less (B := B) (by omega)).2).append (o3.less (B := B) (by omega)).2).append (o4.less (B := B) (by omega)).2)
  have hfl : [u1, u2, u3, u4].flatten = u1 ++ u2 ++ u3 ++ u4 := by simp
  have hK := concat_any y4.heap.size 4 [u1, u2, u3, u4] X rfl (by omega) (fun k hk => by
    have : k = 0 ∨ k = 1 ∨ k = 2 ∨ k = 3 := by omega
    rcases this with rfl | rfl | rfl | rfl
    · exact ⟨_, cell_of hXb 0, o1.sl⟩
    · exact ⟨_, cell_of hXb 1, o2.sl⟩
    · exact ⟨_, cell_of hXb 2, o3.sl⟩
    · exact ⟨_, cell_of hXb 3, o4.sl⟩) (by rw [hfl, r.1]; exact hl) (by omega)
  rw [hfl] at hK
  refine hK.mono ?_
  rintro e w' ⟨v, rfl, ho, hbw⟩
  have hlen := r.1
  have hO : OwnT w' B v (u1 ++ u2 ++ u3 ++ u4) (l1 ++ l2 ++ l3 ++ l4) := ⟨by rw [← hlen]; exact one_less ho (by have := hb.size; omega), r.below hbw⟩
  obtain ⟨A, n, c, rfl⟩ := own_slice hO
  exact ⟨A, n, c, _, rfl, Lib.hid hO, (hb.trans (bX.mono hb.size)).trans (hbw.mono (Nat.le_trans hb.size bX.size))⟩
end Go.Proofs.Ytomfeehebkknoaa.Rw
