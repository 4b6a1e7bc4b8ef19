/- Layer 4: any label asked for; two numbers beside one another. -/
import Derived.Test.YtbknfbobidgkkaaDoorIdE
namespace Go.Proofs.YtbknfbobidgkkaaDoor
open Go.RowKit Ids Lat

/-- What Next and Given answer of any label. -/
def ansN (n : Nat) (T : Nat → Nat) (a : Int) : Int := if labB n a then (T a.toNat : Int) else 0
/-- What was given, one more for a label. -/
def moreA (n : Nat) (T : Nat → Nat) (a : Int) : Nat → Nat := if labB n a then more T a.toNat else T

theorem ans_lab {n i : Nat} {T : Nat → Nat} (h : i < n) : ansN n T i = T i := by simp [ansN, lab_of h]
theorem ans_not {n : Nat} {T : Nat → Nat} {a : Int} (h : labB n a = false) : ansN n T a = 0 := by simp [ansN, h]

theorem more_le {T : Nat → Nat} {k a : Nat} (h : ∀ i, T i ≤ k) : ∀ i, more T a i ≤ k + 1 := fun i => by
  have := h i
  unfold more
  split <;> omega
theorem moreA_le {n : Nat} {T : Nat → Nat} {k : Nat} {a : Int} (h : ∀ i, T i ≤ k) : ∀ i, moreA n T a i ≤ k + 1 := fun i => by
  unfold moreA
  split
  · exact more_le h i
  · exact Nat.le_trans (h i) (Nat.le_succ k)

/-- Two numbers are alike at one label. -/
def alike (n : Nat) (T S : Nat → Nat) (a : Int) : Prop := labB n a = true → T a.toNat = S a.toNat

theorem alike_ans {n : Nat} {T S : Nat → Nat} {a : Int} (h : alike n T S a) : ansN n T a = ansN n S a := by
  unfold ansN
  split
  · rename_i hl; rw [h hl]
  · rfl
theorem alike_both {n : Nat} {T S : Nat → Nat} {a : Int} (h : alike n T S a) : alike n (moreA n T a) (moreA n S a) a := fun hl => by
  unfold moreA
  rw [if_pos hl, if_pos hl]
  unfold more
  simp [h hl]
theorem alike_other {n : Nat} {T S : Nat → Nat} {a x : Int} (h : alike n T S a) (hne : x ≠ a) : alike n (moreA n T x) S a := fun hl => by
  unfold moreA
  split
  · rename_i hx
    obtain ⟨i, rfl, _⟩ := lab_true hl
    obtain ⟨j, rfl, _⟩ := lab_true hx
    have : i ≠ j := fun e => hne (by rw [e])
    unfold more
    simp only [Int.toNat_natCast]
    rw [if_neg this]
    simpa using h hl
  · exact h hl

/-- Next, of any label. -/
theorem next_any (d g n : Nat) (T : Nat → Nat) (a : Int) (w : World) (h : IsIds w d g n T) (hT : ∀ i, T i ≤ 1000000) :
    Calls Tryd.prog 16 #[.pointer (some ⟨d, 0, none⟩), .int .i64 a] w fun e w' => e = .returned (.tuple #[.int .i64 (ansN n T a), .bool (labB n a)]) ∧ IsIds w' d g n (moreA n T a) ∧ Stirs g w w' := by
  cases hl : labB n a
  · refine (next_not _ n a w h.some hl).mono ?_
    rintro e w' ⟨rfl, rfl⟩
    exact ⟨by rw [ans_not hl], by simpa [moreA, hl] using h, ⟨rfl, rfl, rfl, Nat.le_refl _, fun _ _ _ => rfl⟩⟩
  · obtain ⟨i, rfl, hi⟩ := lab_true hl
    refine (next_lab d g n i T w h hi (hT i)).mono ?_
    rintro e w' ⟨rfl, h1, h2⟩
    exact ⟨by rw [ans_lab hi], by simpa [moreA, hl] using h1, h2⟩

theorem given_any (d g n : Nat) (T : Nat → Nat) (a : Int) (w : World) (h : IsIds w d g n T) :
    Calls Tryd.prog 17 #[.pointer (some ⟨d, 0, none⟩), .int .i64 a] w fun e w' => e = .returned (.int .i64 (ansN n T a)) ∧ w = w' := by
  cases hl : labB n a
  · refine (given_not _ n a w h.some hl).mono ?_
    rintro e w' ⟨rfl, rfl⟩
    exact ⟨by rw [ans_not hl], rfl⟩
  · obtain ⟨i, rfl, hi⟩ := lab_true hl
    refine (given_lab d g n i T w h hi).mono ?_
    rintro e w' ⟨rfl, rfl⟩
    exact ⟨by rw [ans_lab hi], rfl⟩

theorem IsIds.stirs {w w' : World} {d g n d' g' n' : Nat} {T T' : Nat → Nat} (h : IsIds w d g n T) (h' : IsIds w d' g' n' T') (hg : g ≠ g') (hs : Stirs g' w w') : IsIds w' d g n T :=
  h.keep (hs.block d h.lt.1 (row_ne h'.row h.blk (by decide)).symm) (hs.block g h.lt.2 hg)

/-- Two numbers of the call's own. -/
structure TwoI (w0 w : World) (B d c n : Nat) (T S : Nat → Nat) : Prop where
  ids : ∃ g h, IsIds w d g n T ∧ IsIds w c h n S ∧ B ≤ g ∧ B ≤ h ∧ g ≠ h
  old : Below B w0 w
  sz : B ≤ w.heap.size

theorem TwoI.below {w0 w w' : World} {B d c n : Nat} {T S : Nat → Nat} (h : TwoI w0 w B d c n T S) (hb : Below w.heap.size w w') : TwoI w0 w' B d c n T S := by
  obtain ⟨g, k, h1, h2, h3, h4, h5⟩ := h.ids
  exact ⟨⟨g, k, h1.below hb, h2.below hb, h3, h4, h5⟩, h.old.trans (hb.mono h.sz), Nat.le_trans h.sz hb.size⟩

def TwoNext (w0 : World) (B d c n : Nat) (T S : Nat → Nat) (x : Int) (ok : Bool) (e : Ending) (w' : World) : Prop := e = .returned (.tuple #[.int .i64 x, .bool ok]) ∧ TwoI w0 w' B d c n T S

theorem two_left {w0 w : World} {B d c n : Nat} {T S : Nat → Nat} (a : Int) (h : TwoI w0 w B d c n T S) (hT : ∀ i, T i ≤ 1000000) {x : Int} (hx : ansN n T a = x) {ok : Bool} (hok : labB n a = ok) :
    Calls Tryd.prog 16 #[.pointer (some ⟨d, 0, none⟩), .int .i64 a] w (TwoNext w0 B d c n (moreA n T a) S x ok) := by
  obtain ⟨g, k, h1, h2, h3, h4, h5⟩ := h.ids
  refine (next_any d g n T a w h1 hT).mono ?_
  rintro e w' ⟨rfl, k1, k2⟩
  exact ⟨by rw [hx, hok], ⟨g, k, k1, h2.stirs h1 (Ne.symm h5) k2, h3, h4, h5⟩, k2.below h3 h.old h.sz, Nat.le_trans h.sz k2.size⟩
theorem two_right {w0 w : World} {B d c n : Nat} {T S : Nat → Nat} (a : Int) (h : TwoI w0 w B d c n T S) (hS : ∀ i, S i ≤ 1000000) {x : Int} (hx : ansN n S a = x) {ok : Bool} (hok : labB n a = ok) :
    Calls Tryd.prog 16 #[.pointer (some ⟨c, 0, none⟩), .int .i64 a] w (TwoNext w0 B d c n T (moreA n S a) x ok) := by
  obtain ⟨g, k, h1, h2, h3, h4, h5⟩ := h.ids
  refine (next_any c k n S a w h2 hS).mono ?_
  rintro e w' ⟨rfl, k1, k2⟩
  exact ⟨by rw [hx, hok], ⟨g, k, h1.stirs h2 h5 k2, k1, h3, h4, h5⟩, k2.below h4 h.old h.sz, Nat.le_trans h.sz k2.size⟩
theorem two_given {w0 w : World} {B d c n : Nat} {T S : Nat → Nat} (a : Int) (h : TwoI w0 w B d c n T S) {x : Int} (hx : ansN n T a = x) :
    Calls Tryd.prog 17 #[.pointer (some ⟨d, 0, none⟩), .int .i64 a] w fun e w' => e = .returned (.int .i64 x) ∧ w = w' := by
  obtain ⟨g, k, h1, h2, h3, h4, h5⟩ := h.ids
  exact hx ▸ given_any d g n T a w h1
theorem two_given' {w0 w : World} {B d c n : Nat} {T S : Nat → Nat} (a : Int) (h : TwoI w0 w B d c n T S) {x : Int} (hx : ansN n S a = x) :
    Calls Tryd.prog 17 #[.pointer (some ⟨c, 0, none⟩), .int .i64 a] w fun e w' => e = .returned (.int .i64 x) ∧ w = w' := by
  obtain ⟨g, k, h1, h2, h3, h4, h5⟩ := h.ids
  exact hx ▸ given_any c k n S a w h2

def TwoNew (w0 : World) (B d n : Nat) (e : Ending) (w' : World) : Prop := ∃ c, e = .returned (.pointer (some ⟨c, 0, none⟩)) ∧ TwoI w0 w' B d c n (fun _ => 0) (fun _ => 0)
theorem two_new {w0 w : World} {B d lb n : Nat} {T : Nat → Nat → Bool} (hL : IsLat w lb n T) (h : MineI w0 w B d n (fun _ => 0)) : Calls Tryd.prog 15 #[.pointer (some ⟨lb, 0, none⟩)] w (TwoNew w0 B d n) := by
  obtain ⟨g, hi, hg⟩ := h.ids
  refine (new_any lb n T w hL).mono ?_
  rintro e w' ⟨c, k, rfl, hc, hk, hI, hB⟩
  have := hi.lt.2
  exact ⟨c, rfl, ⟨g, k, hi.below hB, hI, hg, Nat.le_trans h.sz hk, by omega⟩, h.old.trans (hB.mono h.sz), Nat.le_trans h.sz hB.size⟩

end Go.Proofs.YtbknfbobidgkkaaDoor
