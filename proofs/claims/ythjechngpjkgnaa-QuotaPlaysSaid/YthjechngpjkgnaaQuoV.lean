/- Layer 3: two quotas of the call's own, beside a block that is no part of either. -/
import Derived.Test.YthjechngpjkgnaaQuoU
namespace Go.Proofs.Ythjechngpjkgnaa
open Go.RowKit Go.Maps Go.ChangeMaps

/-- The blocks of a quota. -/
def Foot (q m : Nat) (S : Nat → Prop) (b : Nat) : Prop := b = q ∨ b = m ∨ S b

theorem IsQ.foot_lt {tq k : TypeId} {w : World} {q m : Nat} {most : Int} {T : Value → Int} {n : Nat} {S : Nat → Prop} (h : IsQ tq k w q m most T n S) {b : Nat} (hb : Foot q m S b) : b < w.heap.size := by
  rcases hb with rfl | rfl | hb
  · exact h.lt.1
  · exact h.lt.2
  · exact h.sub b hb

/-- What a call did to one quota keeps what is apart from it. -/
theorem Turned.other {w w' : World} {q m : Nat} {S S1 : Nat → Prop} (hT : Turned w w' m S S1) {b : Nat} (hb : b < w.heap.size) (hF : ¬ Foot q m S b) : w'.heap[b]? = w.heap[b]? ∧ ¬ Foot q m S1 b := by
  refine ⟨hT.block b hb (fun e => hF (Or.inr (Or.inl e))) (fun e => hF (Or.inr (Or.inr e))), fun h => ?_⟩
  rcases h with e | e | e
  · exact hF (Or.inl e)
  · exact hF (Or.inr (Or.inl e))
  · rcases hT.new b e with e | e
    · exact hF (Or.inr (Or.inr e))
    · omega

/-- Two quotas of the call's own, and a block x beside. -/
structure TwoB (w0 w : World) (B q p : Nat) (most : Int) (T U : Value → Int) (x : Nat) (o : Option Obj) : Prop where
  both : ∃ m S n m' S' n', QS w q m most T n S ∧ QS w p m' most U n' S' ∧ (B ≤ m ∧ B ≤ m' ∧ (∀ c, S c → B ≤ c) ∧ ∀ c, S' c → B ≤ c) ∧ (∀ b, Foot q m S b → ¬ Foot p m' S' b) ∧ ∀ y, o = some y → ¬ Foot q m S x ∧ ¬ Foot p m' S' x
  at_ : B ≤ q ∧ B ≤ p
  old : Below B w0 w
  sz : B ≤ w.heap.size
  beside : ∀ y, o = some y → w.heap[x]? = some y

theorem TwoB.swap {w0 w : World} {B q p : Nat} {most : Int} {T U : Value → Int} {x : Nat} {o : Option Obj} (h : TwoB w0 w B q p most T U x o) : TwoB w0 w B p q most U T x o := by
  obtain ⟨m, S, n, m', S', n', h1, h2, ⟨b1, b2, b3, b4⟩, ha, hx⟩ := h.both
  exact ⟨⟨m', S', n', m, S, n, h2, h1, ⟨b2, b1, b4, b3⟩, fun b hb hc => ha b hc hb, fun y hy => ⟨(hx y hy).2, (hx y hy).1⟩⟩, ⟨h.at_.2, h.at_.1⟩, h.old, h.sz, h.beside⟩

theorem TwoB.below {w0 w w' : World} {B q p : Nat} {most : Int} {T U : Value → Int} {x : Nat} {o : Option Obj} (h : TwoB w0 w B q p most T U x o) (hb : Below w.heap.size w w') : TwoB w0 w' B q p most T U x o := by
  obtain ⟨m, S, n, m', S', n', h1, h2, hB, ha, hx⟩ := h.both
  exact ⟨⟨m, S, n, m', S', n', h1.below hb, h2.below hb, hB, ha, hx⟩, h.at_, h.old.trans (hb.mono h.sz), Nat.le_trans h.sz hb.size, fun y hy => (hb.block x (lt_of (h.beside y hy))).trans (h.beside y hy)⟩
theorem TwoB.drewN {w0 w : World} {B q p : Nat} {most : Int} {T U : Value → Int} {x : Nat} {o : Option Obj} (h : TwoB w0 w B q p most T U x o) (j : Nat) : TwoB w0 (w.drewN j) B q p most T U x o := h.below (below_drew (Below.refl _ _) j)

/-- A new block beside. -/
theorem TwoB.alloc {w0 w : World} {B q p : Nat} {most : Int} {T U : Value → Int} {x : Nat} {o : Option Obj} (h : TwoB w0 w B q p most T U x o) (o' : Obj) : TwoB w0 (w.alloc o') B q p most T U w.heap.size (some o') := by
  have hb : Below w.heap.size w (w.alloc o') := (Below.refl _ _).alloc (Nat.le_refl _) _
  obtain ⟨m, S, n, m', S', n', h1, h2, hB, ha, hx⟩ := h.both
  exact ⟨⟨m, S, n, m', S', n', h1.below hb, h2.below hb, hB, ha, fun _ _ => ⟨fun e => absurd (h1.foot_lt e) (by omega), fun e => absurd (h2.foot_lt e) (by omega)⟩⟩, h.at_, h.old.trans (hb.mono h.sz), Nat.le_trans h.sz hb.size, fun y hy => by injection hy with hy; subst hy; exact (MapKept.heap_alloc _ _).1⟩

theorem TwoB.forget {w0 w : World} {B q p : Nat} {most : Int} {T U : Value → Int} {x : Nat} {o : Option Obj} (h : TwoB w0 w B q p most T U x o) : TwoB w0 w B q p most T U 0 none := by
  obtain ⟨m, S, n, m', S', n', h1, h2, hB, ha, hx⟩ := h.both
  exact ⟨⟨m, S, n, m', S', n', h1, h2, hB, ha, fun _ h => by cases h⟩, h.at_, h.old, h.sz, fun _ h => by cases h⟩

/-- What a call did to the first one. -/
theorem TwoB.turn {w0 w w' : World} {B q p : Nat} {most : Int} {U : Value → Int} {x : Nat} {o : Option Obj} {m m' n' n1 : Nat} {S S' S1 : Nat → Prop} {T1 : Value → Int}
    (h2 : QS w p m' most U n' S') (hB : B ≤ m ∧ B ≤ m' ∧ (∀ c, S c → B ≤ c) ∧ ∀ c, S' c → B ≤ c) (ha : ∀ b, Foot q m S b → ¬ Foot p m' S' b) (hx : ∀ y, o = some y → ¬ Foot q m S x ∧ ¬ Foot p m' S' x) (hat : B ≤ q ∧ B ≤ p) (hold : Below B w0 w) (hsz : B ≤ w.heap.size) (hbs : ∀ y, o = some y → w.heap[x]? = some y)
    (hq : QS w' q m most T1 n1 S1) (hT : Turned w w' m S S1) : TwoB w0 w' B q p most T1 U x o := by
  obtain ⟨e1, e2⟩ := hT.below hB.1 hB.2.2.1 hsz
  have hoth : ∀ b, Foot p m' S' b → w'.heap[b]? = w.heap[b]? ∧ ¬ Foot q m S1 b := fun b hb => hT.other (h2.foot_lt hb) (fun hc => ha b hc hb)
  have hk := fun y hy => hT.other (lt_of (hbs y hy)) (hx y hy).1
  exact ⟨⟨m, S1, n1, m', S', n', hq, h2.keep (hoth p (Or.inl rfl)).1 (hoth m' (Or.inr (Or.inl rfl))).1 (fun c hc _ => (hoth c (Or.inr (Or.inr hc))).1) hT.size, ⟨hB.1, hB.2.1, e2, hB.2.2.2⟩, fun b hb hc => (hoth b hc).2 hb, fun y hy => ⟨(hk y hy).2, (hx y hy).2⟩⟩, hat, hold.trans e1, Nat.le_trans hsz hT.size, fun y hy => (hk y hy).1.trans (hbs y hy)⟩

def TwoTake (w0 : World) (B q p : Nat) (most : Int) (T U : Value → Int) (x : Nat) (o : Option Obj) (key : Value) (y : Int) (r : Bool) (e : Ending) (w' : World) : Prop :=
  e = .returned (.bool r) ∧ ∃ T', TwoB w0 w' B q p most T' U x o ∧ (∀ v, v ≠ key → T' v = T v) ∧ T' key = if r then T key + y else T key

theorem two_take {w0 w : World} {B q p : Nat} {most : Int} {T U : Value → Int} {x : Nat} {o : Option Obj} (key : ByteArray) (y : Int) (h : TwoB w0 w B q p most T U x o) (hk : key.size ≤ maxLen) {r : Bool} (hr : okB most (T (.string key)) y = r) :
    Calls Try.prog 15 #[.pointer (some ⟨q, 0, none⟩), .string key, .int .i64 y] w (TwoTake w0 B q p most T U x o (.string key) y r) := by
  obtain ⟨m, S, n, m', S', n', h1, h2, hB, ha, hx⟩ := h.both
  refine (take_any q m most T n S key y w h1 hk).mono ?_
  rintro e w' ⟨he, T1, n1, S1, hq, hT, hK⟩
  exact ⟨by rw [he, hr], T1, TwoB.turn h2 hB ha hx h.at_ h.old h.sz h.beside hq hT, hK.other, by rw [hK.same, hr]⟩

def TwoTick (w0 : World) (B q p : Nat) (most : Int) (U : Value → Int) (x : Nat) (o : Option Obj) (e : Ending) (w' : World) : Prop := e = .returned (.tuple #[]) ∧ TwoB w0 w' B q p most (fun _ => 0) U x o

theorem two_tick {w0 w : World} {B q p : Nat} {most : Int} {T U : Value → Int} {x : Nat} {o : Option Obj} (h : TwoB w0 w B q p most T U x o) :
    Calls Try.prog 17 #[.pointer (some ⟨q, 0, none⟩)] w (TwoTick w0 B q p most U x o) := by
  obtain ⟨m, S, n, m', S', n', h1, h2, hB, ha, hx⟩ := h.both
  refine (tick_any q m most T n S w h1).mono ?_
  rintro e w' ⟨rfl, hq, hT⟩
  exact ⟨rfl, TwoB.turn h2 hB ha hx h.at_ h.old h.sz h.beside hq hT⟩

theorem two_left {w0 w : World} {B q p : Nat} {most : Int} {T U : Value → Int} {x : Nat} {o : Option Obj} (key : ByteArray) (h : TwoB w0 w B q p most T U x o) (hk : key.size ≤ maxLen) {r : Int} (hr : most - T (.string key) = r) :
    Calls Try.prog 18 #[.pointer (some ⟨q, 0, none⟩), .string key] w fun e w' => e = .returned (.int .i64 r) ∧ ∃ j, w' = w.drewN j := by
  obtain ⟨m, S, n, m', S', n', h1, _⟩ := h.both
  exact hr ▸ left_any q m most T n S key w h1 hk

theorem TwoB.fits {w0 w : World} {B q p : Nat} {most : Int} {T U : Value → Int} {x : Nat} {o : Option Obj} (h : TwoB w0 w B q p most T U x o) (v : Value) : 0 ≤ T v ∧ T v ≤ most ∧ most ≤ 1099511627776 := by
  obtain ⟨m, S, n, m', S', n', h1, _⟩ := h.both
  exact ⟨(h1.fits v).1, (h1.fits v).2, h1.lim.2⟩

def TwoNew (w0 : World) (B q : Nat) (most : Int) (e : Ending) (w' : World) : Prop := ∃ p, e = .returned (.tuple #[.pointer (some ⟨p, 0, none⟩), .int .i64 0]) ∧ TwoB w0 w' B q p most (fun _ => 0) (fun _ => 0) 0 none

theorem two_new {w0 w : World} {q m : Nat} {most : Int} (hm : 0 ≤ most ∧ most ≤ 1099511627776) (hq : w0.heap.size ≤ q ∧ w0.heap.size ≤ m) (h : QS w q m most (fun _ => 0) 0 (fun _ => False)) (hb : Below w0.heap.size w0 w) :
    Calls Try.prog 14 #[.int .i64 most] w (TwoNew w0 w0.heap.size q most) := by
  refine (new_some most w hm).mono ?_
  rintro e w' ⟨p, m', rfl, hp, hm', hQ, hB⟩
  have g1 := h.below hB
  have l1 := h.lt
  have l2 := hQ.lt
  have sz0 := hb.size
  have szB := hB.size
  refine ⟨p, rfl, ⟨m, _, 0, m', _, 0, g1, hQ, ⟨hq.2, by omega, fun _ h => h.elim, fun _ h => h.elim⟩, ?_, fun _ h => by cases h⟩, ⟨hq.1, by omega⟩, hb.trans (hB.mono sz0), Nat.le_trans sz0 szB, fun _ h => by cases h⟩
  rintro b (rfl | rfl | hb) (e | e | e) <;> first | exact e.elim | exact hb.elim | omega

end Go.Proofs.Ythjechngpjkgnaa
