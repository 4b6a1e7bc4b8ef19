/- Layer 3: a quota of the call's own beside the document's. -/
import Derived.Test.YthjechngpjkgnaaRefT
namespace Go.Proofs.Ythjechngpjkgnaa
open Go.RowKit Go.Maps Go.ChangeMaps

/-- A quota and the document's, of the call's own: all of both lies from block B on, and they share nothing. -/
structure DuoQ (w0 w : World) (B q r : Nat) (most : Int) (T : Value → Int) (n : Nat) (l : List Tk) : Prop where
  both : ∃ m S v, QS w q m most T n S ∧ IsR w r most v l ∧ B ≤ m ∧ (∀ c, S c → B ≤ c) ∧ (∀ g, v.ownBlock = some g → B ≤ g) ∧ ¬ Foot q m S r ∧ ∀ g, v.ownBlock = some g → ¬ Foot q m S g
  at_ : B ≤ q ∧ B ≤ r
  old : Below B w0 w
  sz : B ≤ w.heap.size

/-- Both say the same. -/
structure Sync (most : Int) (T : Value → Int) (n : Nat) (l : List Tk) : Prop where
  left : ∀ key, T (.string key) = tk key l
  keys : n = nk l
  good : Good l

section
variable {w0 w w' : World} {B q r : Nat} {most : Int} {T : Value → Int} {n : Nat} {l : List Tk}

theorem DuoQ.below (h : DuoQ w0 w B q r most T n l) (hb : Below w.heap.size w w') : DuoQ w0 w' B q r most T n l := by
  obtain ⟨m, S, v, h1, h2, h3⟩ := h.both
  exact ⟨⟨m, S, v, h1.below hb, h2.below hb, h3⟩, h.at_, h.old.trans (hb.mono h.sz), Nat.le_trans h.sz hb.size⟩
theorem DuoQ.drewN (h : DuoQ w0 w B q r most T n l) (j : Nat) : DuoQ w0 (w.drewN j) B q r most T n l := h.below (below_drew (Below.refl _ _) j)
theorem DuoQ.drew (h : DuoQ w0 w B q r most T n l) : DuoQ w0 w.drew B q r most T n l := h.below ⟨rfl, rfl, rfl, Nat.le_refl _, fun _ _ => rfl⟩

theorem DuoQ.fits (h : DuoQ w0 w B q r most T n l) (v : Value) : 0 ≤ T v ∧ T v ≤ most ∧ most ≤ 1099511627776 := by
  obtain ⟨m, S, v', h1, _⟩ := h.both
  exact ⟨(h1.fits v).1, (h1.fits v).2, h1.lim.2⟩

/-- What a call did to the first one. -/
theorem DuoQ.turn {m : Nat} {S S1 : Nat → Prop} {v : Value} {T1 : Value → Int} {n1 : Nat} (h2 : IsR w r most v l) (hB : B ≤ m ∧ (∀ c, S c → B ≤ c) ∧ (∀ g, v.ownBlock = some g → B ≤ g) ∧ ¬ Foot q m S r ∧ ∀ g, v.ownBlock = some g → ¬ Foot q m S g)
    (hat : B ≤ q ∧ B ≤ r) (hold : Below B w0 w) (hsz : B ≤ w.heap.size) (hq : QS w' q m most T1 n1 S1) (hT : Turned w w' m S S1) : DuoQ w0 w' B q r most T1 n1 l := by
  obtain ⟨b1, b2, b3, b4, b5⟩ := hB
  obtain ⟨e1, e2⟩ := hT.below b1 b2 hsz
  have hr := hT.other (q := q) (lt_of h2.blk) b4
  have hg := fun g (hg : v.ownBlock = some g) => hT.other (q := q) (tks_lt h2.own hg) (b5 g hg)
  exact ⟨⟨m, S1, v, hq, h2.keep hr.1 fun g hv => (hg g hv).1, b1, e2, b3, hr.2, fun g hv => (hg g hv).2⟩, hat, hold.trans e1, Nat.le_trans hsz hT.size⟩

/-- What a call did to the document's. -/
theorem DuoQ.move {m : Nat} {S : Nat → Prop} {v v1 : Value} {l1 : List Tk} (h1 : QS w q m most T n S) (hB : B ≤ m ∧ (∀ c, S c → B ≤ c) ∧ (∀ g, v.ownBlock = some g → B ≤ g) ∧ ¬ Foot q m S r ∧ ∀ g, v.ownBlock = some g → ¬ Foot q m S g)
    (hat : B ≤ q ∧ B ≤ r) (hold : Below B w0 w) (hsz : B ≤ w.heap.size) (hr : IsR w' r most v1 l1) (hM : Moved w w' r v v1) : DuoQ w0 w' B q r most T n l1 := by
  obtain ⟨b1, b2, b3, b4, b5⟩ := hB
  have hk : ∀ b, Foot q m S b → w'.heap[b]? = w.heap[b]? := fun b hb => hM.block b (h1.foot_lt hb) (fun e => b4 (e ▸ hb)) (fun e => b5 b e hb)
  have hv1 : ∀ g, v1.ownBlock = some g → B ≤ g ∧ ¬ Foot q m S g := fun g hg => by
    rcases hM.own g hg with e | e
    · exact ⟨b3 g e, b5 g e⟩
    · exact ⟨by omega, fun hf => absurd (h1.foot_lt hf) (by omega)⟩
  refine ⟨⟨m, S, v1, h1.keep (hk q (Or.inl rfl)) (hk m (Or.inr (Or.inl rfl))) (fun c hc _ => hk c (Or.inr (Or.inr hc))) hM.size, hr, b1, b2, fun g hg => (hv1 g hg).1, b4, fun g hg => (hv1 g hg).2⟩, hat, hold.trans ⟨hM.os, hM.tape, hM.output, hM.size, fun k hk => hM.block k (by omega) (by omega) (fun e => by have := b3 k e; omega)⟩, Nat.le_trans hsz hM.size⟩

def DuoTake (w0 : World) (B q r : Nat) (most : Int) (T : Value → Int) (n : Nat) (l : List Tk) (key : Value) (x : Int) (b : Bool) (e : Ending) (w' : World) : Prop :=
  e = .returned (.bool b) ∧ ∃ T' n', DuoQ w0 w' B q r most T' n' l ∧ Taken most T T' n n' key x

theorem duo_take (key : ByteArray) (x : Int) (h : DuoQ w0 w B q r most T n l) (hk : key.size ≤ maxLen) {b : Bool} (hb : okB most (T (.string key)) x = b) :
    Calls Try.prog 15 #[.pointer (some ⟨q, 0, none⟩), .string key, .int .i64 x] w (DuoTake w0 B q r most T n l (.string key) x b) := by
  obtain ⟨m, S, v, h1, h2, h3⟩ := h.both
  refine (take_any q m most T n S key x w h1 hk).mono ?_
  rintro e w' ⟨he, T1, n1, S1, hq, hT, hK⟩
  exact ⟨by rw [he, hb], T1, n1, DuoQ.turn h2 h3 h.at_ h.old h.sz hq hT, hK⟩

def DuoRTake (w0 : World) (B q r : Nat) (most : Int) (T : Value → Int) (n : Nat) (l : List Tk) (key : ByteArray) (x : Int) (b : Bool) (e : Ending) (w' : World) : Prop :=
  e = .returned (.bool b) ∧ DuoQ w0 w' B q r most T n (takeL most l key x)

theorem duo_rtake (key : ByteArray) (x : Int) (h : DuoQ w0 w B q r most T n l) (hG : Good l) (hm : tk key l ≤ most) (hlen : l.length ≤ 300) {b : Bool} (hb : okB most (tk key l) x = b) :
    Calls Try.prog 16 #[.pointer (some ⟨r, 0, none⟩), .string key, .int .i64 x] w (DuoRTake w0 B q r most T n l key x b) := by
  obtain ⟨m, S, v, h1, h2, h3⟩ := h.both
  refine (rtake_any key x h2 hG ⟨hm, h1.lim.2⟩ hlen hb).mono ?_
  rintro e w' ⟨v1, he, hr, hM⟩
  exact ⟨he, DuoQ.move h1 h3 h.at_ h.old h.sz hr hM⟩

def DuoTick (w0 : World) (B q r : Nat) (most : Int) (l : List Tk) (e : Ending) (w' : World) : Prop := e = .returned (.tuple #[]) ∧ DuoQ w0 w' B q r most (fun _ => 0) 0 l

theorem duo_tick (h : DuoQ w0 w B q r most T n l) : Calls Try.prog 17 #[.pointer (some ⟨q, 0, none⟩)] w (DuoTick w0 B q r most l) := by
  obtain ⟨m, S, v, h1, h2, h3⟩ := h.both
  refine (tick_any q m most T n S w h1).mono ?_
  rintro e w' ⟨rfl, hq, hT⟩
  exact ⟨rfl, DuoQ.turn h2 h3 h.at_ h.old h.sz hq hT⟩

/-- The document's takes are let go. -/
theorem DuoQ.clear (h : DuoQ w0 w B q r most T n l) : DuoQ w0 (w.setCell ⟨r, 1, none⟩ (.slice none 0 0)) B q r most T n [] := by
  obtain ⟨m, S, v, h1, h2, h3⟩ := h.both
  exact DuoQ.move (v1 := .slice none 0 0) h1 h3 h.at_ h.old h.sz ⟨(blk_set h2.blk 1 _).trans rfl, rfl, Or.inl ⟨rfl, rfl⟩⟩ ⟨rfl, rfl, rfl, by simp [World.setCell], fun k _ hk _ => Below.heap_setCell w ⟨r, 1, none⟩ _ k hk, fun _ h => by simp [Value.ownBlock] at h⟩

theorem DuoQ.cells (h : DuoQ w0 w B q r most T n l) : (∃ v, w.cell? ⟨r, 1, none⟩ = some v) ∧ w.frozen? ⟨r, 1, none⟩ = false := by
  obtain ⟨m, S, v, h1, h2, h3⟩ := h.both
  exact ⟨⟨v, h2.cells.2⟩, frozen_of h2.blk 1⟩

theorem duo_left (key : ByteArray) (h : DuoQ w0 w B q r most T n l) (hk : key.size ≤ maxLen) {x : Int} (hx : most - T (.string key) = x) :
    Calls Try.prog 18 #[.pointer (some ⟨q, 0, none⟩), .string key] w fun e w' => e = .returned (.int .i64 x) ∧ ∃ j, w' = w.drewN j := by
  obtain ⟨m, S, v, h1, h2, h3⟩ := h.both
  exact hx ▸ left_any q m most T n S key w h1 hk

theorem duo_rleft (key : ByteArray) (h : DuoQ w0 w B q r most T n l) (hG : Good l) (hm : tk key l ≤ most) {x : Int} (hx : most - tk key l = x) :
    Calls Try.prog 19 #[.pointer (some ⟨r, 0, none⟩), .string key] w fun e w' => e = .returned (.int .i64 x) ∧ w = w' := by
  obtain ⟨m, S, v, h1, h2, h3⟩ := h.both
  exact hx ▸ rleft_any key h2 hG ⟨hm, h1.lim.2⟩

theorem duo_keys (h : DuoQ w0 w B q r most T n l) {x : Int} (hx : (n : Int) = x) : Calls Try.prog 20 #[.pointer (some ⟨q, 0, none⟩)] w fun e w' => e = .returned (.int .i64 x) ∧ w = w' := by
  obtain ⟨m, S, v, h1, h2, h3⟩ := h.both
  exact hx ▸ keys_any q m most T n S w h1

theorem duo_rkeys (h : DuoQ w0 w B q r most T n l) (hlen : l.length ≤ 300) {x : Int} (hx : (nk l : Int) = x) : Calls Try.prog 21 #[.pointer (some ⟨r, 0, none⟩)] w fun e w' => e = .returned (.int .i64 x) ∧ ∃ j, w' = w.drewN j := by
  obtain ⟨m, S, v, h1, h2, h3⟩ := h.both
  exact hx ▸ rkeys_any h2 hlen

/-- A take of both. -/
theorem Sync.take {T' : Value → Int} {n' : Nat} {key : ByteArray} {x : Int} (h : Sync most T n l) (hK : Taken most T T' n n' (.string key) x) : Sync most T' n' (takeL most l key x) := by
  have hl := h.left key
  have hh := had_iff key l h.good
  unfold takeL
  cases hb : okB most (tk key l) x with
  | false =>
    have hb' : okB most (T (.string key)) x = false := by rw [hl]; exact hb
    refine ⟨fun k => ?_, ?_, h.good⟩
    · by_cases e : k = key
      · subst e
        rw [hK.same, hb']
        exact h.left k
      · rw [hK.other _ (fun e' => e (by injection e'))]
        exact h.left k
    · rw [hK.keys, hb']
      exact h.keys
  | true =>
    have hb' : okB most (T (.string key)) x = true := by rw [hl]; exact hb
    have hx : 0 ≤ x := by
      simp [okB] at hb
      exact hb.1
    rw [if_pos rfl]
    refine ⟨fun k => ?_, ?_, h.good.snoc hx⟩
    · rw [tk_snoc]
      by_cases e : k = key
      · subst e
        rw [hK.same, hb', if_pos rfl, if_pos rfl, h.left k]
      · rw [hK.other _ (fun e' => e (by injection e')), h.left k, if_neg (fun e' => e e'.symm)]
        omega
    · rw [nk_snoc, hK.keys, hb', ← h.keys]
      simp only [true_and, hl]
      by_cases h0 : tk key l = 0
      · have := hh.2 h0
        by_cases hp : 0 < x <;> simp [hp, h0, this]
      · have : had key l = true := by
          cases hc : had key l
          · exact absurd (hh.1 hc) h0
          · rfl
        simp [h0, this]

theorem takeL_len (most : Int) (l : List Tk) (key : ByteArray) (x : Int) : (takeL most l key x).length ≤ l.length + 1 := by
  unfold takeL
  split <;> simp

theorem Sync.nil (most : Int) : Sync most (fun _ => 0) 0 [] := ⟨fun _ => rfl, rfl, Good.nil⟩

end
end Go.Proofs.Ythjechngpjkgnaa
