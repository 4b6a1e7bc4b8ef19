/- Layer 1, plain mathematics: the laws of a lattice, for a table that makes one. -/
import Derived.Test.YtnccnaadhknfbaaLatT
namespace Go.Proofs.Ytnccnaadhknfbaa
open Lat

/-- x is the join of a and b. -/
structure IsLub (n : Nat) (T : Nat → Nat → Bool) (a b x : Nat) : Prop where
  lt : x < n
  left : T a x = true
  right : T b x = true
  least : ∀ y, y < n → T a y = true → T b y = true → T x y = true

/-- The table makes a lattice. -/
structure Ltc (n : Nat) (T : Nat → Nat → Bool) : Prop where
  pos : 1 ≤ n
  refl : ∀ a, a < n → T a a = true
  anti : ∀ a b, a < n → b < n → T a b = true → T b a = true → a = b
  trans : ∀ a b c, a < n → b < n → c < n → T a b = true → T b c = true → T a c = true
  lub : ∀ a b, a < n → b < n → ∃ x, IsLub n T a b x
  glb : ∀ a b, a < n → b < n → ∃ x, IsLub n (flipT T) a b x

theorem Ltc.flip {n : Nat} {T : Nat → Nat → Bool} (h : Ltc n T) : Ltc n (flipT T) :=
  ⟨h.pos, h.refl, fun a b ha hb h1 h2 => h.anti a b ha hb h2 h1, fun a b c ha hb hc h1 h2 => h.trans c b a hc hb ha h2 h1, h.glb, h.lub⟩

theorem fits_iff {n : Nat} {T : Nat → Nat → Bool} {a b x : Nat} (hx : x < n) : ((T a x && T b x) && onSide n (fun y => T a y && T b y) (T x)) = true ↔ IsLub n T a b x := by
  rw [Bool.and_eq_true, Bool.and_eq_true, onSide_iff]
  constructor
  · rintro ⟨⟨h1, h2⟩, h3⟩
    exact ⟨hx, h1, h2, fun y hy ha hb => h3 y hy (by rw [ha, hb]; rfl)⟩
  · rintro ⟨_, h1, h2, h3⟩
    refine ⟨⟨h1, h2⟩, fun y hy h => ?_⟩
    rw [Bool.and_eq_true] at h
    exact h3 y hy h.1 h.2

theorem lub_of_join {n : Nat} {T : Nat → Nat → Bool} {a b : Nat} (h : 0 ≤ joinT n T a b) : ∃ x, IsLub n T a b x := by
  unfold joinT near at h
  rcases first_cases n (fun x => (T a x && T b x) && onSide n (fun y => T a y && T b y) (T x)) with ⟨e, _⟩ | ⟨k, hk, e, hp, _⟩
  · rw [e] at h; omega
  · exact ⟨k, (fits_iff hk).1 hp⟩

theorem Ltc.join {n : Nat} {T : Nat → Nat → Bool} (h : Ltc n T) {a b x : Nat} (hx : IsLub n T a b x) : joinT n T a b = x := by
  unfold joinT near
  rcases first_cases n (fun x => (T a x && T b x) && onSide n (fun y => T a y && T b y) (T x)) with ⟨_, hn⟩ | ⟨k, hk, e, hp, _⟩
  · have := hn x hx.lt
    rw [(fits_iff hx.lt).2 hx] at this
    cases this
  · rw [e]
    have hl := (fits_iff hk).1 hp
    have : k = x := h.anti k x hk hx.lt (hl.least x hx.lt hx.left hx.right) (hx.least k hk hl.left hl.right)
    rw [this]

theorem ltc_of {n : Nat} {L : Nat → Nat} {T : Nat → Nat → Bool} (h : newErr n L T = 0) : Ltc n T := by
  obtain ⟨h1, _, _, ho, hb⟩ := newErr_zero h
  have ho := (order_iff n T).1 ho
  have hb : ∀ a, a < n → ∀ b, b < n → 0 ≤ joinT n T a b ∧ 0 ≤ joinT n (flipT T) a b := fun a ha b hb' => by
    have := (all_range_iff _ _).1 ((all_range_iff _ _).1 hb a ha) b hb'
    simpa [boundedAt] using this
  refine ⟨h1, fun a ha => (ho a ha).1, fun a b ha hb' h1 h2 => ?_, fun a b c ha hb' hc h1 h2 => ((ho a ha).2 b hb').2 c hc h1 h2, fun a b ha hb' => lub_of_join (hb a ha b hb').1, fun a b ha hb' => lub_of_join (hb a ha b hb').2⟩
  by_cases e : a = b
  · exact e
  · have := ((ho a ha).2 b hb').1 e h1
    rw [h2] at this
    cases this

theorem IsLub.comm {n : Nat} {T : Nat → Nat → Bool} {a b x : Nat} (h : IsLub n T a b x) : IsLub n T b a x := ⟨h.lt, h.right, h.left, fun y hy hb ha => h.least y hy ha hb⟩

theorem Ltc.assoc {n : Nat} {T : Nat → Nat → Bool} (h : Ltc n T) {a b c p q r : Nat} (ha : a < n) (hb : b < n) (hc : c < n) (hp : IsLub n T a b p) (hq : IsLub n T b c q) (hr : IsLub n T p c r) : IsLub n T a q r where
  lt := hr.lt
  left := h.trans a p r ha hp.lt hr.lt hp.left hr.left
  right := hq.least r hr.lt (h.trans b p r hb hp.lt hr.lt hp.right hr.left) hr.right
  least := fun y hy h1 h2 => hr.least y hy (hp.least y hy h1 (h.trans b q y hb hq.lt hy hq.left h2)) (h.trans c q y hc hq.lt hy hq.right h2)

theorem Ltc.absorb {n : Nat} {T : Nat → Nat → Bool} (h : Ltc n T) {a b m : Nat} (ha : a < n) (hm : IsLub n (flipT T) a b m) : IsLub n T a m a := ⟨ha, h.refl a ha, hm.left, fun _ _ h1 _ => h1⟩

theorem Ltc.of_below {n : Nat} {T : Nat → Nat → Bool} (h : Ltc n T) {a b : Nat} (hb : b < n) (hab : T a b = true) : IsLub n T a b b := ⟨hb, hab, h.refl b hb, fun _ _ _ h2 => h2⟩

theorem Ltc.not_below {n : Nat} {T : Nat → Nat → Bool} {a b p : Nat} (hp : IsLub n T a b p) (hab : T a b = false) : p ≠ b := by
  rintro rfl
  rw [hp.left] at hab
  cases hab

theorem Ltc.above {n : Nat} {T : Nat → Nat → Bool} (h : Ltc n T) : ∀ k, k ≤ n → ∃ x, x < n ∧ ∀ y, y < k → T y x = true
  | 0, _ => ⟨0, h.pos, fun y hy => by omega⟩
  | k + 1, hk => by
    obtain ⟨x, hx, hy⟩ := h.above k (by omega)
    obtain ⟨z, hz⟩ := h.lub x k hx (by omega)
    refine ⟨z, hz.lt, fun y hyk => ?_⟩
    by_cases e : y = k
    · subst e; exact hz.right
    · exact h.trans y x z (by omega) hx hz.lt (hy y (by omega)) hz.left

/-- The label above all. -/
theorem Ltc.top {n : Nat} {T : Nat → Nat → Bool} (h : Ltc n T) : ∃ x, x < n ∧ endT n (flipT T) = x ∧ ∀ y, y < n → T y x = true := by
  obtain ⟨x, hx, hy⟩ := h.above n (Nat.le_refl _)
  have key : ∀ z, z < n → ((fun x => (fun _ : Nat => true) x && onSide n (fun _ => true) (flipT T x)) z = true ↔ ∀ y, y < n → T y z = true) := fun z hz => by
    simp only [Bool.true_and]
    rw [onSide_iff]
    exact ⟨fun hh y hy => hh y hy rfl, fun hh y hy _ => hh y hy⟩
  unfold endT near
  rcases first_cases n (fun x => (fun _ : Nat => true) x && onSide n (fun _ => true) (flipT T x)) with ⟨_, hn⟩ | ⟨k, hk, e, hp, _⟩
  · have h1 := hn x hx
    have h2 := (key x hx).2 hy
    exact absurd (h2.symm.trans h1) (by simp)
  · exact ⟨k, hk, e, (key k hk).1 hp⟩
end Go.Proofs.Ytnccnaadhknfbaa
