/- Layer 7: tables of numbers in memory; same, One. -/
import Derived.Test.YtjeonnlcajlghaaDoorPaD
namespace Go.Proofs.YtjeonnlcajlghaaDoor
open Go.RowKit Par

/-- The slice at A of n slices reads as a table: row r has L r numbers, T r c. All of it lies below block B. -/
def Grid (w : World) (B : Nat) (A : Option Addr) (n : Nat) (L : Nat → Nat) (T : Nat → Nat → Int) : Prop :=
  0 < n → ∃ a, A = some a ∧ a.block < B ∧ ∀ r, r < n → ∃ A' C, w.cell? (a.add r) = some (.slice A' (L r) C) ∧ L r ≤ 9223372036854775807 ∧ ∀ c, c < L r → ∃ a', A' = some a' ∧ a'.block < B ∧ w.cell? (a'.add c) = some (.int .i64 (T r c))

theorem add_block (a : Addr) (n : Nat) : (a.add n).block = a.block := by unfold Addr.add; split <;> rfl

theorem Grid.keep {w w' : World} {B n : Nat} {A : Option Addr} {L : Nat → Nat} {T : Nat → Nat → Int} (h : Grid w B A n L T) (hk : ∀ p : Addr, p.block < B → w'.cell? p = w.cell? p) : Grid w' B A n L T := fun hn => by
  obtain ⟨a, e, hb, hr⟩ := h hn
  refine ⟨a, e, hb, fun r hlt => ?_⟩
  obtain ⟨A', C, hc, hl, hx⟩ := hr r hlt
  refine ⟨A', C, (hk _ (by rw [add_block]; exact hb)).trans hc, hl, fun c hcl => ?_⟩
  obtain ⟨a', e', hb', hc'⟩ := hx c hcl
  exact ⟨a', e', hb', (hk _ (by rw [add_block]; exact hb')).trans hc'⟩
theorem Grid.below {w w' : World} {B n : Nat} {A : Option Addr} {L : Nat → Nat} {T : Nat → Nat → Int} (h : Grid w B A n L T) (hb : Below B w w') : Grid w' B A n L T := h.keep fun _ hp => hb.cell hp
theorem Grid.drewN {w : World} {B n : Nat} {A : Option Addr} {L : Nat → Nat} {T : Nat → Nat → Int} (h : Grid w B A n L T) (k : Nat) : Grid (w.drewN k) B A n L T := h.keep fun _ _ => rfl
theorem Grid.more {w : World} {B B' n : Nat} {A : Option Addr} {L : Nat → Nat} {T : Nat → Nat → Int} (h : Grid w B A n L T) (hB : B ≤ B') : Grid w B' A n L T := fun hn => by
  obtain ⟨a, e, hb, hr⟩ := h hn
  refine ⟨a, e, by omega, fun r hlt => ?_⟩
  obtain ⟨A', C, hc, hl, hx⟩ := hr r hlt
  refine ⟨A', C, hc, hl, fun c hcl => ?_⟩
  obtain ⟨a', e', hb', hc'⟩ := hx c hcl
  exact ⟨a', e', by omega, hc'⟩
theorem Grid.at_ {w : World} {B n : Nat} {A : Option Addr} {L : Nat → Nat} {T : Nat → Nat → Int} (h : Grid w B A n L T) {r : Nat} (hr : r < n) : ∃ a A' C, A = some a ∧ a.block < B ∧ w.cell? (a.add r) = some (.slice A' (L r) C) ∧ L r ≤ 9223372036854775807 ∧
    ∀ c, c < L r → ∃ a', A' = some a' ∧ a'.block < B ∧ w.cell? (a'.add c) = some (.int .i64 (T r c)) := by
  obtain ⟨a, e, hb, hx⟩ := h (by omega)
  obtain ⟨A', C, hc, hl, hy⟩ := hx r hr
  exact ⟨a, A', C, e, hb, hc, hl, hy⟩

/-- A slice of slices that reads as these lists. -/
def Tab (w : World) (B : Nat) (A : Option Addr) (l : List (List Nat)) : Prop := Grid w B A l.length (fun r => (l.getD r []).length) (fun r c => ((l.getD r []).getD c 0 : Nat))

theorem same_loop (A A' : Option Addr) (c d n B : Nat) (L : Nat → Nat) (T : Nat → Nat → Int) (w : World) (hn : n ≤ 1000000) (hL : ∀ r, r < n → L r ≤ 1000000) (h : Grid w B A n L T) (h' : Grid w B A' n L T) :
    Calls Tryd.prog 6 #[.slice A n c, .slice A' n d] w fun e w' => e = .returned (.bool true) ∧ ∃ j, w' = w.drewN j := by
  have HA := Lib.hid h
  have HB := Lib.hid h'
  have HL := Lib.hid hL
  clear h h' hL
  go_enter Tryd.func6, Tryd.ntmps6
  go_wp2
  go_loopw [5] (fun i wr => ∃ k j : Nat, k ≤ n ∧ i = .int .i64 k ∧ wr = w.drewN j) (fun i _ => n - (RowKit.intOf i).toNat)
  case atStart => exact ⟨0, 0, Nat.zero_le _, rfl, rfl⟩
  case round =>
    obtain ⟨k, j, hk, rfl, rfl⟩ := hrel
    by_cases hlt : k < n
    · obtain ⟨a, A1, C1, rfl, _, ca, hl, hx⟩ := HA.out.at_ hlt
      obtain ⟨b, A2, C2, rfl, _, cb, _, hy⟩ := HB.out.at_ hlt
      have hlm := HL.out k hlt
      have ca' : ∀ i : Nat, (w.drewN i).cell? (a.add k) = some (.slice A1 (L k) C1) := fun _ => ca
      have cb' : ∀ i : Nat, (w.drewN i).cell? (b.add k) = some (.slice A2 (L k) C2) := fun _ => cb
      have HX := Lib.hid hx
      have HY := Lib.hid hy
      have HTk : Hid (∃ f, f = T k) := Lib.hid ⟨_, rfl⟩
      generalize T k = f at HX HY
      generalize L k = m at *
      clear ca cb hx hy HTk hl
      go_wp2
      go_quiet (fail)
      go_wp2
      go_loopw [6] (fun i wr => ∃ t j : Nat, t ≤ m ∧ i = .int .i64 t ∧ wr = w.drewN j) (fun i _ => m - (RowKit.intOf i).toNat)
      case atStart => exact ⟨0, _, Nat.zero_le _, rfl, World.drewN_drewN _ _ _⟩
      case round =>
        obtain ⟨t, j, ht, rfl, rfl⟩ := hrel
        by_cases hlt2 : t < m
        · obtain ⟨p, rfl, _, cp⟩ := HX.out t hlt2
          obtain ⟨q, rfl, _, cq⟩ := HY.out t hlt2
          have cp' : ∀ i : Nat, (w.drewN i).cell? (p.add t) = some (.int .i64 (f t)) := fun _ => cp
          have cq' : ∀ i : Nat, (w.drewN i).cell? (q.add t) = some (.int .i64 (f t)) := fun _ => cq
          clear cp cq
          go_wp2
          go_quiet (fail)
          go_wp2
          go_roundw
          case rel => exact ⟨t + 1, _, by omega, by go_num, rfl⟩
          case measure => simp [RowKit.intOf]; omega
        · have htm : t = m := by omega
          subst htm
          go_wp2
          go_roundw
          case rel => exact ⟨k + 1, _, by omega, by go_num, rfl⟩
          case measure => simp [RowKit.intOf]; omega
    · have hkn : k = n := by omega
      subst hkn
      go_wp2
      go_ret
      exact ⟨rfl, _, rfl⟩

theorem same_yes {w : World} {B B' : Nat} {A A' : Option Addr} {l : List (List Nat)} (c d : Nat) (h : Tab w B A l) (h' : Tab w B' A' l) (hn : l.length ≤ 1000000) (hm : ∀ q ∈ l, q.length ≤ 1000000) :
    Calls Tryd.prog 6 #[.slice A l.length c, .slice A' l.length d] w fun e w' => e = .returned (.bool true) ∧ ∃ j, w' = w.drewN j := by
  refine same_loop A A' c d l.length (B + B') _ _ w hn (fun r hr => ?_) (Grid.more h (by omega)) (Grid.more h' (by omega))
  refine hm _ ?_
  simp [List.getD, List.getElem?_eq_getElem hr]

/-- What One answers. -/
def oneV (n : Nat) (L : Nat → Nat) (T : Nat → Nat → Int) (i x : Int) : Int := if i < 0 ∨ (n : Int) ≤ i then x else if L i.toNat = 0 ∨ T i.toNat 0 = 0 then x else T i.toNat 0

theorem one_any (n c B : Nat) (A : Option Addr) (L : Nat → Nat) (T : Nat → Nat → Int) (i x : Int) (w : World) (h : Grid w B A n L T) :
    Calls Tryd.prog 9 #[.slice A n c, .int .i64 i, .int .i64 x] w fun e w' => e = .returned (.int .i64 (oneV n L T i x)) ∧ ∃ j, w' = w.drewN j := by
  by_cases h0 : i < 0
  · have d0 : decide (i < 0) = true := by simpa using h0
    have E : Hid (oneV n L T i x = x) := Lib.hid (by unfold oneV; rw [if_pos (Or.inl h0)])
    clear h h0
    go_enter Tryd.func9, Tryd.ntmps9
    go_wp2
    go_ret
    exact ⟨by rw [E.out]; rfl, 0, rfl⟩
  by_cases h1 : (n : Int) ≤ i
  · have d0 : decide (i < 0) = false := by simpa using h0
    have d1 : decide ((n : Int) ≤ i) = true := by simpa using h1
    have E : Hid (oneV n L T i x = x) := Lib.hid (by unfold oneV; rw [if_pos (Or.inr h1)])
    clear h h0 h1
    go_enter Tryd.func9, Tryd.ntmps9
    go_wp2
    go_ret
    exact ⟨by rw [E.out]; rfl, 0, rfl⟩
  obtain ⟨k, rfl⟩ : ∃ k : Nat, i = (k : Int) := ⟨i.toNat, by omega⟩
  have hk : k < n := by omega
  obtain ⟨a, A1, C1, rfl, _, ca, hl, hx⟩ := h.at_ hk
  have d0 : decide ((k : Int) < 0) = false := by simp
  have d1 : decide ((n : Int) ≤ (k : Int)) = false := by simp; omega
  have EE : oneV n L T k x = if L k = 0 ∨ T k 0 = 0 then x else T k 0 := by unfold oneV; rw [if_neg (by omega)]; rfl
  by_cases hl0 : L k = 0
  · have E : Hid (oneV n L T k x = x) := Lib.hid (by rw [EE, if_pos (Or.inl hl0)])
    rw [hl0] at ca
    clear h hx EE h0 h1 hl hl0
    go_enter Tryd.func9, Tryd.ntmps9
    go_wp2
    go_ret
    exact ⟨by rw [E.out]; rfl, 0, rfl⟩
  obtain ⟨b, rfl, _, cb⟩ := hx 0 (by omega)
  have hab : b.add 0 = b := by unfold Addr.add; rfl
  rw [hab] at cb
  generalize T k 0 = t at *
  generalize L k = m at *
  have d2 : ((m : Int) == 0) = false := by simpa using hl0
  have hm : 0 < m := by omega
  by_cases ht : t = 0
  · have E : Hid (oneV n L T k x = x) := Lib.hid (by rw [EE, if_pos (Or.inr ht)])
    subst ht
    clear h hx EE h0 h1 hl0
    go_enter Tryd.func9, Tryd.ntmps9
    go_wp2
    go_ret
    exact ⟨by rw [E.out]; rfl, 0, rfl⟩
  · have E : Hid (oneV n L T k x = t) := Lib.hid (by rw [EE, if_neg (by omega)])
    have d3 : (t == 0) = false := by simpa using ht
    clear h hx EE h0 h1 hl0 ht
    go_enter Tryd.func9, Tryd.ntmps9
    go_wp2
    go_ret
    exact ⟨by rw [E.out]; rfl, 0, rfl⟩
end Go.Proofs.YtjeonnlcajlghaaDoor
