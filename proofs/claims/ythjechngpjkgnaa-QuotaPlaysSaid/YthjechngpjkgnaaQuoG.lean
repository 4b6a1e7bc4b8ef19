/- Layer 3: a quota of the call's own; awake answers true. -/
import Derived.Test.YthjechngpjkgnaaQuoF
namespace Go.Proofs.Ythjechngpjkgnaa
open Go.RowKit Go.Maps Go.ChangeMaps

theorem Turned.below {w w' : World} {m B : Nat} {S S' : Nat → Prop} (h : Turned w w' m S S') (hm : B ≤ m) (hS : ∀ c, S c → B ≤ c) (hB : B ≤ w.heap.size) : Below B w w' ∧ ∀ c, S' c → B ≤ c :=
  ⟨⟨h.os, h.tape, h.output, h.size, fun k hk => h.block k (by omega) (by omega) (fun e => by have := hS k e; omega)⟩, fun c hc => (h.new c hc).elim (hS c) (fun e => by omega)⟩

/-- A quota of the call's own: all of it lies from block B on; what was below B is as it was. -/
structure MineQ (w0 w : World) (B q : Nat) (most : Int) (T : Value → Int) (n : Nat) : Prop where
  quo : ∃ m S, QS w q m most T n S ∧ B ≤ m ∧ ∀ c, S c → B ≤ c
  at_ : B ≤ q
  old : Below B w0 w
  sz : B ≤ w.heap.size

theorem MineQ.below {w0 w w' : World} {B q : Nat} {most : Int} {T : Value → Int} {n : Nat} (h : MineQ w0 w B q most T n) (hb : Below w.heap.size w w') : MineQ w0 w' B q most T n := by
  obtain ⟨m, S, hq, hm, hS⟩ := h.quo
  exact ⟨⟨m, S, hq.below hb, hm, hS⟩, h.at_, h.old.trans (hb.mono h.sz), Nat.le_trans h.sz hb.size⟩
theorem MineQ.drewN {w0 w : World} {B q : Nat} {most : Int} {T : Value → Int} {n : Nat} (h : MineQ w0 w B q most T n) (j : Nat) : MineQ w0 (w.drewN j) B q most T n := h.below (below_drew (Below.refl _ _) j)

def MineTake (w0 : World) (B q : Nat) (most : Int) (T : Value → Int) (n : Nat) (key : Value) (x : Int) (r : Bool) (e : Ending) (w' : World) : Prop :=
  e = .returned (.bool r) ∧ ∃ T' n', MineQ w0 w' B q most T' n' ∧ Taken most T T' n n' key x

theorem mine_take {w0 w : World} {B q : Nat} {most : Int} {T : Value → Int} {n : Nat} (key : ByteArray) (x : Int) (h : MineQ w0 w B q most T n) (hk : key.size ≤ maxLen) {r : Bool} (hr : okB most (T (.string key)) x = r) :
    Calls Try.prog 15 #[.pointer (some ⟨q, 0, none⟩), .string key, .int .i64 x] w (MineTake w0 B q most T n (.string key) x r) := by
  obtain ⟨m, S, hq, hm, hS⟩ := h.quo
  refine (take_any q m most T n S key x w hq hk).mono ?_
  rintro e w' ⟨he, T', n', S', hq', hT, hk'⟩
  obtain ⟨h1, h2⟩ := hT.below hm hS h.sz
  exact ⟨by rw [he, hr], T', n', ⟨⟨m, S', hq', hm, h2⟩, h.at_, h.old.trans h1, Nat.le_trans h.sz hT.size⟩, hk'⟩

theorem mine_left {w0 w : World} {B q : Nat} {most : Int} {T : Value → Int} {n : Nat} (key : ByteArray) (h : MineQ w0 w B q most T n) (hk : key.size ≤ maxLen) {r : Int} (hr : most - T (.string key) = r) :
    Calls Try.prog 18 #[.pointer (some ⟨q, 0, none⟩), .string key] w fun e w' => e = .returned (.int .i64 r) ∧ ∃ j, w' = w.drewN j := by
  obtain ⟨m, S, hq, hm, hS⟩ := h.quo
  exact hr ▸ left_any q m most T n S key w hq hk

theorem mine_keys {w0 w : World} {B q : Nat} {most : Int} {T : Value → Int} {n : Nat} (h : MineQ w0 w B q most T n) :
    Calls Try.prog 20 #[.pointer (some ⟨q, 0, none⟩)] w fun e w' => e = .returned (.int .i64 n) ∧ w = w' := by
  obtain ⟨m, S, hq, hm, hS⟩ := h.quo
  exact keys_any q m most T n S w hq

def MineTick (w0 : World) (B q : Nat) (most : Int) (e : Ending) (w' : World) : Prop := e = .returned (.tuple #[]) ∧ MineQ w0 w' B q most (fun _ => 0) 0

theorem mine_tick {w0 w : World} {B q : Nat} {most : Int} {T : Value → Int} {n : Nat} (h : MineQ w0 w B q most T n) :
    Calls Try.prog 17 #[.pointer (some ⟨q, 0, none⟩)] w (MineTick w0 B q most) := by
  obtain ⟨m, S, hq, hm, hS⟩ := h.quo
  refine (tick_any q m most T n S w hq).mono ?_
  rintro e w' ⟨rfl, hq', hT⟩
  obtain ⟨h1, h2⟩ := hT.below hm hS h.sz
  exact ⟨rfl, ⟨m, _, hq', hm, h2⟩, h.at_, h.old.trans h1, Nat.le_trans h.sz hT.size⟩

def MineNew (w0 : World) (B : Nat) (most : Int) (e : Ending) (w' : World) : Prop := ∃ q, e = .returned (.tuple #[.pointer (some ⟨q, 0, none⟩), .int .i64 0]) ∧ MineQ w0 w' B q most (fun _ => 0) 0

theorem mine_new {w0 w : World} {B : Nat} {most : Int} (hm : 0 ≤ most ∧ most ≤ 1099511627776) (hb : Below B w0 w) (hs : B ≤ w.heap.size) : Calls Try.prog 14 #[.int .i64 most] w (MineNew w0 B most) := by
  refine (new_some most w hm).mono ?_
  rintro e w' ⟨q, m, rfl, hq, hm, hQ, hB⟩
  exact ⟨q, rfl, ⟨m, _, hQ, Nat.le_trans hs hm, fun _ h => h.elim⟩, Nat.le_trans hs hq, hb.trans (hB.mono hs), Nat.le_trans hs hB.size⟩

def sA : ByteArray := ⟨#[97]⟩
def sB : ByteArray := ⟨#[98]⟩
theorem ab : (Value.string sB) ≠ .string sA := by
  intro h
  injection h with h
  have := congrArg ByteArray.data h
  simp [sA, sB] at this

set_option maxHeartbeats 800000 in
theorem awake_any (w : World) : Calls Try.prog 10 #[] w fun e w' => e = .returned (.bool true) ∧ Below w.heap.size w w' := by
  have hnot : ∀ (x : Bool) (w : World), (Op.unary .not (.bool x)).run Try.prog w = .ok (.bool (!x)) w := fun _ _ => rfl
  go_enter Try.func10, Try.ntmps10
  go_wp2_with fail
  refine (mine_new (w0 := w) (B := w.heap.size) (by omega) (Below.refl _ _) (Nat.le_refl _)).mono ?_
  rintro e w1 ⟨q, rfl, hM⟩
  have H1 := Lib.hid (mine_take sA 3 hM (by decide) (r := true) (by decide))
  clear hM
  go_wp2_with fail
  refine H1.out.mono ?_
  rintro e w2 ⟨rfl, T1, n1, hM, hK⟩
  have a1 : T1 (.string sA) = 3 := hK.same.trans (by decide)
  have b1 : T1 (.string sB) = 0 := hK.other _ ab
  have m1 : n1 = 1 := hK.keys.trans (by simp [okB])
  have H2 := Lib.hid (mine_take sA 3 hM (by decide) (r := false) (by rw [a1]; decide))
  have A1 := Lib.hid a1
  have B1 := Lib.hid b1
  have N1 := Lib.hid m1
  clear hM hK H1 a1 b1 m1
  go_wp2_with fail
  refine H2.out.mono ?_
  rintro e w3 ⟨rfl, T2, n2, hM, hK⟩
  have a2 : T2 (.string sA) = 3 := hK.same.trans (by rw [A1.out]; decide)
  have b2 : T2 (.string sB) = 0 := (hK.other _ ab).trans B1.out
  have m2 : n2 = 1 := hK.keys.trans (by rw [A1.out, N1.out]; simp)
  have H3 := Lib.hid (mine_take sB 5 hM (by decide) (r := true) (by rw [b2]; decide))
  have A2 := Lib.hid a2
  have B2 := Lib.hid b2
  have N2 := Lib.hid m2
  clear hM hK H2 a2 b2 m2 A1 B1 N1
  go_wp2_with fail
  refine H3.out.mono ?_
  rintro e w4 ⟨rfl, T3, n3, hM, hK⟩
  have a3 : T3 (.string sA) = 3 := (hK.other _ (fun e => ab e.symm)).trans A2.out
  have m3 : n3 = 2 := hK.keys.trans (by rw [B2.out, N2.out]; simp [okB])
  subst m3
  have H4 := Lib.hid (mine_left sA hM (by decide) (r := 2) (by rw [a3]; decide))
  have HM := Lib.hid hM
  clear hM hK H3 A2 B2 N2 a3
  go_wp2_with fail
  refine H4.out.mono ?_
  rintro e w5 ⟨rfl, j, rfl⟩
  go_wp2_with fail
  refine (mine_keys (HM.out.drewN j)).mono ?_
  rintro e w6 ⟨rfl, rfl⟩
  go_wp2_with fail
  refine (mine_tick (HM.out.drewN j)).mono ?_
  rintro e w7 ⟨rfl, hM⟩
  have H5 := Lib.hid (mine_left sA hM (by decide) (r := 5) (by decide))
  have HO := Lib.hid hM.old
  clear hM H4 HM
  go_wp2_with fail
  refine H5.out.mono ?_
  rintro e w8 ⟨rfl, i, rfl⟩
  go_wp2_with fail
  go_ret
  exact ⟨rfl, below_drew HO.out i⟩

end Go.Proofs.Ythjechngpjkgnaa
