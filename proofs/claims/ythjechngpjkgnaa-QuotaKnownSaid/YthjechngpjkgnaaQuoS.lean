/- Layer 3: Take of a quota with keys of type api.Pane; a quota of the call's own. -/
import Derived.Test.YthjechngpjkgnaaQuoR
namespace Go.Proofs.Ythjechngpjkgnaa.OfPane
open Go.RowKit Go.Maps Go.ChangeMaps

def TakePost (w : World) (q m : Nat) (most : Int) (T : Value → Int) (n : Nat) (S : Nat → Prop) (key : Value) (x : Int) (e : Ending) (w' : World) : Prop :=
  e = .returned (.bool (okB most (T key) x)) ∧ ∃ T' n' S', QP w' q m most T' n' S' ∧ Turned w w' m S S' ∧ Taken most T T' n n' key x

theorem turned_below {w w' : World} (h : Below w.heap.size w w') (m : Nat) (S : Nat → Prop) : Turned w w' m S S := ⟨h.os, h.tape, h.output, h.size, fun b hb _ _ => h.block b hb, fun _ h => Or.inl h⟩

theorem take_any (q m : Nat) (most : Int) (T : Value → Int) (n : Nat) (S : Nat → Prop) (a b c : Int) (kl : Lit) (x : Int) (w : World) (h : QP w q m most T n S) (hk : keyOf Try.prog 27 (key a b c) = some kl) :
    Calls Try.prog 8 #[.pointer (some ⟨q, 0, none⟩), .agg #[.int .i64 a, .int .i64 b, .int .i64 c], .int .i64 x] w (TakePost w q m most T n S (key a b c) x) := by
  have hb0 : Below w.heap.size w (w.alloc (box a b c)) := (Below.refl _ _).alloc (Nat.le_refl _) _
  have h1 : QP (w.alloc (box a b c)) q m most T n S := h.below hb0
  by_cases hx0 : x < 0
  · have HP : Hid (TakePost w q m most T n S (key a b c) x (.returned (.bool false)) (w.alloc (box a b c))) := Lib.hid (by
      have hno : okB most (T (key a b c)) x = false := by simp [okB]; omega
      exact ⟨ret_bool hno.symm, T, n, S, h1, turned_below hb0 m S, taken_not hno⟩)
    clear h h1 hb0
    go_enter Try.func8, Try.ntmps8
    go_wp2_with fail
    go_ret
    exact HP.out
  have hf := h.fits (key a b c)
  have hlim := h.lim
  have HL := Lib.hid (left_any q m most T n S a b c kl _ h1 hk)
  have H1 := Lib.hid h1
  have H0 := Lib.hid hb0
  have HK := Lib.hid hk
  clear h h1 hb0 hk
  by_cases hx1 : most - T (key a b c) < x
  · have hno : Hid (okB most (T (key a b c)) x = false) := Lib.hid (by simp [okB]; omega)
    go_enter Try.func8, Try.ntmps8
    go_wp2_with fail
    refine HL.out.mono ?_
    rintro e w' ⟨rfl, hb⟩
    have HB := Lib.hid hb
    clear hb
    go_wp2_with fail
    go_ret
    exact ⟨ret_bool hno.out.symm, T, n, S, H1.out.below HB.out, turned_below (H0.out.trans (HB.out.mono (by simp))) m S, taken_not hno.out⟩
  by_cases hx2 : 0 < x
  · have HX : Hid (0 < x ∧ x ≤ most - T (key a b c)) := Lib.hid ⟨hx2, by omega⟩
    go_enter Try.func8, Try.ntmps8
    go_wp2_with fail
    refine HL.out.mono ?_
    rintro e w' ⟨rfl, hb⟩
    have d0 : w'.cell? ⟨w.heap.size, 0, none⟩ = some (.int .i64 a) := (hb.cell (p := ⟨w.heap.size, 0, none⟩) (by simp)).trans (by simp)
    have d1 : w'.cell? ⟨w.heap.size, 1, none⟩ = some (.int .i64 b) := (hb.cell (p := ⟨w.heap.size, 1, none⟩) (by simp)).trans (by simp)
    have d2 : w'.cell? ⟨w.heap.size, 2, none⟩ = some (.int .i64 c) := (hb.cell (p := ⟨w.heap.size, 2, none⟩) (by simp)).trans (by simp)
    have HA := Lib.hid (qadd_any q m most T n S a b c kl x _ (H1.out.below hb) HK.out HX.out)
    have HB := Lib.hid (H0.out.trans (hb.mono (by simp)))
    clear hb
    go_wp2_with fail
    refine HA.out.mono ?_
    rintro e w' ⟨rfl, T', n', S', hQ, hT, hK⟩
    have HP : Hid (TakePost w q m most T n S (key a b c) x (.returned (.bool true)) w') := Lib.hid (by
      obtain ⟨a, b⟩ := taken_of hK HX.out
      exact ⟨ret_bool a.symm, T', n', S', hQ, Turned.of_below HB.out hT, b⟩)
    clear hQ hT hK
    go_wp2_with fail
    go_ret
    exact HP.out
  · have hok : Hid (okB most (T (key a b c)) x = true) := Lib.hid (by simp [okB]; omega)
    have hxe : Hid (x = 0) := Lib.hid (by omega)
    go_enter Try.func8, Try.ntmps8
    go_wp2_with fail
    refine HL.out.mono ?_
    rintro e w' ⟨rfl, hb⟩
    have HB := Lib.hid hb
    clear hb
    go_wp2_with fail
    go_ret
    refine ⟨ret_bool hok.out.symm, T, n, S, H1.out.below HB.out, turned_below (H0.out.trans (HB.out.mono (by simp))) m S, ?_⟩
    rw [hxe.out]
    exact taken_zero

theorem Turned.below {w w' : World} {m B : Nat} {S S' : Nat → Prop} (h : Turned w w' m S S') (hm : B ≤ m) (hS : ∀ c, S c → B ≤ c) (hB : B ≤ w.heap.size) : Below B w w' ∧ ∀ c, S' c → B ≤ c :=
  ⟨⟨h.os, h.tape, h.output, h.size, fun k hk => h.block k (by omega) (by omega) (fun e => by have := hS k e; omega)⟩, fun c hc => (h.new c hc).elim (hS c) (fun e => by omega)⟩

/-- A quota of the call's own, beside a block p that is none of its parts: all of it lies from block B on; what was below B is as it was. -/
structure MineQ (w0 w : World) (B q : Nat) (most : Int) (T : Value → Int) (n : Nat) (p : Nat) (o : Obj) : Prop where
  quo : ∃ m S, QP w q m most T n S ∧ B ≤ m ∧ (∀ c, S c → B ≤ c) ∧ p ≠ m ∧ ¬ S p
  at_ : B ≤ q
  old : Below B w0 w
  sz : B ≤ w.heap.size
  beside : w.heap[p]? = some o

theorem MineQ.below {w0 w w' : World} {B q : Nat} {most : Int} {T : Value → Int} {n p : Nat} {o : Obj} (h : MineQ w0 w B q most T n p o) (hb : Below w.heap.size w w') : MineQ w0 w' B q most T n p o := by
  obtain ⟨m, S, hq, hm, hS, hp, hpS⟩ := h.quo
  exact ⟨⟨m, S, hq.below hb, hm, hS, hp, hpS⟩, h.at_, h.old.trans (hb.mono h.sz), Nat.le_trans h.sz hb.size, (hb.block p (lt_of h.beside)).trans h.beside⟩

def MineTake (w0 : World) (B q : Nat) (most : Int) (T : Value → Int) (n p : Nat) (o : Obj) (key : Value) (x : Int) (r : Bool) (e : Ending) (w' : World) : Prop :=
  e = .returned (.bool r) ∧ ∃ T' n', MineQ w0 w' B q most T' n' p o ∧ Taken most T T' n n' key x

theorem mine_take {w0 w : World} {B q : Nat} {most : Int} {T : Value → Int} {n p : Nat} {o : Obj} (a b c : Int) {kl : Lit} (x : Int) (h : MineQ w0 w B q most T n p o) (hk : keyOf Try.prog 27 (key a b c) = some kl) {r : Bool} (hr : okB most (T (key a b c)) x = r) :
    Calls Try.prog 8 #[.pointer (some ⟨q, 0, none⟩), .agg #[.int .i64 a, .int .i64 b, .int .i64 c], .int .i64 x] w (MineTake w0 B q most T n p o (key a b c) x r) := by
  obtain ⟨m, S, hq, hm, hS, hp, hpS⟩ := h.quo
  refine (take_any q m most T n S a b c kl x w hq hk).mono ?_
  rintro e w' ⟨he, T', n', S', hq', hT, hk'⟩
  obtain ⟨h1, h2⟩ := Turned.below hT hm hS h.sz
  have hlt := lt_of h.beside
  exact ⟨by rw [he, hr], T', n', ⟨⟨m, S', hq', hm, h2, hp, fun hs => (hT.new p hs).elim hpS (fun e => by omega)⟩, h.at_, h.old.trans h1, Nat.le_trans h.sz hT.size, (hT.block p hlt hp hpS).trans h.beside⟩, hk'⟩

theorem mine_keys {w0 w : World} {B q : Nat} {most : Int} {T : Value → Int} {n p : Nat} {o : Obj} (h : MineQ w0 w B q most T n p o) :
    Calls Try.prog 11 #[.pointer (some ⟨q, 0, none⟩)] w fun e w' => e = .returned (.int .i64 n) ∧ w = w' := by
  obtain ⟨m, S, hq, _⟩ := h.quo
  exact keys_any q m most T n S w hq

def MineNew (w : World) (most : Int) (e : Ending) (w' : World) : Prop := ∃ q, e = .returned (.tuple #[.pointer (some ⟨q, 0, none⟩), .int .i64 0]) ∧ ∀ o, MineQ w (w'.alloc o) w.heap.size q most (fun _ => 0) 0 w'.heap.size o

theorem mine_new {w : World} {most : Int} (hm : 0 ≤ most ∧ most ≤ 1099511627776) : Calls Try.prog 7 #[.int .i64 most] w (MineNew w most) := by
  refine (new_some most w hm).mono ?_
  rintro e w' ⟨q, m, rfl, hq, hm, hQ, hB⟩
  refine ⟨q, rfl, fun o => ?_⟩
  have hb : Below w'.heap.size w' (w'.alloc o) := (Below.refl _ _).alloc (Nat.le_refl _) _
  have hlt := hQ.lt
  exact ⟨⟨m, _, hQ.below hb, hm, fun _ h => h.elim, by omega, fun h => h⟩, hq, hB.trans (hb.mono hB.size), Nat.le_trans hB.size hb.size, (MapKept.heap_alloc _ _).1⟩

end Go.Proofs.Ythjechngpjkgnaa.OfPane
