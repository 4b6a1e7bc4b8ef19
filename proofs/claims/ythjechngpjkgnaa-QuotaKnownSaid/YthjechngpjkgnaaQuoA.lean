/- Layer 3: a quota in memory: its struct, its map, the counters; small lemmas that all texts use. -/
import Derived.Test.YthjechngpjkgnaaProg
import Derived.WalkKit
import Derived.KernelRfl
import Derived.Lib.Hide
import Derived.Deep.QuietTactic
import Derived.BigQuiet
import Derived.Maps.OwnSet
import Derived.Laws.LoneSync
import Derived.Below
namespace Go.Proofs.Ythjechngpjkgnaa
open Go.RowKit Go.Maps Go.ChangeMaps

theorem ret_bool {a b : Bool} (h : a = b) : Ending.returned (.bool a) = .returned (.bool b) := by rw [h]
theorem ret_int {k : IntKind} {a b : Int} (h : a = b) : Ending.returned (.int k a) = .returned (.int k b) := by rw [h]
theorem cell_of {w : World} {b : Nat} {c : Array Value} {t : TypeId} (h : w.heap[b]? = some (.cells c t (0, 0))) (i : Nat) : w.cell? ⟨b, i, none⟩ = c[i]? := by simp [World.cell?, h]
theorem frozen_of {w : World} {b : Nat} {c : Array Value} {t : TypeId} (h : w.heap[b]? = some (.cells c t (0, 0))) (i : Nat) : w.frozen? ⟨b, i, none⟩ = false := by simp [World.frozen?, h]
theorem lt_of {w : World} {b : Nat} {o : Obj} (h : w.heap[b]? = some o) : b < w.heap.size := by
  obtain ⟨hlt, _⟩ := Array.getElem?_eq_some_iff.1 h
  exact hlt
theorem below_drew {B : Nat} {a w : World} (h : Below B a w) (n : Nat) : Below B a (w.drewN n) := ⟨h.os, h.tape, h.output, h.size, h.block⟩

/-! ### a map's entries, in the model's own words -/
section
variable {P : Program} {k t e : TypeId} {w : World} {b : Nat} {es : Array MapEntry} {clock : Nat}

theorem look_raw (K : Keyed P k) (ht : P.underlying t = some (.map k e)) {z : Value} (hz : (zeroValue e).run P w = .ok z w) (hb : w.heap[b]? = some (.map es clock)) (hk : ∀ x ∈ es.toList, ∃ l, keyOf P k x.key = some l)
    {key : Value} {kl : Lit} (hkey : keyOf P k key = some kl) :
    ((Instr.lookup t (.map (some b)) key false).run P w = .ok z w ∧ ∀ x ∈ es.toList, x.key ≠ key) ∨
    ∃ e0 ∈ es.toList, e0.key = key ∧ (Instr.lookup t (.map (some b)) key false).run P w = .ok e0.val w := by
  rcases K.find w hkey es.toList hk with ⟨h1, h2⟩ | ⟨j, e0, h1, h2, h3⟩
  · exact Or.inl ⟨by simp [Instr.lookup, run_underlying ht, MapKept.run_getObj_map hb, K.check w _ hkey, h1, hz, Result.andThen], h2⟩
  · exact Or.inr ⟨e0, List.mem_of_getElem? h2, h3, by simp [Instr.lookup, run_underlying ht, MapKept.run_getObj_map hb, K.check w _ hkey, h1, Result.andThen]⟩

theorem store_raw (K : Keyed P k) (ht : P.underlying t = some (.map k e)) (hb : w.heap[b]? = some (.map es clock)) (hk : ∀ x ∈ es.toList, ∃ l, keyOf P k x.key = some l)
    {key val : Value} {kl : Lit} (hkey : keyOf P k key = some kl) (hno : ∀ x ∈ es.toList, x.key ≠ key) :
    (Instr.mapUpdate t (.map (some b)) key val).run P w = .ok () (setBlock w b (.map (es.push ⟨key, val, clock⟩) (clock + 1))) := by
  rcases K.find w hkey es.toList hk with ⟨h1, h2⟩ | ⟨j, e0, h1, h2, h3⟩
  · simp [Instr.mapUpdate, run_underlying ht, MapKept.run_getObj_map hb, K.check w false hkey, h1, MapKept.run_setObj_map _ hb, Result.andThen, setBlock]
  · exact absurd h3 (hno e0 (List.mem_of_getElem? h2))

theorem clear_raw (ht : P.underlying t = some (.map k e)) (hb : w.heap[b]? = some (.map es clock)) (ty : TypeId) :
    (Builtin.clear_ #[t] ty #[.map (some b)]).run P w = .ok (.tuple #[]) (setBlock w b (.map #[] clock)) := by
  simp [Builtin.clear_, run_underlying ht, MapKept.run_getObj_map hb, MapKept.run_setObj_map _ hb, Result.andThen, setBlock]

theorem clear_none (ht : P.underlying t = some (.map k e)) (w : World) (ty : TypeId) :
    (Builtin.clear_ #[t] ty #[.map none]).run P w = .ok (.tuple #[]) w := by
  simp [Builtin.clear_, run_underlying ht, Result.andThen]

theorem len_raw (ht : P.underlying t = some (.map k e)) (hb : w.heap[b]? = some (.map es clock)) (ty : TypeId) :
    (Builtin.len_ #[t] ty #[.map (some b)]).run P w = .ok (.int .i64 es.size) w := by
  simp [Builtin.len_, run_underlying ht, MapKept.run_getObj_map hb, goInt, Result.andThen]

end

/-- The entries of a quota's map: each key's counter is a block of its own (S) that holds what was taken (T), more than 0; for what is no key nothing was taken. -/
structure Counts (k : TypeId) (w : World) (es : Array MapEntry) (T : Value → Int) (S : Nat → Prop) : Prop where
  keys : ∀ x ∈ es.toList, ∃ l, keyOf Try.prog k x.key = some l
  vals : ∀ x ∈ es.toList, ∃ c, x.val = .pointer (some ⟨c, 0, none⟩) ∧ S c ∧ w.heap[c]? = some (.cells #[.int .i64 (T x.key)] 75 (0, 0)) ∧ 0 < T x.key
  gone : ∀ v, (∀ x ∈ es.toList, x.key ≠ v) → T v = 0
  apart : ∀ x ∈ es.toList, ∀ y ∈ es.toList, x.val = y.val → x.key = y.key
  once : ∀ x ∈ es.toList, ∀ y ∈ es.toList, x.key = y.key → x.val = y.val

/-- A quota in memory: q its struct, m its map, n its keys. -/
structure IsQ (tq k : TypeId) (w : World) (q m : Nat) (most : Int) (T : Value → Int) (n : Nat) (S : Nat → Prop) : Prop where
  blk : w.heap[q]? = some (.cells #[.int .i64 most, .map (some m)] tq (0, 0))
  ent : ∃ es clock, w.heap[m]? = some (.map es clock) ∧ es.size = n ∧ Counts k w es T S
  lim : 0 ≤ most ∧ most ≤ 1099511627776
  fits : ∀ v, 0 ≤ T v ∧ T v ≤ most
  sub : ∀ c, S c → c < w.heap.size

/-- Only the map m and the counters S, and new blocks, have turned. -/
structure Turned (w w' : World) (m : Nat) (S S' : Nat → Prop) : Prop where
  os : w'.os = w.os
  tape : w'.tape = w.tape
  output : w'.output = w.output
  size : w.heap.size ≤ w'.heap.size
  block : ∀ b, b < w.heap.size → b ≠ m → ¬ S b → w'.heap[b]? = w.heap[b]?
  new : ∀ c, S' c → S c ∨ w.heap.size ≤ c

theorem IsQ.cells {tq k : TypeId} {w : World} {q m : Nat} {most : Int} {T : Value → Int} {n : Nat} {S : Nat → Prop} (h : IsQ tq k w q m most T n S) : w.cell? ⟨q, 0, none⟩ = some (.int .i64 most) ∧ w.cell? ⟨q, 1, none⟩ = some (.map (some m)) := by
  refine ⟨?_, ?_⟩ <;> rw [cell_of h.blk] <;> rfl

theorem IsQ.lt {tq k : TypeId} {w : World} {q m : Nat} {most : Int} {T : Value → Int} {n : Nat} {S : Nat → Prop} (h : IsQ tq k w q m most T n S) : q < w.heap.size ∧ m < w.heap.size := by
  obtain ⟨es, clock, hm, _⟩ := h.ent
  exact ⟨lt_of h.blk, lt_of hm⟩

/-- What keeps the struct, the map and the counters keeps the quota. -/
theorem IsQ.keep {tq k : TypeId} {w w' : World} {q m : Nat} {most : Int} {T : Value → Int} {n : Nat} {S : Nat → Prop} (h : IsQ tq k w q m most T n S)
    (hq : w'.heap[q]? = w.heap[q]?) (hm : w'.heap[m]? = w.heap[m]?) (hS : ∀ c, S c → c < w.heap.size → w'.heap[c]? = w.heap[c]?) (hz : w.heap.size ≤ w'.heap.size) : IsQ tq k w' q m most T n S := by
  obtain ⟨es, clock, he, hn, hc⟩ := h.ent
  refine ⟨hq.trans h.blk, ⟨es, clock, hm.trans he, hn, hc.keys, fun x hx => ?_, hc.gone, hc.apart, hc.once⟩, h.lim, h.fits, fun c hs => Nat.lt_of_lt_of_le (h.sub c hs) hz⟩
  obtain ⟨c, h1, h2, h3, h4⟩ := hc.vals x hx
  exact ⟨c, h1, h2, (hS c h2 (lt_of h3)).trans h3, h4⟩

theorem IsQ.below {tq k : TypeId} {w w' : World} {q m : Nat} {most : Int} {T : Value → Int} {n : Nat} {S : Nat → Prop} (h : IsQ tq k w q m most T n S) (hb : Below w.heap.size w w') : IsQ tq k w' q m most T n S :=
  h.keep (hb.block q h.lt.1) (hb.block m h.lt.2) (fun c _ hc => hb.block c hc) hb.size

theorem IsQ.drewN {tq k : TypeId} {w : World} {q m : Nat} {most : Int} {T : Value → Int} {n : Nat} {S : Nat → Prop} (h : IsQ tq k w q m most T n S) (j : Nat) : IsQ tq k (w.drewN j) q m most T n S := h.below (below_drew (Below.refl _ _) j)

/-- What is in memory for one key: nothing, or a counter. -/
theorem IsQ.at {tq k : TypeId} {w : World} {q m : Nat} {most : Int} {T : Value → Int} {n : Nat} {S : Nat → Prop} (h : IsQ tq k w q m most T n S) {t : TypeId} (K : Keyed Try.prog k) (ht : Try.prog.underlying t = some (.map k 66))
    {key : Value} {kl : Lit} (hkey : keyOf Try.prog k key = some kl) :
    (T key = 0 ∧ (Instr.lookup t (.map (some m)) key false).run Try.prog w = .ok (.pointer none) w) ∨
    ∃ c, 0 < T key ∧ S c ∧ w.heap[c]? = some (.cells #[.int .i64 (T key)] 75 (0, 0)) ∧ (Instr.lookup t (.map (some m)) key false).run Try.prog w = .ok (.pointer (some ⟨c, 0, none⟩)) w := by
  obtain ⟨es, clock, he, hn, hc⟩ := h.ent
  rcases look_raw K ht (z := .pointer none) (by kernel_rfl) he hc.keys hkey with ⟨hr, hno⟩ | ⟨e0, hm, rfl, hr⟩
  · exact Or.inl ⟨hc.gone key hno, hr⟩
  · obtain ⟨c, h1, h2, h3, h4⟩ := hc.vals e0 hm
    exact Or.inr ⟨c, h4, h2, h3, by rw [hr, h1]⟩

/-- The same, for whatever world has the same memory. -/
theorem IsQ.at_heap {tq k : TypeId} {w : World} {q m : Nat} {most : Int} {T : Value → Int} {n : Nat} {S : Nat → Prop} (h : IsQ tq k w q m most T n S) {t : TypeId} (K : Keyed Try.prog k) (ht : Try.prog.underlying t = some (.map k 66))
    {key : Value} {kl : Lit} (hkey : keyOf Try.prog k key = some kl) :
    (T key = 0 ∧ ∀ w', w'.heap = w.heap → (Instr.lookup t (.map (some m)) key false).run Try.prog w' = .ok (.pointer none) w') ∨
    ∃ c, 0 < T key ∧ S c ∧ w.heap[c]? = some (.cells #[.int .i64 (T key)] 75 (0, 0)) ∧ ∀ w', w'.heap = w.heap → (Instr.lookup t (.map (some m)) key false).run Try.prog w' = .ok (.pointer (some ⟨c, 0, none⟩)) w' := by
  obtain ⟨es, clock, he, hn, hc⟩ := h.ent
  rcases look_raw K ht (z := .pointer none) (by kernel_rfl) he hc.keys hkey with ⟨hr, hno⟩ | ⟨e0, hm, rfl, hr⟩
  · refine Or.inl ⟨hc.gone key hno, fun w' hw => ?_⟩
    rcases look_raw (w := w') K ht (z := .pointer none) (by kernel_rfl) (by rw [hw]; exact he) hc.keys hkey with ⟨hr', _⟩ | ⟨e1, hm', hk', _⟩
    · exact hr'
    · exact absurd hk' (hno e1 hm')
  · obtain ⟨c, h1, h2, h3, h4⟩ := hc.vals e0 hm
    refine Or.inr ⟨c, h4, h2, h3, fun w' hw => ?_⟩
    rcases look_raw (w := w') K ht (z := .pointer none) (by kernel_rfl) (by rw [hw]; exact he) hc.keys hkey with ⟨_, hno⟩ | ⟨e1, hm', hk', hr'⟩
    · exact absurd rfl (hno e0 hm)
    · rw [hr', hc.once e1 hm' e0 hm hk', h1]

end Go.Proofs.Ythjechngpjkgnaa
