/- Layer 3: what a take does to a quota in memory, with keys of any type. -/
import Derived.Test.YthjechngpjkgnaaQuoA
namespace Go.Proofs.Ythjechngpjkgnaa
open Go.RowKit Go.Maps Go.ChangeMaps

theorem blk_set {w : World} {lb : Nat} {c : Array Value} {t : TypeId} (h : w.heap[lb]? = some (.cells c t (0, 0))) (i : Nat) (v : Value) : (w.setCell ⟨lb, i, none⟩ v).heap[lb]? = some (.cells (c.setIfInBounds i v) t (0, 0)) := by
  simp [World.setCell, Array.getElem?_modify, h]
theorem alloc_at (w : World) (o : Obj) {b : Nat} (h : b = w.heap.size) : (w.alloc o).heap[b]? = some o := by rw [h]; exact (MapKept.heap_alloc w o).1

/-- x more was taken for the key. -/
structure Took (T T' : Value → Int) (n n' : Nat) (key : Value) (x : Int) : Prop where
  other : ∀ v, v ≠ key → T' v = T v
  same : T' key = T key + x
  keys : n' = if T key = 0 then n + 1 else n

section
variable {tq k t : TypeId} {w : World} {q m : Nat} {most : Int} {T : Value → Int} {n : Nat} {S : Nat → Prop}

theorem IsQ.apart (h : IsQ tq k w q m most T n S) {c : Nat} {x : Int} (hc : w.heap[c]? = some (.cells #[.int .i64 x] 75 (0, 0))) : q ≠ c ∧ m ≠ c ∧ q ≠ m := by
  obtain ⟨es, clock, he, _⟩ := h.ent
  refine ⟨?_, ?_, ?_⟩
  · rintro rfl
    have := h.blk
    rw [hc] at this
    injection this with this
    injection this with this _ _
    have := congrArg Array.size this
    simp at this
  · rintro rfl
    rw [he] at hc
    cases hc
  · rintro rfl
    have := h.blk
    rw [he] at this
    cases this

theorem IsQ.qm (h : IsQ tq k w q m most T n S) : q ≠ m := by
  obtain ⟨es, clock, he, _⟩ := h.ent
  rintro rfl
  have := h.blk
  rw [he] at this
  cases this

/-- A counter is raised. -/
theorem IsQ.bump (h : IsQ tq k w q m most T n S) (K : Keyed Try.prog k) (ht : Try.prog.underlying t = some (.map k 66)) {key : Value} {kl : Lit} (hkey : keyOf Try.prog k key = some kl) {c : Nat}
    (hl : (Instr.lookup t (.map (some m)) key false).run Try.prog w = .ok (.pointer (some ⟨c, 0, none⟩)) w) {x : Int} (hx : 0 < x ∧ x ≤ most - T key) :
    ∃ T' n' S', IsQ tq k (w.setCell ⟨c, 0, none⟩ (.int .i64 (T key + x))) q m most T' n' S' ∧ Turned w (w.setCell ⟨c, 0, none⟩ (.int .i64 (T key + x))) m S S' ∧ Took T T' n n' key x := by
  classical
  obtain ⟨es, clock, he, hn, hc⟩ := h.ent
  rcases look_raw K ht (z := .pointer none) (by kernel_rfl) he hc.keys hkey with ⟨hr, hno⟩ | ⟨e0, hm, hek, hr⟩
  · rw [hl] at hr
    cases hr
  rw [hl] at hr
  injection hr with hv _
  obtain ⟨c', h1, h2, h3, h4⟩ := hc.vals e0 hm
  rw [← hv] at h1
  injection h1 with h1
  injection h1 with h1
  injection h1 with h1 _ _
  subst h1
  rw [hek] at h3 h4
  obtain ⟨qc, mc, qm⟩ := h.apart h3
  have hoth : ∀ b, b ≠ c → (w.setCell ⟨c, 0, none⟩ (.int .i64 (T key + x))).heap[b]? = w.heap[b]? := fun b hb => RowKit.Below.heap_setCell _ _ _ _ hb
  have hset := blk_set h3 0 (.int .i64 (T key + x))
  refine ⟨fun v => if v = key then T key + x else T v, n, S, ⟨(hoth q qc).trans h.blk, ⟨es, clock, (hoth m mc).trans he, hn, hc.keys, fun y hy => ?_, fun v hv' => ?_, hc.apart, hc.once⟩, h.lim, fun v => ?_, fun c hs => by simpa [World.setCell] using h.sub c hs⟩, ⟨rfl, rfl, rfl, ?_, fun b _ _ hb => hoth b (fun e => hb (e ▸ h2)), fun c hc => Or.inl hc⟩, ⟨fun v hv' => if_neg hv', if_pos rfl, ?_⟩⟩
  · by_cases e : y.key = key
    · refine ⟨c, (hc.once y hy e0 hm (e.trans hek.symm)).trans hv.symm, h2, ?_, ?_⟩
      · rw [hset, if_pos e]
        rfl
      · rw [if_pos e]
        omega
    · obtain ⟨c2, k1, k2, k3, k4⟩ := hc.vals y hy
      refine ⟨c2, k1, k2, ?_, ?_⟩
      · rw [if_neg e, hoth c2, k3]
        rintro rfl
        exact e ((hc.apart y hy e0 hm (k1.trans hv)).trans hek)
      · rw [if_neg e]
        exact k4
  · rw [if_neg (fun e => hv' e0 hm (hek.trans e.symm))]
    exact hc.gone v hv'
  · have hf := h.fits v
    have hk := h.fits key
    show 0 ≤ (if v = key then T key + x else T v) ∧ (if v = key then T key + x else T v) ≤ most
    split <;> omega
  · simp [World.setCell]
  · rw [if_neg (by omega)]

/-- No counter: the entries. -/
theorem IsQ.free (h : IsQ tq k w q m most T n S) {key : Value} (h0 : T key = 0) : ∃ es clock, w.heap[m]? = some (.map es clock) ∧ (∀ x ∈ es.toList, ∃ l, keyOf Try.prog k x.key = some l) ∧ ∀ x ∈ es.toList, x.key ≠ key := by
  obtain ⟨es, clock, he, hn, hc⟩ := h.ent
  refine ⟨es, clock, he, hc.keys, fun x hx e => ?_⟩
  obtain ⟨c, _, _, _, h4⟩ := hc.vals x hx
  rw [e, h0] at h4
  omega

/-- A new counter. -/
theorem IsQ.fresh (h : IsQ tq k w q m most T n S) {key : Value} {kl : Lit} (hkey : keyOf Try.prog k key = some kl) (h0 : T key = 0) {es : Array MapEntry} {clock : Nat} (he : w.heap[m]? = some (.map es clock)) {x : Int} (hx : 0 < x ∧ x ≤ most - T key) {w3 : World}
    (hw : w3 = (setBlock (w.alloc (.cells #[.int .i64 0] 75 (0, 0))) m (.map (es.push ⟨key, .pointer (some ⟨w.heap.size, 0, none⟩), clock⟩) (clock + 1))).setCell ⟨w.heap.size, 0, none⟩ (.int .i64 (0 + x))) :
    ∃ T' n' S', IsQ tq k w3 q m most T' n' S' ∧ Turned w w3 m S S' ∧ Took T T' n n' key x := by
  classical
  obtain ⟨es', clock', he', hn, hc⟩ := h.ent
  rw [he] at he'
  injection he' with he'
  injection he' with e1 e2
  subst e1 e2
  have hno : ∀ y ∈ es.toList, y.key ≠ key := fun y hy e => by
    obtain ⟨c, _, _, _, h4⟩ := hc.vals y hy
    rw [e, h0] at h4
    omega
  have hlt := h.lt
  have hm1 : (w.alloc (.cells #[.int .i64 0] 75 (0, 0))).heap[m]? = some (.map es clock) := ((MapKept.heap_alloc _ _).2 _ hlt.2).trans he
  have hoth : ∀ b, b < w.heap.size → b ≠ m → w3.heap[b]? = w.heap[b]? := fun b hb hbm => by
    rw [hw, RowKit.Below.heap_setCell _ _ _ _ (by show b ≠ w.heap.size; omega), heap_setBlock_other hm1 _ hbm]
    exact (MapKept.heap_alloc _ _).2 _ hb
  have hmm : w3.heap[m]? = some (.map (es.push ⟨key, .pointer (some ⟨w.heap.size, 0, none⟩), clock⟩) (clock + 1)) := by
    rw [hw, RowKit.Below.heap_setCell _ _ _ _ (by show m ≠ w.heap.size; omega)]
    exact heap_setBlock_same hm1 _
  have hcc : w3.heap[w.heap.size]? = some (.cells #[.int .i64 x] 75 (0, 0)) := by
    have e0 : (setBlock (w.alloc (.cells #[.int .i64 0] 75 (0, 0))) m (.map (es.push ⟨key, .pointer (some ⟨w.heap.size, 0, none⟩), clock⟩) (clock + 1))).heap[w.heap.size]? = some (.cells #[.int .i64 0] 75 (0, 0)) := by
      rw [heap_setBlock_other hm1 _ (by omega)]
      exact (MapKept.heap_alloc _ _).1
    rw [hw, blk_set e0 0 _, Int.zero_add]
    rfl
  refine ⟨fun v => if v = key then x else T v, n + 1, fun c => S c ∨ c = w.heap.size, ⟨(hoth q hlt.1 h.qm).trans h.blk, ⟨_, _, hmm, by simp [hn], fun y hy => ?_, fun y hy => ?_, fun v hv => ?_, fun y hy z hz e => ?_, fun y hy z hz e => ?_⟩, h.lim, fun v => ?_, fun c hs => ?_⟩, ⟨by rw [hw]; rfl, by rw [hw]; rfl, by rw [hw]; rfl, by rw [hw]; simp [World.setCell, setBlock], fun b hb hbm _ => hoth b hb hbm, fun c hc => hc.imp id (fun e => by omega)⟩, ⟨fun v hv => if_neg hv, by simp [h0], by rw [if_pos h0]⟩⟩
  · simp only [Array.toList_push, List.mem_append, List.mem_singleton] at hy
    rcases hy with hy | rfl
    · exact hc.keys y hy
    · exact ⟨_, hkey⟩
  · simp only [Array.toList_push, List.mem_append, List.mem_singleton] at hy
    rcases hy with hy | rfl
    · obtain ⟨c, k1, k2, k3, k4⟩ := hc.vals y hy
      refine ⟨c, k1, Or.inl k2, ?_, ?_⟩
      · rw [if_neg (hno y hy), hoth c (lt_of k3), k3]
        rintro rfl
        rw [he] at k3
        cases k3
      · rw [if_neg (hno y hy)]
        exact k4
    · exact ⟨w.heap.size, rfl, Or.inr rfl, by rw [hcc, if_pos rfl], by rw [if_pos rfl]; exact hx.1⟩
  · have hk : v ≠ key := fun e => hv ⟨key, .pointer (some ⟨w.heap.size, 0, none⟩), clock⟩ (by simp) e.symm
    rw [if_neg hk]
    exact hc.gone v (fun y hy => hv y (by simp [hy]))
  · have hold : ∀ u ∈ es.toList, u.val ≠ .pointer (some ⟨w.heap.size, 0, none⟩) := fun u hu e => by
      obtain ⟨c, k1, _, k3, _⟩ := hc.vals u hu
      rw [k1] at e
      injection e with e
      injection e with e
      injection e with e _ _
      have := lt_of k3
      omega
    simp only [Array.toList_push, List.mem_append, List.mem_singleton] at hy hz
    rcases hy with hy | rfl <;> rcases hz with hz | rfl
    · exact hc.apart y hy z hz e
    · exact absurd e (hold y hy)
    · exact absurd e.symm (hold z hz)
    · rfl
  · simp only [Array.toList_push, List.mem_append, List.mem_singleton] at hy hz
    rcases hy with hy | rfl <;> rcases hz with hz | rfl
    · exact hc.once y hy z hz e
    · exact absurd e (hno y hy)
    · exact absurd e.symm (hno z hz)
    · rfl
  · have hf := h.fits v
    show 0 ≤ (if v = key then x else T v) ∧ (if v = key then x else T v) ≤ most
    rw [h0] at hx
    split <;> omega
  · have hsz : w3.heap.size = w.heap.size + 1 := by rw [hw]; simp [World.setCell, setBlock]
    rcases hs with hs | rfl
    · have := h.sub c hs
      omega
    · omega

end

theorem load_any (c : Nat) (x : Int) (w : World) (hc : w.heap[c]? = some (.cells #[.int .i64 x] 75 (0, 0))) :
    Calls Try.prog 28 #[.pointer (some ⟨c, 0, none⟩)] w fun e w' => e = .returned (.int .i64 x) ∧ w = w' := by
  have c0 : w.cell? ⟨c, 0, none⟩ = some (.int .i64 x) := by rw [cell_of hc]; rfl
  have hl := run_call_load (P := Try.prog) Try.func33 (by kernel_rfl) (by kernel_rfl) (by kernel_rfl) .i64 (by kernel_rfl) c0
  clear hc
  go_enter Try.func28, Try.ntmps28
  go_wp2
  go_ret
  exact ⟨rfl, rfl⟩

theorem add_any (c : Nat) (x y : Int) (w : World) (hc : w.heap[c]? = some (.cells #[.int .i64 x] 75 (0, 0))) (hx : 0 ≤ x ∧ x ≤ 1099511627776) (hy : 0 ≤ y ∧ y ≤ 1099511627776) :
    Calls Try.prog 30 #[.pointer (some ⟨c, 0, none⟩), .int .i64 y] w fun e w' => e = .returned (.int .i64 (x + y)) ∧ w' = w.setCell ⟨c, 0, none⟩ (.int .i64 (x + y)) := by
  have c0 : w.cell? ⟨c, 0, none⟩ = some (.int .i64 x) := by rw [cell_of hc]; rfl
  have f0 := frozen_of hc 0
  have hl := run_call_add (P := Try.prog) Try.func35 (by kernel_rfl) (by kernel_rfl) (by kernel_rfl) .i64 (by kernel_rfl) (y := y) (s := x + y) c0 f0 (by simp [go_sem, IntWalk.i64_in (x + y) (by omega)])
  clear hc
  go_enter Try.func30, Try.ntmps30
  go_wp2
  go_ret
  exact ⟨rfl, rfl⟩

theorem still_left {P : Program} {f : FuncId} {args : Array Value} {w : World} {n : Nat} {v : Value} (h : Calls P f args (w.drewN n) fun e w' => e = .returned v ∧ w.drewN n = w') :
    Calls P f args (w.drewN n) fun e w'' => e = .returned v ∧ ∃ m, w'' = w.drewN m := h.mono fun _ _ hh => ⟨hh.1, n, hh.2.symm⟩

/-- Whether x may be taken where t was. -/
def okB (most t x : Int) : Bool := decide (0 ≤ x) && decide (x ≤ most - t)

/-- A take: refused, nothing has changed; else x more was taken for the key, and there is a key more if there was none and x is more than 0. -/
structure Taken (most : Int) (T T' : Value → Int) (n n' : Nat) (key : Value) (x : Int) : Prop where
  other : ∀ v, v ≠ key → T' v = T v
  same : T' key = if okB most (T key) x then T key + x else T key
  keys : n' = if okB most (T key) x ∧ 0 < x ∧ T key = 0 then n + 1 else n

theorem turned_drew (w : World) (j m : Nat) (S : Nat → Prop) : Turned w (w.drewN j) m S S := ⟨rfl, rfl, rfl, Nat.le_refl _, fun _ _ _ _ => rfl, fun _ h => Or.inl h⟩
theorem Turned.of_drew {w w' : World} {j m : Nat} {S S' : Nat → Prop} (h : Turned (w.drewN j) w' m S S') : Turned w w' m S S' := ⟨h.os, h.tape, h.output, h.size, h.block, h.new⟩
theorem taken_not {most : Int} {T : Value → Int} {n : Nat} {key : Value} {x : Int} (h : okB most (T key) x = false) : Taken most T T n n key x := ⟨fun _ _ => rfl, by simp [h], by simp [h]⟩
theorem taken_zero {most : Int} {T : Value → Int} {n : Nat} {key : Value} : Taken most T T n n key 0 := ⟨fun _ _ => rfl, by simp, by simp⟩
theorem taken_of {most : Int} {T T' : Value → Int} {n n' : Nat} {key : Value} {x : Int} (h : Took T T' n n' key x) (hx : 0 < x ∧ x ≤ most - T key) : okB most (T key) x = true ∧ Taken most T T' n n' key x := by
  have hok : okB most (T key) x = true := by simp [okB]; omega
  refine ⟨hok, h.other, by rw [hok]; exact h.same, ?_⟩
  rw [h.keys, hok]
  by_cases e : T key = 0 <;> simp [e, hx.1]

end Go.Proofs.Ythjechngpjkgnaa
