/- Layer 8: Same: whether two events are alike. -/
import Derived.Test.YtfekjlajagoooaaDoorF7PaE
import Derived.LoopTactic
import Derived.WideShapes
import Derived.Test.YtfekjlajagoooaaDoorF5DcA
namespace Go.Proofs.YtfekjlajagoooaaDoor
open Go.RowKit

/-- Two rows are alike from k on. -/
def rowB (n : Nat) (f g : Nat → Int) (k : Nat) : Bool := if k < n then (if f k = g k then rowB n f g (k + 1) else false) else true
termination_by n - k
def rowsB (n1 n2 : Nat) (f g : Nat → Int) : Bool := if n1 = n2 then rowB n1 f g 0 else false
def gridB (n : Nat) (L M : Nat → Nat) (T U : Nat → Nat → Int) (k : Nat) : Bool := if k < n then (if rowsB (L k) (M k) (T k) (U k) = true then gridB n L M T U (k + 1) else false) else true
termination_by n - k
def gridsB (n1 n2 : Nat) (L M : Nat → Nat) (T U : Nat → Nat → Int) : Bool := if n1 = n2 then gridB n1 L M T U 0 else false

theorem rowB_go {n : Nat} {f g : Nat → Int} {k : Nat} (h : k < n) (e : f k = g k) : rowB n f g k = rowB n f g (k + 1) := by rw [rowB, if_pos h, if_pos e]
theorem rowB_no {n : Nat} {f g : Nat → Int} {k : Nat} (h : k < n) (e : f k ≠ g k) : rowB n f g k = false := by rw [rowB, if_pos h, if_neg e]
theorem rowB_end {n : Nat} {f g : Nat → Int} {k : Nat} (h : ¬ k < n) : rowB n f g k = true := by rw [rowB, if_neg h]
theorem gridB_go {n : Nat} {L M : Nat → Nat} {T U : Nat → Nat → Int} {k : Nat} (h : k < n) (e : rowsB (L k) (M k) (T k) (U k) = true) : gridB n L M T U k = gridB n L M T U (k + 1) := by rw [gridB, if_pos h, if_pos e]
theorem gridB_no {n : Nat} {L M : Nat → Nat} {T U : Nat → Nat → Int} {k : Nat} (h : k < n) (e : rowsB (L k) (M k) (T k) (U k) = false) : gridB n L M T U k = false := by rw [gridB, if_pos h, if_neg (by rw [e]; decide)]
theorem gridB_end {n : Nat} {L M : Nat → Nat} {T U : Nat → Nat → Int} {k : Nat} (h : ¬ k < n) : gridB n L M T U k = true := by rw [gridB, if_neg h]

/-- A row in memory, of any integers. -/
def RowW (w : World) (A : Option Addr) (n : Nat) (f : Nat → Int) : Prop := ∀ c, c < n → ∃ a, A = some a ∧ w.cell? (a.add c) = some (.int .i64 (f c))

theorem equal_any {w : World} {A A' : Option Addr} {n m : Nat} {f g : Nat → Int} (c d : Nat) (hn : n ≤ 9223372036854775807) (hm : m ≤ 9223372036854775807) (h : RowW w A n f) (h' : RowW w A' m g) :
    Calls Tryd.prog 33 #[.slice A n c, .slice A' m d] w fun e w' => e = .returned (.bool (rowsB n m f g)) ∧ ∃ j, w' = w.drewN j := by
  by_cases hnm : n = m
  · subst hnm
    have E : Hid (rowsB n n f g = rowB n f g 0) := Lib.hid (by simp [rowsB])
    rw [E.out]
    have HA := Lib.hid h
    have HB := Lib.hid h'
    clear h h' E hm
    go_enter Tryd.func33, Tryd.ntmps33
    go_wp2
    go_loopw [13] (fun i wr => ∃ k j : Nat, k ≤ n ∧ i = .int .i64 k ∧ wr = w.drewN j ∧ rowB n f g 0 = rowB n f g k) (fun i _ => n - (RowKit.intOf i).toNat)
    case atStart => exact ⟨0, 0, Nat.zero_le _, rfl, rfl, rfl⟩
    case round =>
      obtain ⟨k, j, hk, rfl, rfl, hE⟩ := hrel
      by_cases hlt : k < n
      · obtain ⟨p, rfl, cp⟩ := HA.out k hlt
        obtain ⟨q, rfl, cq⟩ := HB.out k hlt
        obtain ⟨x, hx⟩ : ∃ x, x = f k := ⟨_, rfl⟩
        obtain ⟨y, hy⟩ : ∃ y, y = g k := ⟨_, rfl⟩
        rw [← hx] at cp
        rw [← hy] at cq
        have cp' : ∀ i : Nat, (w.drewN i).cell? (p.add k) = some (.int .i64 x) := fun _ => cp
        have cq' : ∀ i : Nat, (w.drewN i).cell? (q.add k) = some (.int .i64 y) := fun _ => cq
        clear cp cq
        by_cases hxy : x = y
        · have HE : Hid (rowB n f g 0 = rowB n f g (k + 1)) := Lib.hid (by rw [hE, rowB_go hlt (by rw [← hx, ← hy]; exact hxy)])
          have d1 : (x == y) = true := by simpa using hxy
          have d2 : (x != y) = false := by simp [hxy]
          clear hE hx hy hxy
          go_wp2
          go_quiet (fail)
          go_wp2
          go_roundw
          case rel => exact ⟨k + 1, _, by omega, by go_num, rfl, HE.out⟩
          case measure => simp [RowKit.intOf]; omega
        · have HE : Hid (rowB n f g 0 = false) := Lib.hid (by rw [hE, rowB_no hlt (by rw [← hx, ← hy]; exact hxy)])
          have d1 : (x == y) = false := by simpa using hxy
          have d2 : (x != y) = true := by simp [hxy]
          clear hE hx hy hxy
          go_wp2
          go_quiet (fail)
          go_wp2
          go_ret
          refine ⟨by rw [HE.out]; rfl, ?_⟩
          first | exact ⟨_, rfl⟩ | exact ⟨_, World.drewN_drewN _ _ _⟩ | exact ⟨_, (World.drewN_drewN _ _ _).symm⟩
      · have hkn : k = n := by omega
        subst hkn
        have HE : Hid (rowB k f g 0 = true) := Lib.hid (by rw [hE, rowB_end (by omega)])
        clear hE
        go_wp2
        go_ret
        refine ⟨by rw [HE.out]; rfl, ?_⟩
        first | exact ⟨_, rfl⟩ | exact ⟨_, World.drewN_drewN _ _ _⟩ | exact ⟨_, (World.drewN_drewN _ _ _).symm⟩
  · have E : Hid (rowsB n m f g = false) := Lib.hid (by simp [rowsB, hnm])
    have d1 : ((n : Int) == (m : Int)) = false := by simp; omega
    have d2 : ((n : Int) != (m : Int)) = true := by simp; omega
    rw [E.out]
    clear h h' hnm E
    go_enter Tryd.func33, Tryd.ntmps33
    go_wp2
    go_ret
    exact ⟨rfl, 0, rfl⟩

/-- A table of any integers in memory. -/
def GridW (w : World) (A : Option Addr) (n : Nat) (L : Nat → Nat) (T : Nat → Nat → Int) : Prop := ∀ r, r < n → ∃ a A' C, A = some a ∧ w.cell? (a.add r) = some (.slice A' (L r) C) ∧ L r ≤ 9223372036854775807 ∧ RowW w A' (L r) (T r)
theorem RowW.drewN {w : World} {A : Option Addr} {n : Nat} {f : Nat → Int} (h : RowW w A n f) (k : Nat) : RowW (w.drewN k) A n f := h

theorem func_any {w : World} {A A' : Option Addr} {n m : Nat} {L M : Nat → Nat} {T U : Nat → Nat → Int} (c d : Nat) (hn : n ≤ 9223372036854775807) (hm : m ≤ 9223372036854775807) (h : GridW w A n L T) (h' : GridW w A' m M U) (F : Value) (hF : F = .func (.func 33) #[] #[]) :
    Calls Tryd.prog 32 #[.slice A n c, .slice A' m d, F] w fun e w' => e = .returned (.bool (gridsB n m L M T U)) ∧ ∃ j, w' = w.drewN j := by
  subst hF
  by_cases hnm : n = m
  · subst hnm
    have E : Hid (gridsB n n L M T U = gridB n L M T U 0) := Lib.hid (by simp [gridsB])
    rw [E.out]
    have HA := Lib.hid h
    have HB := Lib.hid h'
    clear h h' E hm
    go_enter Tryd.func32, Tryd.ntmps32
    go_wp2
    go_loopw [17] (fun i wr => ∃ k j : Nat, k ≤ n ∧ i = .int .i64 k ∧ wr = w.drewN j ∧ gridB n L M T U 0 = gridB n L M T U k) (fun i _ => n - (RowKit.intOf i).toNat)
    case atStart => exact ⟨0, 0, Nat.zero_le _, rfl, rfl, rfl⟩
    case round =>
      obtain ⟨k, j, hk, rfl, rfl, hE⟩ := hrel
      by_cases hlt : k < n
      · obtain ⟨p, A1, C1, rfl, cp, l1, r1⟩ := HA.out k hlt
        obtain ⟨q, A2, C2, rfl, cq, l2, r2⟩ := HB.out k hlt
        have cp' : ∀ i : Nat, (w.drewN i).cell? (p.add k) = some (.slice A1 (L k) C1) := fun _ => cp
        have cq' : ∀ i : Nat, (w.drewN i).cell? (q.add k) = some (.slice A2 (M k) C2) := fun _ => cq
        have HC : ∀ i : Nat, Hid (Calls Tryd.prog 33 #[.slice A1 (L k) C1, .slice A2 (M k) C2] (w.drewN i) fun e w' => e = .returned (.bool (rowsB (L k) (M k) (T k) (U k))) ∧ ∃ j, w' = (w.drewN i).drewN j) := fun i => Lib.hid (equal_any C1 C2 l1 l2 (r1.drewN i) (r2.drewN i))
        obtain ⟨l, hl⟩ : ∃ l, l = L k := ⟨_, rfl⟩
        obtain ⟨m, hm⟩ : ∃ m, m = M k := ⟨_, rfl⟩
        by_cases hxy : rowsB (L k) (M k) (T k) (U k) = true
        · have HE : Hid (gridB n L M T U 0 = gridB n L M T U (k + 1)) := Lib.hid (by rw [hE, gridB_go hlt hxy])
          rw [hxy] at HC
          rw [← hl] at cp' l1 HC
          rw [← hm] at cq' l2 HC
          clear hE hxy cp cq r1 r2 hl hm
          go_wp2_with fail
          refine (show Calls _ _ _ _ _ from (HC _).out).mono ?_
          rintro e w1 ⟨rfl, jj, rfl⟩
          rw [World.drewN_drewN]
          clear HC
          go_wp2
          go_roundw
          case rel => exact ⟨k + 1, _, by omega, by go_num, rfl, HE.out⟩
          case measure => simp [RowKit.intOf]; omega
        · have HE : Hid (gridB n L M T U 0 = false) := Lib.hid (by rw [hE, gridB_no hlt (by simpa using hxy)])
          have hxy : rowsB (L k) (M k) (T k) (U k) = false := by simpa using hxy
          rw [hxy] at HC
          rw [← hl] at cp' l1 HC
          rw [← hm] at cq' l2 HC
          clear hE hxy cp cq r1 r2 hl hm
          go_wp2_with fail
          refine (show Calls _ _ _ _ _ from (HC _).out).mono ?_
          rintro e w1 ⟨rfl, jj, rfl⟩
          rw [World.drewN_drewN]
          clear HC
          go_wp2
          go_ret
          refine ⟨by rw [HE.out]; rfl, ?_⟩
          first | exact ⟨_, rfl⟩ | exact ⟨_, World.drewN_drewN _ _ _⟩ | exact ⟨_, (World.drewN_drewN _ _ _).symm⟩
      · have hkn : k = n := by omega
        subst hkn
        have HE : Hid (gridB k L M T U 0 = true) := Lib.hid (by rw [hE, gridB_end (by omega)])
        clear hE
        go_wp2
        go_ret
        refine ⟨by rw [HE.out]; rfl, ?_⟩
        first | exact ⟨_, rfl⟩ | exact ⟨_, World.drewN_drewN _ _ _⟩ | exact ⟨_, (World.drewN_drewN _ _ _).symm⟩
  · have E : Hid (gridsB n m L M T U = false) := Lib.hid (by simp [gridsB, hnm])
    have d1 : ((n : Int) == (m : Int)) = false := by simp; omega
    have d2 : ((n : Int) != (m : Int)) = true := by simp; omega
    rw [E.out]
    clear h h' hnm E
    go_enter Tryd.func32, Tryd.ntmps32
    go_wp2
    go_ret
    exact ⟨rfl, 0, rfl⟩

theorem cell_lt {w : World} {p : Addr} {v : Value} (h : w.cell? p = some v) : p.block < w.heap.size := by
  unfold World.cell? at h
  cases hx : w.heap[p.block]? with
  | none => simp [hx] at h
  | some y => exact (Array.getElem?_eq_some_iff.1 hx).1
theorem GridW.below {w w' : World} {A : Option Addr} {n : Nat} {L : Nat → Nat} {T : Nat → Nat → Int} (h : GridW w A n L T) (hb : Below w.heap.size w w') : GridW w' A n L T := fun r hr => by
  obtain ⟨a, A', C, e, h1, h2, h3⟩ := h r hr
  refine ⟨a, A', C, e, (hb.cell (cell_lt h1)).trans h1, h2, fun c hc => ?_⟩
  obtain ⟨b, e', k⟩ := h3 c hc
  exact ⟨b, e', (hb.cell (cell_lt k)).trans k⟩
theorem two_below (w : World) (x y : Obj) : Below w.heap.size w ((w.alloc x).alloc y) := ((Below.refl _ _).alloc (Nat.le_refl _) _).alloc (by simp) _
theorem str_ne {a b : ByteArray} (h : a ≠ b) : (a.toList == b.toList) = false := by
  have : a.toList ≠ b.toList := fun e => h (by
    rw [ByteArray.toList_eq, ByteArray.toList_eq] at e
    exact WideShapes.bytes_inj e)
  simpa using this
theorem str_eq (a : ByteArray) : (a.toList == a.toList) = true := by simp
/-- Whether all of two events is alike. -/
def sameV (k1 k2 r1 r2 f1 f2 : Int) (m1 m2 t1 t2 : ByteArray) (g : Bool) : Bool := (k1 == k2) && ((r1 == r2) && ((f1 == f2) && ((m1.toList == m2.toList) && ((t1.toList == t2.toList) && g))))
theorem same_any {w : World} {A1 A2 : Option Addr} {n1 n2 : Nat} {L M : Nat → Nat} {T U : Nat → Nat → Int} (k1 k2 r1 r2 f1 f2 : Int) (m1 m2 t1 t2 : ByteArray) (c1 c2 : Nat) (hn : n1 ≤ 9223372036854775807) (hm : n2 ≤ 9223372036854775807) (h : GridW w A1 n1 L T) (h' : GridW w A2 n2 M U) :
    Calls Tryd.prog 16 #[.agg #[.int .i64 k1, .int .i32 r1, .int .u8 f1, .string m1, .slice A1 n1 c1, .string t1], .agg #[.int .i64 k2, .int .i32 r2, .int .u8 f2, .string m2, .slice A2 n2 c2, .string t2]] w
      fun e w' => e = .returned (.bool (sameV k1 k2 r1 r2 f1 f2 m1 m2 t1 t2 (gridsB n1 n2 L M T U))) ∧ Below w.heap.size w w' := by
  have HC : ∀ W : World, Below w.heap.size w W → Hid (Calls Tryd.prog 32 #[.slice A1 n1 c1, .slice A2 n2 c2, .func (.func 33) #[] #[]] W fun e w' => e = .returned (.bool (gridsB n1 n2 L M T U)) ∧ ∃ j, w' = W.drewN j) := fun W hW => Lib.hid (func_any (w := W) c1 c2 hn hm (h.below hW) (h'.below hW) _ rfl)
  clear h h'
  generalize gridsB n1 n2 L M T U = g at *
  by_cases hk : k1 = k2
  case neg =>
    have d1 : (k1 == k2) = false := by simpa using hk
    have E : Hid (sameV k1 k2 r1 r2 f1 f2 m1 m2 t1 t2 g = false) := Lib.hid (by simp [sameV, d1])
    rw [E.out]
    clear hk HC E
    go_enter Tryd.func16, Tryd.ntmps16
    go_wp2
    try (go_quiet (fail); go_wp2)
    go_ret
    refine ⟨rfl, ?_⟩
    first | exact two_below _ _ _ | exact below_drew (two_below _ _ _) _ | exact Below.refl _ _
  subst hk
  by_cases hr : r1 = r2
  case neg =>
    have d1 : (r1 == r2) = false := by simpa using hr
    have E : Hid (sameV k1 k1 r1 r2 f1 f2 m1 m2 t1 t2 g = false) := Lib.hid (by simp [sameV, d1])
    rw [E.out]
    clear hr HC E
    go_enter Tryd.func16, Tryd.ntmps16
    go_wp2
    try (go_quiet (fail); go_wp2)
    go_ret
    refine ⟨rfl, ?_⟩
    first | exact two_below _ _ _ | exact below_drew (two_below _ _ _) _ | exact Below.refl _ _
  subst hr
  by_cases hf : f1 = f2
  case neg =>
    have d1 : (f1 == f2) = false := by simpa using hf
    have E : Hid (sameV k1 k1 r1 r1 f1 f2 m1 m2 t1 t2 g = false) := Lib.hid (by simp [sameV, d1])
    rw [E.out]
    clear hf HC E
    go_enter Tryd.func16, Tryd.ntmps16
    go_wp2
    try (go_quiet (fail); go_wp2)
    go_ret
    refine ⟨rfl, ?_⟩
    first | exact two_below _ _ _ | exact below_drew (two_below _ _ _) _ | exact Below.refl _ _
  subst hf
  by_cases hm' : m1 = m2
  case neg =>
    have d1 := str_ne hm'
    have E : Hid (sameV k1 k1 r1 r1 f1 f1 m1 m2 t1 t2 g = false) := Lib.hid (by simp [sameV, d1])
    rw [E.out]
    clear hm' HC E
    go_enter Tryd.func16, Tryd.ntmps16
    go_wp2
    try (go_quiet (fail); go_wp2)
    go_ret
    refine ⟨rfl, ?_⟩
    first | exact two_below _ _ _ | exact below_drew (two_below _ _ _) _ | exact Below.refl _ _
  subst hm'
  by_cases ht : t1 = t2
  case neg =>
    have d1 := str_ne ht
    have E : Hid (sameV k1 k1 r1 r1 f1 f1 m1 m1 t1 t2 g = false) := Lib.hid (by simp [sameV, d1])
    rw [E.out]
    clear ht HC E
    go_enter Tryd.func16, Tryd.ntmps16
    go_wp2
    try (go_quiet (fail); go_wp2)
    go_ret
    refine ⟨rfl, ?_⟩
    first | exact two_below _ _ _ | exact below_drew (two_below _ _ _) _ | exact Below.refl _ _
  subst ht
  have E : Hid (sameV k1 k1 r1 r1 f1 f1 m1 m1 t1 t1 g = g) := Lib.hid (by simp [sameV])
  rw [E.out]
  clear E
  have e1 := str_eq m1
  have e2 := str_eq t1
  go_enter Tryd.func16, Tryd.ntmps16
  go_wp2_with fail
  refine (show Calls _ _ _ _ _ from (HC _ (two_below _ _ _)).out).mono ?_
  rintro e w1 ⟨rfl, jj, rfl⟩
  clear HC
  go_wp2
  go_ret
  exact ⟨rfl, below_drew (two_below _ _ _) _⟩
end Go.Proofs.YtfekjlajagoooaaDoor
