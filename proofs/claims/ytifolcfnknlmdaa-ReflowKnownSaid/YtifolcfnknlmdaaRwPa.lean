/- Layer 11: the program's blank, erase. -/
import Derived.Test.YtifolcfnknlmdaaRwZa
import Derived.Test.YtifolcfnknlmdaaRwGX
import Derived.Deep.Cut
import Derived.Laws.Rows
import Derived.Deep.DeepCutAuto
set_option linter.unusedVariables false
namespace Go.Proofs.Ytifolcfnknlmdaa.Rw
open Go.RowKit

theorem zero_ce (W : World) : (zeroValue 38).run Try.prog W = .ok (ceV zeroCe) W := by kernel_rfl

theorem alloc_ce (W : World) : (Instr.alloc 38 true (.tuple #[])).run Try.prog W = .ok (.pointer (some ⟨W.heap.size, 0, none⟩)) (W.alloc (.cells #[.int .i32 0, .int .u8 0, .int .u16 0, .int .u8 0, .int .u32 0, .int .u8 0, .int .u32 0] 38 (0, 0))) := by kernel_rfl

theorem heap_ce {w : World} {q : Nat} (h : w.heap[q]? = some (.cells #[.int .i32 0, .int .u8 0, .int .u16 0, .int .u8 0, .int .u32 0, .int .u8 0, .int .u32 0] 38 (0, 0))) (c : Ce) : (setCe w q 0 c).heap[q]? = some (.cells #[.int .i32 c.r, .int .u8 (c.w : Int), .int .u16 (c.a.fl : Int), .int .u8 (c.a.fk : Int), .int .u32 (c.a.fn : Int), .int .u8 (c.a.bk : Int), .int .u32 (c.a.bn : Int)] 38 (0, 0)) := by
  unfold setCe
  rw [heap_set (heap_set (heap_set (heap_set (heap_set (heap_set (heap_set h _) _) _) _) _) _) _]
  rfl
theorem exec_alloc (ρ : Operand → Value) (o : Oper) (ho : o.op = .alloc 38) (W : World) : (execOp ρ o).run Try.prog W = .ok (.value (.pointer (some ⟨W.heap.size, 0, none⟩))) (W.alloc (.cells #[.int .i32 0, .int .u8 0, .int .u16 0, .int .u8 0, .int .u32 0, .int .u8 0, .int .u32 0] 38 (0, 0))) := by
  obtain ⟨dst, op, type, pos, after, guard⟩ := o
  cases ho
  kernel_rfl

set_option maxRecDepth 100000 in
set_option maxHeartbeats 2000000 in
theorem blank_any (a : Aa) (w : World) : Calls Try.prog 36 #[attrV a] w fun e w' => e = .returned (ceV (blankC a)) ∧ Below w.heap.size w w' := by
  obtain ⟨W, hW, hB, hs, hat⟩ := box_at w a
  have hat0 := hat W (Below.refl _ _)
  have HB := Lib.hid hB
  have HS := Lib.hid hs
  have hz := alloc_ce
  go_enter Try.func36, Try.ntmps36
  go_wp2_with fail
  rename_i K hK
  unfold Oper.wp
  rw [exec_alloc _ _ rfl, Oper.upon_value]
  change K (Act.put _ (some 2) (.pointer (some ⟨(w.alloc (attrO a)).heap.size, 0, none⟩))) ((w.alloc (attrO a)).alloc (.cells #[.int .i32 0, .int .u8 0, .int .u16 0, .int .u8 0, .int .u32 0, .int .u8 0, .int .u32 0] 38 (0, 0)))
  rw [← hW]
  have hA : Below W.heap.size W (W.alloc (.cells #[.int .i32 0, .int .u8 0, .int .u16 0, .int .u8 0, .int .u32 0, .int .u8 0, .int .u32 0] 38 (0, 0))) := (Below.refl _ _).alloc (Nat.le_refl _) _
  have hat2 := hat _ hA
  have hnew := heap_alloc_new W (.cells #[.int .i32 0, .int .u8 0, .int .u16 0, .int .u8 0, .int .u32 0, .int .u8 0, .int .u32 0] 38 (0, 0))
  have hset := setCe_below hA (Nat.le_refl W.heap.size) 0 (blankC a)
  have HSet := Lib.hid hset
  generalize W.alloc (.cells #[.int .i32 0, .int .u8 0, .int .u16 0, .int .u8 0, .int .u32 0, .int .u8 0, .int .u32 0] 38 (0, 0)) = W2 at *
  obtain ⟨q, hq⟩ : ∃ q, q = W.heap.size := ⟨_, rfl⟩
  rw [← hq] at hnew ⊢ HSet
  have HQ : Hid (w.heap.size ≤ q) := Lib.hid (by rw [hq]; exact HB.out.size)
  obtain ⟨p, hp⟩ : ∃ p, p = w.heap.size := ⟨_, rfl⟩
  rw [← hp] at hat2
  have d0 := cell_of hat2 0
  have d1 := cell_of hat2 1
  have d2 := cell_of hat2 2
  have d3 := cell_of hat2 3
  have d4 := cell_of hat2 4
  have e0 := cell_of hnew 0
  have e1 := cell_of hnew 1
  have e2 := cell_of hnew 2
  have e3 := cell_of hnew 3
  have e4 := cell_of hnew 4
  have e5 := cell_of hnew 5
  have e6 := cell_of hnew 6
  have fz : ∀ i, W2.frozen? ⟨q, i, none⟩ = false := fun i => by simp [World.frozen?, hnew]
  rw [← hp]
  have HN := Lib.hid hnew
  clear hat2 hnew hset hA hq hp hat hat0 hs hB
  refine hK _ _ ?_
  try simp only [Act.put, List.setIfInBounds_toArray, List.set_cons_zero, List.set_cons_succ]
  go_wp2
  change bodyPost _ _ _ _ _ (setCe W2 q 0 (blankC a))
  refine bodyPost_ret (results_cell_row Try.results36 _ _ q _ _ _ _ rfl (heap_ce HN.out (blankC a)) Try.underlying38 rfl (by kernel_rfl)) rfl ?_
  exact ⟨rfl, HB.out.trans (HSet.out.mono HQ.out)⟩

set_option maxRecDepth 100000 in
set_option maxHeartbeats 2000000 in
theorem fill_any {w : World} {base g N c : Nat} {l : List Ce} (hO : OwnC w base (.slice (some ⟨g, 0, none⟩) N c) l) (x n c' : Nat) (hx : x + n ≤ l.length) (hl : l.length ≤ 100000) (a : Aa) :
    Calls Try.prog 39 #[.slice (some ⟨g, x * 7, none⟩) n c', attrV a] w fun e w' => e = .returned (.tuple #[]) ∧ OwnC w' base (.slice (some ⟨g, 0, none⟩) N c) (fillV l x n a) ∧ Turns g w w' := by
  obtain ⟨W, hW, hB, hs, hat⟩ := box_at w a
  have hgl : g < w.heap.size := own_lt hO g rfl
  have HO : Hid (OwnC W base (.slice (some ⟨g, 0, none⟩) N c) (fillV l x 0 a)) := Lib.hid (by rw [fillV_zero]; exact own_below hO hB (Nat.le_refl _))
  have HT : Hid (∀ V, Turns g W V → Turns g w V) := Lib.hid fun V hV => (Turns.of hB).trans hV
  have HAt : Hid (∀ V, Turns g W V → V.heap[w.heap.size]? = some (attrO a)) := Lib.hid fun V hV => (hV.block _ (by omega) (by omega)).trans (hat W (Below.refl _ _))
  obtain ⟨p, hp⟩ : ∃ p, p = w.heap.size := ⟨_, rfl⟩
  rw [← hp] at HAt
  have HP := Lib.hid hp
  have HW := Lib.hid hW
  have HX := Lib.hid hx
  have HG : Hid (g < W.heap.size) := Lib.hid (by omega)
  clear hW hB hs hat hgl hO hp hx
  go_enter Try.func39, Try.ntmps39
  go_upto_region 1 with fail
  change Code.wp _ _ _ _ (w.alloc (attrO a))
  rw [← HW.out, ← HP.out]
  clear HW HP
  go_wp2
  go_loopw [7] (fun i wr => ∃ k : Nat, k ≤ n ∧ i = .int .i64 k ∧ Hid (OwnC wr base (.slice (some ⟨g, 0, none⟩) N c) (fillV l x k a)) ∧ Hid (Turns g W wr)) (fun i _ => n - (RowKit.intOf i).toNat)
  case atStart => exact ⟨0, Nat.zero_le _, rfl, HO, Lib.hid (Turns.refl _ _)⟩
  case round =>
    obtain ⟨k, hk, rfl, HOr, HTr⟩ := hrel
    rename_i wr
    by_cases hlt : k < n
    · have glt : decide ((k : Int) < (n : Int)) = true := by simp; omega
      have HK := Lib.hid hlt
      have hat := HAt.out wr HTr.out
      have d0 := cell_of hat 0
      have d1 := cell_of hat 1
      have d2 := cell_of hat 2
      have d3 := cell_of hat 3
      have d4 := cell_of hat 4
      have HC := Lib.hid (blank_any a wr)
      clear hat hlt
      go_wp2_with fail
      refine (show Calls _ _ _ _ _ from HC.out).mono ?_
      rintro e w1 ⟨rfl, b1⟩
      have ho1 := own_below HOr.out b1 (Nat.le_refl _)
      have T1 := Lib.hid (HTr.out.trans (Turns.of b1))
      have hkl : x + k < (fillV l x k a).length := by rw [fillV_len l x k a (by have := HX.out; omega)]; have := HX.out; have := HK.out; omega
      obtain ⟨sl, fz⟩ := own_slots ho1 (k := x + k) hkl
      obtain ⟨a0, e0⟩ := sl 0 (by decide)
      obtain ⟨a1, e1⟩ := sl 1 (by decide)
      obtain ⟨a2, e2⟩ := sl 2 (by decide)
      obtain ⟨a3, e3⟩ := sl 3 (by decide)
      obtain ⟨a4, e4⟩ := sl 4 (by decide)
      obtain ⟨a5, e5⟩ := sl 5 (by decide)
      obtain ⟨a6, e6⟩ := sl 6 (by decide)
      rw [Nat.add_zero] at e0
      have j1 := idx_win g x n c' k HK.out
      have S1 := Lib.hid (own_set ho1 hkl (blankC a))
      rw [fillV_succ l x k a (by have := HX.out; have := HK.out; omega)] at S1
      have T2 := Lib.hid (T1.out.set (x + k) (blankC a))
      clear ho1 b1 hkl HC sl d0 d1 d2 d3 d4
      obtain ⟨y, hy⟩ : ∃ y, y = x + k := ⟨_, rfl⟩
      rw [← hy] at e0 e1 e2 e3 e4 e5 e6 j1 S1 T2
      clear hy
      have z1 : IntKind.i64.wrap ((k : Int) + 1) = (k : Int) + 1 := IntWalk.i64_in _ (by have := HX.out; have := HK.out; omega)
      go_wp2
      go_roundw
      case rel => exact ⟨k + 1, HK.out, by go_num, S1, T2⟩
      case measure => have := HK.out; simp [RowKit.intOf]; omega
    · have : k = n := by omega
      subst this
      have glt : decide ((k : Int) < (k : Int)) = false := by simp
      go_wp2
      go_end0
      exact ⟨rfl, HOr.out, HT.out _ HTr.out⟩

set_option maxRecDepth 100000 in
theorem fill_none (p : Option Addr) (c' : Nat) (a : Aa) (w : World) : Calls Try.prog 39 #[.slice p 0 c', attrV a] w fun e w' => e = .returned (.tuple #[]) ∧ Below w.heap.size w w' := by
  obtain ⟨W, hW, hB, hs, hat⟩ := box_at w a
  have HB := Lib.hid hB
  have HW := Lib.hid hW
  clear hW hB hs hat
  go_enter Try.func39, Try.ntmps39
  go_upto_region 1 with fail
  change Code.wp _ _ _ _ (w.alloc (attrO a))
  rw [← HW.out]
  clear HW
  go_wp2
  go_loopw [7] (fun i wr => i = .int .i64 0 ∧ Hid (Below w.heap.size w wr)) (fun i _ => 0)
  case atStart => exact ⟨rfl, HB⟩
  case round =>
    obtain ⟨rfl, HR⟩ := hrel
    go_wp2
    go_end0
    exact ⟨rfl, HR.out⟩
/-- A window of a row of the call's own, made blanks. -/
theorem erase_any {w : World} {base g N c : Nat} {l : List Ce} (hO : OwnC w base (.slice (some ⟨g, 0, none⟩) N c) l) (x n c' : Nat) {p : Option Addr} (hp : p = some ⟨g, x * 7, none⟩ ∨ n = 0) (hx : x + n ≤ l.length) (hl : l.length ≤ 100000) (a : Aa) :
    Calls Try.prog 39 #[.slice p n c', attrV a] w fun e w' => e = .returned (.tuple #[]) ∧ OwnC w' base (.slice (some ⟨g, 0, none⟩) N c) (fillV l x n a) ∧ Turns g w w' := by
  by_cases h0 : n = 0
  · subst h0
    refine (fill_none p c' a w).mono ?_
    rintro e w' ⟨he, hb⟩
    refine ⟨he, ?_, Turns.of hb⟩
    rw [fillV_zero]
    exact own_below hO hb (Nat.le_refl _)
  · obtain rfl := hp.resolve_right h0
    exact fill_any hO x n c' hx hl a
end Go.Proofs.Ytifolcfnknlmdaa.Rw
