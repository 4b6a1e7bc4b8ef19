/- Layer 3: the methods of a quota with keys of type int (written by gen_int.py out of the texts for strings). -/
import Derived.Test.YthjechngpjkgnaaQuoD
import Derived.Defers
import Derived.Recover
namespace Go.Proofs.Ythjechngpjkgnaa.OfInt
open Go.RowKit Go.Maps Go.ChangeMaps

theorem keyedS : Keyed Try.prog 3 := int_keyed Try.underlying3
abbrev QS := IsQ 60 3

theorem caught (w : World) :
    CallsD Try.prog 36 #[] .returning w fun e u' w' => e = .returned (.tuple #[]) ∧ u' = .returning ∧ w' = w := by
  refine callsD_of_wpS Try.func36 rfl fun c₀ cs hu => ?_
  apply wpS_region
  cases c₀
  simp_all [wpOpsS, go_sem, recoverD, Try.ntmps36, bodyPostS, results, Try.results36]

theorem find_at (q m : Nat) (key : Int) (v : Value) (w : World) (c1 : w.cell? ⟨q, 1, none⟩ = some (.map (some m))) (hl : (Instr.lookup 58 (.map (some m)) (.int .i64 key) false).run Try.prog w = .ok v w) :
    Calls Try.prog 31 #[.pointer (some ⟨q, 0, none⟩), .int .i64 key] w fun e w' => e = .returned (.tuple #[v, .bool true]) ∧ w = w' := by
  have hmf : ∀ (fn : Fn) (first cap : Array Value) (w : World), (Instr.makeFunc fn first cap).run Try.prog w = .ok (.func fn first cap) w := fun _ _ _ _ => rfl
  go_enter_defers Try.func31, Try.ntmps31
  go_wp2
  refine leaves_cons (f := 36) (args := #[]) (by simp) (by simp [go_sem]) ?_
  refine (caught _).mono ?_
  rintro e u' w'' ⟨rfl, rfl, rfl⟩
  simp [Leaves, settle, results, Try.results31, go_sem]


theorem left_any (q m : Nat) (most : Int) (T : Value → Int) (n : Nat) (S : Nat → Prop) (key : Int) (w : World) (h : QS w q m most T n S) (hk : (Lit.int .i64 key).wf = true) :
    Calls Try.prog 24 #[.pointer (some ⟨q, 0, none⟩), .int .i64 key] w fun e w' => e = .returned (.int .i64 (most - T (.int .i64 key))) ∧ ∃ j, w' = w.drewN j := by
  obtain ⟨c0, c1⟩ := h.cells
  have hnot : ∀ (x : Bool) (w : World), (Op.unary .not (.bool x)).run Try.prog w = .ok (.bool (!x)) w := fun _ _ => rfl
  have hf := h.fits (.int .i64 key)
  have hlim := h.lim
  rcases h.at keyedS Try.underlying58 (keyOf_int_mk Try.underlying3 hk) with ⟨h0, hl⟩ | ⟨c, h0, hS, hc, hl⟩
  · have HF := Lib.hid (find_at q m key _ w c1 hl)
    have H0 := Lib.hid h0
    clear hl h0 c1 h
    go_enter Try.func24, Try.ntmps24
    go_wp2_with fail
    refine HF.out.mono ?_
    rintro e w' ⟨rfl, rfl⟩
    go_wp2
    go_ret
    exact ⟨ret_int (by rw [H0.out]; omega), 0, rfl⟩
  · have HF := Lib.hid (find_at q m key _ w c1 hl)
    have HC := Lib.hid hc
    have hs := IntWalk.i64_in (most - T (.int .i64 key)) (by omega)
    clear hl c1 h hS hc
    go_enter Try.func24, Try.ntmps24
    go_wp2_with fail
    refine HF.out.mono ?_
    rintro e w' ⟨rfl, rfl⟩
    go_wp2_with fail
    go_quiet ((go_at_call 28; exact still_left (load_any c _ _ HC.out)))
    go_wp2
    go_ret
    exact ⟨rfl, _, rfl⟩

def NewPost (w : World) (most : Int) (e : Ending) (w' : World) : Prop :=
  ∃ q m, e = .returned (.tuple #[.pointer (some ⟨q, 0, none⟩), .int .i64 0]) ∧ w.heap.size ≤ q ∧ w.heap.size ≤ m ∧ QS w' q m most (fun _ => 0) 0 (fun _ => False) ∧ Below w.heap.size w w'

theorem new_none (most : Int) (w : World) (h : most < 0 ∨ 1099511627776 < most) :
    Calls Try.prog 9 #[.int .i64 most] w fun e w' => e = .returned (.tuple #[.pointer none, .int .i64 1]) ∧ w = w' := by
  rcases h with h | h
  · go_enter Try.func9, Try.ntmps9
    go_wp2
    go_ret2
    exact ⟨rfl, rfl⟩
  · have h0 : ¬ most < 0 := by omega
    go_enter Try.func9, Try.ntmps9
    go_wp2
    go_ret2
    exact ⟨rfl, rfl⟩

theorem new_some (most : Int) (w : World) (h : 0 ≤ most ∧ most ≤ 1099511627776) :
    Calls Try.prog 9 #[.int .i64 most] w (NewPost w most) := by
  have h0 : ¬ most < 0 := by omega
  have h1 : ¬ 1099511627776 < most := by omega
  have hmm := @run_makeMap Try.prog
  go_enter Try.func9, Try.ntmps9
  go_wp2
  go_ret2
  refine ⟨w.heap.size + 1, w.heap.size, by simp, by omega, by omega, ⟨?_, ⟨#[], 0, ?_, rfl, ?_⟩, h, fun v => ⟨by simp, h.1⟩, fun _ hc => hc.elim⟩, ?_⟩
  · exact alloc_at _ _ (by simp)
  · exact ((MapKept.heap_alloc _ _).2 _ (by simp)).trans (MapKept.heap_alloc _ _).1
  · exact ⟨by simp, by simp, fun _ _ => rfl, by simp, by simp⟩
  · exact ((Below.refl _ _).alloc (Nat.le_refl _) _).alloc (by simp) _


def AddPost (w : World) (q m : Nat) (most : Int) (T : Value → Int) (n : Nat) (S : Nat → Prop) (key : Value) (x : Int) (e : Ending) (w' : World) : Prop :=
  e = .returned (.tuple #[]) ∧ ∃ T' n' S', QS w' q m most T' n' S' ∧ Turned w w' m S S' ∧ Took T T' n n' key x

theorem qadd_any (q m : Nat) (most : Int) (T : Value → Int) (n : Nat) (S : Nat → Prop) (key : Int) (x : Int) (w : World) (h : QS w q m most T n S) (hk : (Lit.int .i64 key).wf = true) (hx : 0 < x ∧ x ≤ most - T (.int .i64 key)) :
    Calls Try.prog 25 #[.pointer (some ⟨q, 0, none⟩), .int .i64 key, .int .i64 x] w (AddPost w q m most T n S (.int .i64 key) x) := by
  obtain ⟨c0, c1⟩ := h.cells
  have hkey := keyOf_int_mk (P := Try.prog) Try.underlying3 hk
  have hf := h.fits (.int .i64 key)
  have hlim := h.lim
  rcases h.at keyedS Try.underlying58 hkey with ⟨h0, hl⟩ | ⟨c, h0, hS, hc, hl⟩
  · obtain ⟨es, clock, he, hks, hno⟩ := h.free h0
    have he1 : (w.alloc (.cells #[.int .i64 0] 75 (0, 0))).heap[m]? = some (.map es clock) := ((MapKept.heap_alloc _ _).2 _ h.lt.2).trans he
    have hst := store_raw (P := Try.prog) (val := .pointer (some ⟨w.heap.size, 0, none⟩)) keyedS Try.underlying58 he1 hks hkey hno
    have hcc : (setBlock (w.alloc (.cells #[.int .i64 0] 75 (0, 0))) m (.map (es.push ⟨.int .i64 key, .pointer (some ⟨w.heap.size, 0, none⟩), clock⟩) (clock + 1))).heap[w.heap.size]? = some (.cells #[.int .i64 0] 75 (0, 0)) := by
      rw [heap_setBlock_other he1 _ (by have := h.lt.2; omega)]
      exact (MapKept.heap_alloc _ _).1
    have HF := Lib.hid (fun w3 hw => h.fresh (w3 := w3) hkey h0 he hx hw)
    have HA := Lib.hid (add_any w.heap.size 0 x _ hcc (by omega) (by omega))
    have hq : q < w.heap.size := h.lt.1
    have c1' : (w.alloc (.cells #[.int .i64 0] 75 (0, 0))).cell? ⟨q, 1, none⟩ = some (.map (some m)) := by
      rw [World.cell?_alloc_past _ _ _ hq]; exact c1
    clear h he he1 hks hno hcc hkey c0
    go_enter Try.func25, Try.ntmps25
    go_wp2_with fail
    refine HA.out.mono ?_
    rintro e w' ⟨rfl, rfl⟩
    go_wp2_with fail
    go_end0
    exact ⟨rfl, HF.out _ (by rw [Int.zero_add])⟩
  · have HB := Lib.hid (h.bump keyedS Try.underlying58 hkey hl hx)
    have HA := Lib.hid (add_any c _ x _ hc (by omega) (by omega))
    clear h hc hS hkey c0
    go_enter Try.func25, Try.ntmps25
    go_wp2_with fail
    refine HA.out.mono ?_
    rintro e w' ⟨rfl, rfl⟩
    go_wp2_with fail
    go_end0
    exact ⟨rfl, HB.out⟩

def TakePost (w : World) (q m : Nat) (most : Int) (T : Value → Int) (n : Nat) (S : Nat → Prop) (key : Value) (x : Int) (e : Ending) (w' : World) : Prop :=
  e = .returned (.bool (okB most (T key) x)) ∧ ∃ T' n' S', QS w' q m most T' n' S' ∧ Turned w w' m S S' ∧ Taken most T T' n n' key x

theorem take_any (q m : Nat) (most : Int) (T : Value → Int) (n : Nat) (S : Nat → Prop) (key : Int) (x : Int) (w : World) (h : QS w q m most T n S) (hk : (Lit.int .i64 key).wf = true) :
    Calls Try.prog 12 #[.pointer (some ⟨q, 0, none⟩), .int .i64 key, .int .i64 x] w (TakePost w q m most T n S (.int .i64 key) x) := by
  by_cases hx0 : x < 0
  · have HP : Hid (TakePost w q m most T n S (.int .i64 key) x (.returned (.bool false)) w) := Lib.hid (by
      have hno : okB most (T (.int .i64 key)) x = false := by simp [okB]; omega
      exact ⟨ret_bool hno.symm, T, n, S, h, turned_drew w 0 m S, taken_not hno⟩)
    clear h
    go_enter Try.func12, Try.ntmps12
    go_wp2_with fail
    go_ret
    exact HP.out
  have hf := h.fits (.int .i64 key)
  have hlim := h.lim
  have HL := Lib.hid (left_any q m most T n S key w h hk)
  by_cases hx1 : most - T (.int .i64 key) < x
  · have HP : ∀ j, Hid (TakePost w q m most T n S (.int .i64 key) x (.returned (.bool false)) (w.drewN j)) := fun j => Lib.hid (by
      have hno : okB most (T (.int .i64 key)) x = false := by simp [okB]; omega
      exact ⟨ret_bool hno.symm, T, n, S, h.drewN j, turned_drew w j m S, taken_not hno⟩)
    clear h
    go_enter Try.func12, Try.ntmps12
    go_wp2_with fail
    refine HL.out.mono ?_
    rintro e w' ⟨rfl, j, rfl⟩
    go_wp2_with fail
    go_ret
    exact (HP j).out
  by_cases hx2 : 0 < x
  · have HA := fun j => Lib.hid (qadd_any q m most T n S key x _ (h.drewN j) hk ⟨hx2, by omega⟩)
    have HX : Hid (0 < x ∧ x ≤ most - T (.int .i64 key)) := Lib.hid ⟨hx2, by omega⟩
    clear h
    go_enter Try.func12, Try.ntmps12
    go_wp2_with fail
    refine HL.out.mono ?_
    rintro e w' ⟨rfl, j, rfl⟩
    go_wp2_with fail
    refine (HA j).out.mono ?_
    rintro e w' ⟨rfl, T', n', S', hQ, hT, hK⟩
    have HP : Hid (TakePost w q m most T n S (.int .i64 key) x (.returned (.bool true)) w') := Lib.hid (by
      obtain ⟨a, b⟩ := taken_of hK HX.out
      exact ⟨ret_bool a.symm, T', n', S', hQ, hT.of_drew, b⟩)
    clear hQ hT hK
    go_wp2_with fail
    go_ret
    exact HP.out
  · have hxe : x = 0 := by omega
    have HP : ∀ j, Hid (TakePost w q m most T n S (.int .i64 key) x (.returned (.bool true)) (w.drewN j)) := fun j => Lib.hid (by
      have hok : okB most (T (.int .i64 key)) x = true := by simp [okB]; omega
      exact ⟨ret_bool hok.symm, T, n, S, h.drewN j, turned_drew w j m S, hxe ▸ taken_zero⟩)
    clear h hxe
    go_enter Try.func12, Try.ntmps12
    go_wp2_with fail
    refine HL.out.mono ?_
    rintro e w' ⟨rfl, j, rfl⟩
    go_wp2_with fail
    go_ret
    exact (HP j).out

end Go.Proofs.Ythjechngpjkgnaa.OfInt
