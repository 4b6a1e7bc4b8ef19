/- Layer 3: add and Take of a quota with keys of type string. -/
import Derived.Test.YthjechngpjkgnaaQuoC
namespace Go.Proofs.Ythjechngpjkgnaa
open Go.RowKit Go.Maps Go.ChangeMaps

def AddPost (w : World) (q m : Nat) (most : Int) (T : Value → Int) (n : Nat) (S : Nat → Prop) (key : Value) (x : Int) (e : Ending) (w' : World) : Prop :=
  e = .returned (.tuple #[]) ∧ ∃ T' n' S', QS w' q m most T' n' S' ∧ Turned w w' m S S' ∧ Took T T' n n' key x

theorem qadd_any (q m : Nat) (most : Int) (T : Value → Int) (n : Nat) (S : Nat → Prop) (key : ByteArray) (x : Int) (w : World) (h : QS w q m most T n S) (hk : key.size ≤ maxLen) (hx : 0 < x ∧ x ≤ most - T (.string key)) :
    Calls Try.prog 26 #[.pointer (some ⟨q, 0, none⟩), .string key, .int .i64 x] w (AddPost w q m most T n S (.string key) x) := by
  obtain ⟨c0, c1⟩ := h.cells
  have hkey := WideMaps.keyOf_string_mk (P := Try.prog) Try.underlying9 hk
  have hf := h.fits (.string key)
  have hlim := h.lim
  rcases h.at keyedS Try.underlying49 hkey with ⟨h0, hl⟩ | ⟨c, h0, hS, hc, hl⟩
  · obtain ⟨es, clock, he, hks, hno⟩ := h.free h0
    have he1 : (w.alloc (.cells #[.int .i64 0] 75 (0, 0))).heap[m]? = some (.map es clock) := ((MapKept.heap_alloc _ _).2 _ h.lt.2).trans he
    have hst := store_raw (P := Try.prog) (val := .pointer (some ⟨w.heap.size, 0, none⟩)) keyedS Try.underlying49 he1 hks hkey hno
    have hcc : (setBlock (w.alloc (.cells #[.int .i64 0] 75 (0, 0))) m (.map (es.push ⟨.string key, .pointer (some ⟨w.heap.size, 0, none⟩), clock⟩) (clock + 1))).heap[w.heap.size]? = some (.cells #[.int .i64 0] 75 (0, 0)) := by
      rw [heap_setBlock_other he1 _ (by have := h.lt.2; omega)]
      exact (MapKept.heap_alloc _ _).1
    have HF := Lib.hid (fun w3 hw => h.fresh (w3 := w3) hkey h0 he hx hw)
    have HA := Lib.hid (add_any w.heap.size 0 x _ hcc (by omega) (by omega))
    have hq : q < w.heap.size := h.lt.1
    have c1' : (w.alloc (.cells #[.int .i64 0] 75 (0, 0))).cell? ⟨q, 1, none⟩ = some (.map (some m)) := by
      rw [World.cell?_alloc_past _ _ _ hq]; exact c1
    clear h he he1 hks hno hcc hkey c0
    go_enter Try.func26, Try.ntmps26
    go_wp2_with fail
    refine HA.out.mono ?_
    rintro e w' ⟨rfl, rfl⟩
    go_wp2_with fail
    go_end0
    exact ⟨rfl, HF.out _ (by rw [Int.zero_add])⟩
  · have HB := Lib.hid (h.bump keyedS Try.underlying49 hkey hl hx)
    have HA := Lib.hid (add_any c _ x _ hc (by omega) (by omega))
    clear h hc hS hkey c0
    go_enter Try.func26, Try.ntmps26
    go_wp2_with fail
    refine HA.out.mono ?_
    rintro e w' ⟨rfl, rfl⟩
    go_wp2_with fail
    go_end0
    exact ⟨rfl, HB.out⟩

def TakePost (w : World) (q m : Nat) (most : Int) (T : Value → Int) (n : Nat) (S : Nat → Prop) (key : Value) (x : Int) (e : Ending) (w' : World) : Prop :=
  e = .returned (.bool (okB most (T key) x)) ∧ ∃ T' n' S', QS w' q m most T' n' S' ∧ Turned w w' m S S' ∧ Taken most T T' n n' key x

theorem take_any (q m : Nat) (most : Int) (T : Value → Int) (n : Nat) (S : Nat → Prop) (key : ByteArray) (x : Int) (w : World) (h : QS w q m most T n S) (hk : key.size ≤ maxLen) :
    Calls Try.prog 15 #[.pointer (some ⟨q, 0, none⟩), .string key, .int .i64 x] w (TakePost w q m most T n S (.string key) x) := by
  by_cases hx0 : x < 0
  · have HP : Hid (TakePost w q m most T n S (.string key) x (.returned (.bool false)) w) := Lib.hid (by
      have hno : okB most (T (.string key)) x = false := by simp [okB]; omega
      exact ⟨ret_bool hno.symm, T, n, S, h, turned_drew w 0 m S, taken_not hno⟩)
    clear h
    go_enter Try.func15, Try.ntmps15
    go_wp2_with fail
    go_ret
    exact HP.out
  have hf := h.fits (.string key)
  have hlim := h.lim
  have HL := Lib.hid (left_any q m most T n S key w h hk)
  by_cases hx1 : most - T (.string key) < x
  · have HP : ∀ j, Hid (TakePost w q m most T n S (.string key) x (.returned (.bool false)) (w.drewN j)) := fun j => Lib.hid (by
      have hno : okB most (T (.string key)) x = false := by simp [okB]; omega
      exact ⟨ret_bool hno.symm, T, n, S, h.drewN j, turned_drew w j m S, taken_not hno⟩)
    clear h
    go_enter Try.func15, Try.ntmps15
    go_wp2_with fail
    refine HL.out.mono ?_
    rintro e w' ⟨rfl, j, rfl⟩
    go_wp2_with fail
    go_ret
    exact (HP j).out
  by_cases hx2 : 0 < x
  · have HA := fun j => Lib.hid (qadd_any q m most T n S key x _ (h.drewN j) hk ⟨hx2, by omega⟩)
    have HX : Hid (0 < x ∧ x ≤ most - T (.string key)) := Lib.hid ⟨hx2, by omega⟩
    clear h
    go_enter Try.func15, Try.ntmps15
    go_wp2_with fail
    refine HL.out.mono ?_
    rintro e w' ⟨rfl, j, rfl⟩
    go_wp2_with fail
    refine (HA j).out.mono ?_
    rintro e w' ⟨rfl, T', n', S', hQ, hT, hK⟩
    have HP : Hid (TakePost w q m most T n S (.string key) x (.returned (.bool true)) w') := Lib.hid (by
      obtain ⟨a, b⟩ := taken_of hK HX.out
      exact ⟨ret_bool a.symm, T', n', S', hQ, hT.of_drew, b⟩)
    clear hQ hT hK
    go_wp2_with fail
    go_ret
    exact HP.out
  · have hxe : x = 0 := by omega
    have HP : ∀ j, Hid (TakePost w q m most T n S (.string key) x (.returned (.bool true)) (w.drewN j)) := fun j => Lib.hid (by
      have hok : okB most (T (.string key)) x = true := by simp [okB]; omega
      exact ⟨ret_bool hok.symm, T, n, S, h.drewN j, turned_drew w j m S, hxe ▸ taken_zero⟩)
    clear h hxe
    go_enter Try.func15, Try.ntmps15
    go_wp2_with fail
    refine HL.out.mono ?_
    rintro e w' ⟨rfl, j, rfl⟩
    go_wp2_with fail
    go_ret
    exact (HP j).out

end Go.Proofs.Ythjechngpjkgnaa
