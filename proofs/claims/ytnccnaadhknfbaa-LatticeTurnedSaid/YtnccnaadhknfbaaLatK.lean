/- Layer 1: once: the slow road. -/
import Derived.Test.YtnccnaadhknfbaaLatJ
namespace Go.Proofs.Ytnccnaadhknfbaa
open Go.RowKit Lat

theorem Table.set_lat {w : World} {v : Value} {n : Nat} {J : Nat → Nat → Int} (h : Table w v n J) {lb : Nat} {c : Array Value} (hb : w.heap[lb]? = some (.cells c 53 (0, 0))) (i : Nat) (x : Value) : Table (w.setCell ⟨lb, i, none⟩ x) v n J :=
  h.keep (lb := w.heap.size) fun k c t hc ht => Below.heap_setCell w ⟨lb, i, none⟩ x k (by
    rintro rfl
    rcases ht with e | ht
    · have := lt_of hc; omega
    · rw [hb] at hc
      injection hc with hc
      injection hc with _ e
      exact ht e.symm)
theorem Side.keeps {w w' : World} {b n lb : Nat} {T : Nat → Nat → Bool} (h : Side w b n T) {c : Array Value} (hb : w.heap[lb]? = some (.cells c 53 (0, 0))) (hk : Keeps lb w w') : Side w' b n T := by
  obtain ⟨U, hr, hU⟩ := h
  exact ⟨U, row_keep hr fun c hc => hk.block b (lt_of hc) (row_ne hr hb (by decide)), hU⟩

set_option maxRecDepth 100000 in
set_option maxHeartbeats 1600000 in
theorem slow_any (lb ub db n : Nat) (T : Nat → Nat → Bool) (js ms : Value) (w : World) (h : LatAt w lb ub db n T 0 js ms) :
    Calls Try.prog 39 #[.pointer (some ⟨lb, 2, none⟩), .func (.func 32) #[.pointer (some ⟨lb, 0, none⟩)] #[]] w fun e w' => e = .returned (.tuple #[]) ∧ Keeps lb w w' ∧ ∃ js ms, LatAt w' lb ub db n T 1 js ms := by
  obtain ⟨c0, c1, c2, c3, c4, c5, c6⟩ := h.cells
  have f2 := frozen_of h.blk 2
  have f3 := frozen_of h.blk 3
  have hb1 := blk_set h.blk 3 (.int .i32 1)
  have c2' : (w.setCell ⟨lb, 3, none⟩ (.int .i32 1)).cell? ⟨lb, 2, none⟩ = some (.int .u32 0) := by rw [cell_of hb1]; rfl
  have hl := run_call_load (P := Try.prog) Try.func41 (by kernel_rfl) (by kernel_rfl) (by kernel_rfl) .u32 (by kernel_rfl) (w := w.setCell ⟨lb, 3, none⟩ (.int .i32 1)) (a := ⟨lb, 2, none⟩) (x := 0) c2'
  have hnot : ∀ (x : Bool) (w : World), (Op.unary .not (.bool x)).run Try.prog w = .ok (.bool (!x)) w := fun _ _ => rfl
  have su : Side (w.setCell ⟨lb, 3, none⟩ (.int .i32 1)) ub n T := by
    obtain ⟨U, hr, hU⟩ := h.up
    exact ⟨U, hr.setOther (row_ne hr h.blk (by decide)) _, hU⟩
  have sd : Side (w.setCell ⟨lb, 3, none⟩ (.int .i32 1)) db n (flipT T) := by
    obtain ⟨U, hr, hU⟩ := h.dn
    exact ⟨U, hr.setOther (row_ne hr h.blk (by decide)) _, hU⟩
  have HF := Lib.hid (fill_any lb ub db n T (.int .u32 0) (.int .i32 1) (.int .u32 0) js ms (w.setCell ⟨lb, 3, none⟩ (.int .i32 1)) h.le hb1 su sd)
  have H := Lib.hid h
  have SU := Lib.hid su
  have SD := Lib.hid sd
  clear h hb1 su sd c4 c5 c6 c0 c1
  go_enter_defers Try.func39, Try.ntmps39
  go_wp2_with (first | (go_at_call 42; refine (lock_free ⟨lb, 3, none⟩ _ c3 f3).mono ?_; rintro e w' ⟨rfl, rfl⟩) | (go_at_call 38; go_in))
  refine HF.out.mono ?_
  rintro e w2 ⟨rfl, hk2, js', ms', hb2, ht1, ht2⟩
  have hcA : w2.cell? ⟨lb, 2, none⟩ = some (.int .u32 0) := by rw [cell_of hb2]; rfl
  have fA : w2.frozen? ⟨lb, 2, none⟩ = false := frozen_of hb2 2
  have hb3 : (w2.drew.setCell ⟨lb, 2, none⟩ (.int .u32 1)).heap[lb]? = some (.cells (latCells ub db n (.int .u32 1) (.int .i32 1) (.int .u32 0) js' ms') 53 (0, 0)) := blk_set (w := w2.drew) hb2 2 _
  have hcB : (w2.drew.setCell ⟨lb, 2, none⟩ (.int .u32 1)).cell? ⟨lb, 3, none⟩ = some (.int .i32 1) := by rw [cell_of hb3]; rfl
  have fB : (w2.drew.setCell ⟨lb, 2, none⟩ (.int .u32 1)).frozen? ⟨lb, 3, none⟩ = false := frozen_of hb3 3
  have HE := Lib.hid (show Keeps lb w ((w2.drew.setCell ⟨lb, 2, none⟩ (.int .u32 1)).setCell ⟨lb, 3, none⟩ (.int .i32 0)) ∧ ∃ js ms, LatAt ((w2.drew.setCell ⟨lb, 2, none⟩ (.int .u32 1)).setCell ⟨lb, 3, none⟩ (.int .i32 0)) lb ub db n T 1 js ms from by
    have hk : Keeps lb w ((w2.drew.setCell ⟨lb, 2, none⟩ (.int .u32 1)).setCell ⟨lb, 3, none⟩ (.int .i32 0)) := ((((Keeps.set lb w 3 (.int .i32 1)).trans hk2).drew).trans (Keeps.set lb w2.drew 2 (.int .u32 1))).trans (Keeps.set lb _ 3 (.int .i32 0))
    exact ⟨hk, js', ms', ⟨blk_set hb3 3 _, H.out.up.keeps H.out.blk hk, H.out.dn.keeps H.out.blk hk, H.out.le, H.out.pos, Or.inr ⟨rfl, ((show Table w2.drew js' n (joinT n T) from ht1).set_lat (show w2.drew.heap[lb]? = _ from hb2) 2 _).set_lat hb3 3 _, ((show Table w2.drew ms' n (joinT n (flipT T)) from ht2).set_lat (show w2.drew.heap[lb]? = _ from hb2) 2 _).set_lat hb3 3 _⟩⟩⟩)
  clear hk2 hb2 ht1 ht2 hb3
  go_wp2
  refine leaves_cons (f := 44) (args := #[.pointer (some ⟨lb, 2, none⟩), .bool true]) (by simp) (by simp [go_sem]) ?_
  refine (store_deferred ⟨lb, 2, none⟩ (.int .u32 0) .returning _ hcA fA).mono ?_
  rintro e u' w'' ⟨rfl, rfl, rfl⟩
  refine leaves_cons (f := 43) (args := #[.pointer (some ⟨lb, 3, none⟩)]) (by simp [settle]) (by simp [go_sem]) ?_
  refine (unlock_deferred ⟨lb, 3, none⟩ _ _ hcB fB).mono ?_
  rintro e u' w'' ⟨rfl, rfl, rfl⟩
  exact ⟨_, results_none rfl _ _ _, rfl, HE.out⟩

theorem do_first (lb ub db n : Nat) (T : Nat → Nat → Bool) (js ms : Value) (w : World) (h : LatAt w lb ub db n T 0 js ms) :
    Calls Try.prog 31 #[.pointer (some ⟨lb, 2, none⟩), .func (.func 32) #[.pointer (some ⟨lb, 0, none⟩)] #[]] w fun e w' => e = .returned (.tuple #[]) ∧ Keeps lb w w' ∧ ∃ js ms, LatAt w' lb ub db n T 1 js ms := by
  obtain ⟨c0, c1, c2, c3, c4, c5, c6⟩ := h.cells
  have hl := run_call_load (P := Try.prog) Try.func41 (by kernel_rfl) (by kernel_rfl) (by kernel_rfl) .u32 (by kernel_rfl) c2
  have hnot : ∀ (x : Bool) (w : World), (Op.unary .not (.bool x)).run Try.prog w = .ok (.bool (!x)) w := fun _ _ => rfl
  have HS := Lib.hid (slow_any lb ub db n T js ms w h)
  clear h c0 c1 c3 c4 c5 c6
  go_enter Try.func31, Try.ntmps31
  go_wp2_with (go_at_call 38; go_in)
  refine HS.out.mono ?_
  rintro e w2 ⟨rfl, hk⟩
  have HK := Lib.hid hk
  clear hk
  go_wp2
  go_end0
  exact ⟨rfl, HK.out⟩

theorem do_done (a : Addr) (fv : Value) (w : World) (h0 : w.cell? a = some (.int .u32 1)) :
    Calls Try.prog 31 #[.pointer (some a), fv] w fun e w' => e = .returned (.tuple #[]) ∧ w = w' := by
  have hl := run_call_load (P := Try.prog) Try.func41 (by kernel_rfl) (by kernel_rfl) (by kernel_rfl) .u32 (by kernel_rfl) h0
  have hnot : ∀ (x : Bool) (w : World), (Op.unary .not (.bool x)).run Try.prog w = .ok (.bool (!x)) w := fun _ _ => rfl
  go_enter Try.func31, Try.ntmps31
  go_wp2
  go_end0
  exact ⟨rfl, rfl⟩

theorem do_any (lb n : Nat) (T : Nat → Nat → Bool) (w : World) (h : IsLat w lb n T) :
    Calls Try.prog 31 #[.pointer (some ⟨lb, 2, none⟩), .func (.func 32) #[.pointer (some ⟨lb, 0, none⟩)] #[]] w fun e w' => e = .returned (.tuple #[]) ∧ Keeps lb w w' ∧ ∃ ub db js ms, LatAt w' lb ub db n T 1 js ms := by
  obtain ⟨ub, db, d, js, ms, h⟩ := h
  rcases h.made with ⟨rfl, _, _⟩ | ⟨rfl, _, _⟩
  · exact (do_first lb ub db n T js ms w h).mono fun e w' ⟨he, hk, js, ms, hl⟩ => ⟨he, hk, ub, db, js, ms, hl⟩
  · exact (do_done ⟨lb, 2, none⟩ _ w h.cells.2.2.1).mono fun e w' ⟨he, hk⟩ => ⟨he, by rw [← hk]; exact Keeps.refl _ _, ub, db, js, ms, by rw [← hk]; exact h⟩

/-- What Join answers (Meet: with the order turned over). -/
def joinV (n : Nat) (T : Nat → Nat → Bool) (a b : Int) : Int := if isLabel n a && isLabel n b then joinT n T a.toNat b.toNat else -1

theorem join_any (lb n : Nat) (T : Nat → Nat → Bool) (a b : Int) (w : World) (h : IsLat w lb n T) :
    Calls Try.prog 15 #[.pointer (some ⟨lb, 0, none⟩), .int .i64 a, .int .i64 b] w fun e w' => e = .returned (.int .i64 (joinV n T a b)) ∧ IsLat w' lb n T ∧ Keeps lb w w' := by
  have H := Lib.hid h; clear h
  have hmf : ∀ (fn : Fn) (first cap : Array Value) (w : World), (Instr.makeFunc fn first cap).run Try.prog w = .ok (.func fn first cap) w := fun _ _ _ _ => rfl
  cases h1 : isLabel n a
  · have e1 : joinV n T a b = -1 := by simp [joinV, h1]
    have E1 := Lib.hid e1; clear e1
    go_enter Try.func15, Try.ntmps15
    go_wp2_with (go_at_call 30; refine (isLabel_any lb n T _ _ H.out).mono ?_; rintro e w' ⟨rfl, rfl⟩)
    go_ret
    exact ⟨ret_int (by rw [E1.out]), H.out, Keeps.refl _ _⟩
  · cases h2 : isLabel n b
    · have e1 : joinV n T a b = -1 := by simp [joinV, h2]
      have E1 := Lib.hid e1; clear e1
      go_enter Try.func15, Try.ntmps15
      go_wp2_with (go_at_call 30; refine (isLabel_any lb n T _ _ H.out).mono ?_; rintro e w' ⟨rfl, rfl⟩)
      go_ret
      exact ⟨ret_int (by rw [E1.out]), H.out, Keeps.refl _ _⟩
    · obtain ⟨x, hx, rfl⟩ := isLabel_true h1
      obtain ⟨y, hy, rfl⟩ := isLabel_true h2
      have e1 : joinV n T x y = joinT n T x y := by simp [joinV, h1, h2]
      have E1 := Lib.hid e1; clear e1
      go_enter Try.func15, Try.ntmps15
      go_wp2_with (go_at_call 30; refine (isLabel_any lb n T _ _ H.out).mono ?_; rintro e w' ⟨rfl, rfl⟩)
      refine (do_any lb n T _ H.out).mono ?_
      rintro e w2 ⟨rfl, hk, ub, db, js, ms, hl⟩
      have HI := Lib.hid (show IsLat w2 lb n T from ⟨ub, db, 1, js, ms, hl⟩)
      have HK := Lib.hid hk
      have c5 := hl.cells.2.2.2.2.2.1
      have hle := hl.le
      rcases hl.made with ⟨hh, _⟩ | ⟨_, ht, _⟩
      · cases hh
      obtain ⟨jb, R, rfl, hr, hR⟩ := ht
      have cx := hr.cell hx
      have cy := (hR x hx).cell hy
      clear hl hr hR hk
      go_wp2
      go_ret
      exact ⟨ret_int (by rw [E1.out]), HI.out, HK.out⟩

theorem meet_any (lb n : Nat) (T : Nat → Nat → Bool) (a b : Int) (w : World) (h : IsLat w lb n T) :
    Calls Try.prog 16 #[.pointer (some ⟨lb, 0, none⟩), .int .i64 a, .int .i64 b] w fun e w' => e = .returned (.int .i64 (joinV n (flipT T) a b)) ∧ IsLat w' lb n T ∧ Keeps lb w w' := by
  have H := Lib.hid h; clear h
  have hmf : ∀ (fn : Fn) (first cap : Array Value) (w : World), (Instr.makeFunc fn first cap).run Try.prog w = .ok (.func fn first cap) w := fun _ _ _ _ => rfl
  cases h1 : isLabel n a
  · have e1 : joinV n (flipT T) a b = -1 := by simp [joinV, h1]
    have E1 := Lib.hid e1; clear e1
    go_enter Try.func16, Try.ntmps16
    go_wp2_with (go_at_call 30; refine (isLabel_any lb n T _ _ H.out).mono ?_; rintro e w' ⟨rfl, rfl⟩)
    go_ret
    exact ⟨ret_int (by rw [E1.out]), H.out, Keeps.refl _ _⟩
  · cases h2 : isLabel n b
    · have e1 : joinV n (flipT T) a b = -1 := by simp [joinV, h2]
      have E1 := Lib.hid e1; clear e1
      go_enter Try.func16, Try.ntmps16
      go_wp2_with (go_at_call 30; refine (isLabel_any lb n T _ _ H.out).mono ?_; rintro e w' ⟨rfl, rfl⟩)
      go_ret
      exact ⟨ret_int (by rw [E1.out]), H.out, Keeps.refl _ _⟩
    · obtain ⟨x, hx, rfl⟩ := isLabel_true h1
      obtain ⟨y, hy, rfl⟩ := isLabel_true h2
      have e1 : joinV n (flipT T) x y = joinT n (flipT T) x y := by simp [joinV, h1, h2]
      have E1 := Lib.hid e1; clear e1
      go_enter Try.func16, Try.ntmps16
      go_wp2_with (go_at_call 30; refine (isLabel_any lb n T _ _ H.out).mono ?_; rintro e w' ⟨rfl, rfl⟩)
      refine (do_any lb n T _ H.out).mono ?_
      rintro e w2 ⟨rfl, hk, ub, db, js, ms, hl⟩
      have HI := Lib.hid (show IsLat w2 lb n T from ⟨ub, db, 1, js, ms, hl⟩)
      have HK := Lib.hid hk
      have c6 := hl.cells.2.2.2.2.2.2
      have hle := hl.le
      rcases hl.made with ⟨hh, _⟩ | ⟨_, _, ht⟩
      · cases hh
      obtain ⟨jb, R, rfl, hr, hR⟩ := ht
      have cx := hr.cell hx
      have cy := (hR x hx).cell hy
      clear hl hr hR hk
      go_wp2
      go_ret
      exact ⟨ret_int (by rw [E1.out]), HI.out, HK.out⟩
end Go.Proofs.Ytnccnaadhknfbaa
