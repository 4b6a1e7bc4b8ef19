/- Layer 1: bounds: all joins made. -/
import Derived.Test.YtnccnaadhknfbaaLatG
import Derived.Deep.RegionWith
import Derived.Deep.CutBlock
namespace Go.Proofs.Ytnccnaadhknfbaa
open Go.RowKit Lat

theorem info_ints : (Try.prog.info? 55).map (fun i => (i.zero, i.size, i.bytes)) = some (some (.slice none 0 0), 1, 24) := by kernel_rfl
theorem info_int : (Try.prog.info? 3).map (fun i => (i.zero, i.size, i.bytes)) = some (some (.int .i64 0), 1, 8) := by kernel_rfl

/-- Joins while they are being made: all rows ahead of k, and of row k those ahead of j (if c is true, row k is there). -/
structure Fill (w wr : World) (n : Nat) (J : Nat → Nat → Int) (k j : Nat) (c : Bool) : Prop where
  old : Below w.heap.size w wr
  size : wr.heap.size = w.heap.size + 1 + k + (if c then 1 else 0)
  top : wr.rowIs w.heap.size 55 n (fun i => if i < k + (if c then 1 else 0) then .slice (some ⟨w.heap.size + 1 + i, 0, none⟩) n n else .slice none 0 0)
  rows : ∀ i, i < k → wr.rowIs (w.heap.size + 1 + i) 3 n (fun j => .int .i64 (J i j))
  row : c = true → wr.rowIs (w.heap.size + 1 + k) 3 n (fun x => if x < j then .int .i64 (J k x) else .int .i64 0)

theorem Fill.drewN {w wr : World} {n : Nat} {J : Nat → Nat → Int} {k j : Nat} {c : Bool} (h : Fill w wr n J k j c) (q : Nat) : Fill w (wr.drewN q) n J k j c := ⟨below_drew h.old q, h.size, h.top, h.rows, h.row⟩

theorem Fill.put {w wr : World} {n : Nat} {J : Nat → Nat → Int} {k j : Nat} (h : Fill w wr n J k j true) : Fill w (wr.setCell ⟨w.heap.size + 1 + k, j, none⟩ (.int .i64 (J k j))) n J k (j + 1) true where
  old := h.old.setCell (by show _ ≤ w.heap.size + 1 + k; omega) _
  size := by simpa using h.size
  top := h.top.setOther (by show _ ≠ w.heap.size + 1 + k; omega) _
  rows := fun i hi => (h.rows i hi).setOther (by show _ ≠ w.heap.size + 1 + k; omega) _
  row := fun _ => ((h.row rfl).set j _).congr fun i hi => by
    by_cases e : i = j
    · subst e; simp
    · simp only [e, if_false]
      by_cases hl : i < j
      · rw [if_pos hl, if_pos (by omega)]
      · rw [if_neg hl, if_neg (by omega)]

theorem Fill.next {w wr : World} {n : Nat} {J : Nat → Nat → Int} {k : Nat} (h : Fill w wr n J k n true) : Fill w wr n J (k + 1) 0 false where
  old := h.old
  size := by have := h.size; simp at this ⊢; omega
  top := h.top.congr fun i hi => by simp
  rows := fun i hi => by
    by_cases e : i = k
    · subst e
      exact (h.row rfl).congr fun x hx => by rw [if_pos hx]
    · exact h.rows i (by omega)
  row := fun h => by cases h

theorem Fill.begin {w wr : World} {n : Nat} {J : Nat → Nat → Int} {k : Nat} (h : Fill w wr n J k 0 false) :
    Fill w ((wr.alloc (.cells (madeCells #[.int .i64 0] n) 3)).setCell ⟨w.heap.size, k, none⟩ (.slice (some ⟨w.heap.size + 1 + k, 0, none⟩) n n)) n J k 0 true := by
  have hs : wr.heap.size = w.heap.size + 1 + k := by have := h.size; simpa using this
  refine ⟨(h.old.alloc (by omega) _).setCell (by show _ ≤ w.heap.size; omega) _, by simp; omega, ?_, fun i hi => ?_, fun _ => ?_⟩
  · refine ((h.top.alloc _).set k _).congr fun i hi => ?_
    by_cases e : i = k
    · subst e; simp
    · simp only [e, if_false]
      by_cases hl : i < k
      · rw [if_pos (by simpa using hl), if_pos (by simp; omega)]
      · rw [if_neg (by simpa using hl), if_neg (by simp; omega)]
  · exact ((h.rows i hi).alloc _).setOther (by show _ ≠ w.heap.size; omega) _
  · have := World.rowIs_made wr (.int .i64 0) n 3
    rw [hs] at this
    exact (this.setOther (by show _ ≠ w.heap.size; omega) _).congr fun i hi => by simp

theorem Fill.table {w wr : World} {n : Nat} {J : Nat → Nat → Int} (h : Fill w wr n J n 0 false) : Table wr (.slice (some ⟨w.heap.size, 0, none⟩) n n) n J :=
  ⟨w.heap.size, fun i => w.heap.size + 1 + i, rfl, h.top.congr fun i hi => by rw [if_pos (by simpa using hi)], h.rows⟩

set_option maxHeartbeats 800000 in
theorem bounds_any (b n : Nat) (T : Nat → Nat → Bool) (w : World) (hn : n ≤ 64) (h : Side w b n T) :
    Calls Try.prog 40 #[.slice (some ⟨b, 0, none⟩) n n] w fun e w' => ∃ v, e = .returned v ∧ Table w' v n (joinT n T) ∧ Below w.heap.size w w' ∧ ∃ a, v = .slice (some ⟨a, 0, none⟩) n n := by
  have hm1 := run_make_row' (P := Try.prog) 51 55 (.slice none 0 0) 24 Try.underlying51 info_ints rfl .i64 .i64 n (by omega) (by omega)
  have hm2 := run_make_row' (P := Try.prog) 55 3 (.int .i64 0) 8 Try.underlying55 info_int rfl .i64 .i64 n (by omega) (by omega)
  have hbl := h.lt
  obtain ⟨U, hr, hU⟩ := h
  have BU := fun (W : World) (hW : Below w.heap.size w W) (x y : Nat) (hx : x < n) (hy : y < n) => bound_any b n U T x y W hn (fun i hi => (hW.cell (p := ⟨b, i, none⟩) hbl).trans (hr.cell hi)) hU hx hy
  have HB := Lib.hid BU
  clear BU hr hU
  go_enter Try.func40, Try.ntmps40
  go_wp2
  go_loopw [11] (fun i wr => ∃ k : Nat, k ≤ n ∧ i = .int .i64 k ∧ Fill w wr n (joinT n T) k 0 false) (fun i _ => n - (intOf i).toNat)
  case atStart => exact ⟨0, Nat.zero_le _, rfl, ⟨(Below.refl _ w).alloc (Nat.le_refl _) _, by simp, (World.rowIs_made w (.slice none 0 0) n 55).congr fun i hi => by simp, fun i hi => by omega, fun h => by cases h⟩⟩
  case round =>
    obtain ⟨k, hk, rfl, hF⟩ := hrel
    rename_i wr
    by_cases hlt : k < n
    · have hs : wr.heap.size = w.heap.size + 1 + k := by have := hF.size; simpa using this
      have hr0 := hF.top.alloc (.cells (madeCells #[.int .i64 0] n) 3)
      have ct := hr0.cell hlt
      rw [if_neg (by simp)] at ct
      have ft := hr0.frozen k
      have hF1 := hF.begin
      have ct1 := hF1.top.cell hlt
      rw [if_pos (by simp)] at ct1
      have HF := Lib.hid hF1
      clear hF hF1 hr0
      go_wp2
      clear hm1 hm2 ct ft ct1 hs
      go_loopw [25] (fun i wr => ∃ j : Nat, j ≤ n ∧ i = .int .i64 j ∧ Fill w wr n (joinT n T) k j true) (fun i _ => n - (intOf i).toNat)
      case atStart => exact ⟨0, Nat.zero_le _, rfl, HF.out⟩
      case round =>
        clear HF
        obtain ⟨j, hj, rfl, hF⟩ := hrel
        rename_i wr
        by_cases hjt : j < n
        · have ct := hF.top.cell hlt
          rw [if_pos (by simp)] at ct
          have cj := (hF.row rfl).cell hjt
          rw [if_neg (by simp)] at cj
          have fj := (hF.row rfl).frozen j
          have HF := Lib.hid hF
          clear hF
          go_upto_block 3 with (fail)
          go_cut [] (fun wc => Fill w wc n (joinT n T) k (j + 1) true)
          case first =>
            go_wp2_with fail
            go_region_with (go_at_call 37; refine (HB.out _ ?_ k j hlt hjt).mono ?_; exact HF.out.old.drew; rintro e w' ⟨rfl, q, rfl⟩)
            all_goals (go_wp2_with fail; go_meet; exact (HF.out.drewN _).put)
          case rest =>
            clear ct cj fj HF
            have HF := Lib.hid hcut
            clear hcut
            go_wp2
            go_roundw
            case rel => exact ⟨j + 1, by omega, by go_num, HF.out⟩
            case measure => simp [intOf]; omega
        · have hjn : j = n := by omega
          subst hjn
          have HF := Lib.hid hF.next
          clear hF
          go_wp2
          go_roundw
          case rel => exact ⟨k + 1, by omega, by go_num, HF.out⟩
          case measure => simp [intOf]; omega
    · have hkn : k = n := by omega
      subst hkn
      have HF := Lib.hid hF
      clear hF
      go_wp2
      go_ret
      exact ⟨_, rfl, HF.out.table, HF.out.old, _, rfl⟩
end Go.Proofs.Ytnccnaadhknfbaa
