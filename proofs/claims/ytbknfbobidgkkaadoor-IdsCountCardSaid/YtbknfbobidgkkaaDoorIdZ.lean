/- Layer 4: IdsCount's walk. -/
import Derived.Test.YtbknfbobidgkkaaDoorIdQ
namespace Go.Proofs.YtbknfbobidgkkaaDoor
open Go.RowKit Ids Lat

/-- Numbers of the call's own beside a row of 64 ints of its own. -/
structure CountI (w0 w : World) (B d n gb : Nat) (T U : Nat → Nat) : Prop where
  ids : ∃ g, IsIds w d g n T ∧ B ≤ g
  row : w.rowIs gb 3 64 (fun i => .int .i64 (U i : Nat))
  at_ : B ≤ gb
  old : Below B w0 w
  sz : B ≤ w.heap.size

theorem CountI.below {w0 w w' : World} {B d n gb : Nat} {T U : Nat → Nat} (h : CountI w0 w B d n gb T U) (hb : Below w.heap.size w w') : CountI w0 w' B d n gb T U := by
  obtain ⟨g, h1, h2⟩ := h.ids
  exact ⟨⟨g, h1.below hb, h2⟩, h.row.of_block (hb.block gb h.row.lt), h.at_, h.old.trans (hb.mono h.sz), Nat.le_trans h.sz hb.size⟩
theorem CountI.drewN {w0 w : World} {B d n gb : Nat} {T U : Nat → Nat} (h : CountI w0 w B d n gb T U) (j : Nat) : CountI w0 (w.drewN j) B d n gb T U := h.below (below_drew (Below.refl _ _) j)
theorem CountI.cell {w0 w : World} {B d n gb : Nat} {T U : Nat → Nat} (h : CountI w0 w B d n gb T U) {i : Nat} (hi : i < 64) : w.cell? ⟨gb, i, none⟩ = some (.int .i64 (U i : Nat)) := h.row.cell hi
theorem CountI.frozen {w0 w : World} {B d n gb : Nat} {T U : Nat → Nat} (h : CountI w0 w B d n gb T U) (i : Nat) : w.frozen? ⟨gb, i, none⟩ = false := h.row.frozen i
theorem CountI.some {w0 w : World} {B d n gb : Nat} {T U : Nat → Nat} (h : CountI w0 w B d n gb T U) : Some0 w (.pointer (some ⟨d, 0, none⟩)) n := by
  obtain ⟨g, hi', hg⟩ := h.ids
  exact hi'.some
theorem CountI.le {w0 w : World} {B d n gb : Nat} {T U : Nat → Nat} (h : CountI w0 w B d n gb T U) : n ≤ 64 := by
  obtain ⟨g, hi', hg⟩ := h.ids
  exact hi'.le

def CountNext (w0 : World) (B d n gb : Nat) (T U : Nat → Nat) (x : Int) (e : Ending) (w' : World) : Prop := e = .returned (.tuple #[.int .i64 x, .bool true]) ∧ CountI w0 w' B d n gb T U

theorem count_next {w0 w : World} {B d n gb i : Nat} {T U : Nat → Nat} (h : CountI w0 w B d n gb T U) (hi : i < n) (hT : T i ≤ 1000000) {x : Int} (hx : (T i : Int) = x) :
    Calls Tryd.prog 16 #[.pointer (some ⟨d, 0, none⟩), .int .i64 i] w (CountNext w0 B d n gb (more T i) U x) := by
  obtain ⟨g, hi', hg⟩ := h.ids
  refine (next_lab d g n i T w hi' hi hT).mono ?_
  rintro e w' ⟨rfl, h1, h2⟩
  have hne : gb ≠ g := by
    obtain ⟨c, hc, _⟩ := hi'.row
    exact row_ne h.row hc (by decide)
  exact ⟨by rw [hx], ⟨g, h1, hg⟩, h.row.of_block (h2.block gb h.row.lt hne), h.at_, h2.below hg h.old h.sz, Nat.le_trans h.sz h2.size⟩

theorem count_given {w0 w : World} {B d n gb : Nat} {T U : Nat → Nat} (a : Int) (h : CountI w0 w B d n gb T U) {x : Int} (hx : ansN n T a = x) :
    Calls Tryd.prog 17 #[.pointer (some ⟨d, 0, none⟩), .int .i64 a] w fun e w' => e = .returned (.int .i64 x) ∧ w = w' := by
  obtain ⟨g, hi', hg⟩ := h.ids
  exact hx ▸ given_any d g n T a w hi'

/-- One more counted. -/
theorem CountI.put {w0 w : World} {B d n gb : Nat} {T U : Nat → Nat} (h : CountI w0 w B d n gb T U) (i : Nat) : CountI w0 (w.setCell ⟨gb, i, none⟩ (.int .i64 ((U i : Nat) + 1))) B d n gb T (more U i) := by
  obtain ⟨g, hi', hg⟩ := h.ids
  have hoth : ∀ k, k ≠ gb → (w.setCell ⟨gb, i, none⟩ (.int .i64 ((U i : Nat) + 1))).heap[k]? = w.heap[k]? := fun k hk => RowKit.Below.heap_setCell _ _ _ _ hk
  have n1 : d ≠ gb := (row_ne h.row hi'.blk (by decide)).symm
  have n2 : g ≠ gb := by
    obtain ⟨c, hc, _⟩ := hi'.row
    exact (row_ne h.row hc (by decide)).symm
  refine ⟨⟨g, hi'.keep (hoth d n1) (hoth g n2), hg⟩, (h.row.set i _).congr fun j _ => ?_, h.at_, h.old.setCell h.at_ _, by simpa [World.setCell] using h.sz⟩
  unfold more
  by_cases e : j = i
  · subst e; simp
  · rw [if_neg e, if_neg e]

/-- What holds at a round's head. -/
def CountRel (w : World) (len d n gb : Nat) (i : Value) (wr : World) : Prop :=
  ∃ (k : Nat) (T : Nat → Nat), k ≤ len ∧ i = .int .i64 k ∧ (∀ i, T i ≤ k) ∧ (∀ i, n ≤ i → T i = 0) ∧ CountI w wr w.heap.size d n gb T T
def EndRel (w : World) (d n gb : Nat) (T : Nat → Nat) (i : Value) (wr : World) : Prop :=
  ∃ q : Nat, q ≤ 64 ∧ i = .int .i64 q ∧ CountI w wr w.heap.size d n gb T T

theorem gone_more {n i : Nat} {T : Nat → Nat} (h : ∀ i, n ≤ i → T i = 0) (hi : i < n) : ∀ j, n ≤ j → more T i j = 0 := fun j hj => by
  unfold more
  rw [if_neg (by omega)]
  exact h j hj
theorem ans_gone {n q : Nat} {T : Nat → Nat} (h : ∀ i, n ≤ i → T i = 0) : ansN n T q = T q := by
  by_cases hq : q < n
  · exact ans_lab hq
  · rw [ans_not (by simp [labB]; omega), h q (by omega)]; rfl

theorem make_64 (w : World) : (Instr.makeSlice 33 (.int .i64 64) (.int .i64 64)).run Tryd.prog w = .ok (.slice (some ⟨w.heap.size, 0, none⟩) 64 64) (w.alloc (.cells (madeCells #[.int .i64 0] 64) 3)) :=
  run_make_row' (P := Tryd.prog) 33 3 (.int .i64 0) 8 Tryd.underlying33 (by kernel_rfl) rfl .i64 .i64 64 (by omega) (by omega) w

set_option maxRecDepth 100000 in
set_option maxHeartbeats 8000000 in
theorem count_walk (r : Int) (len cap : Nat) (A : Option Addr) (X : Nat → Int) (w : World) (hr : (Lit.int .u8 r).wf = true) (hA : IntsIn w w.heap.size A len X) (hlen : len ≤ 9223372036854775807) (hV : Vars w) :
    Calls Tryd.prog 5 #[.int .u8 r, .slice A len cap] w fun e w' => e = .returned (.bool true) ∧ Below w.heap.size w w' := by
  obtain ⟨r0, r1⟩ := u8_bounds hr
  have HA := Lib.hid hA
  have HAw := Lib.hid (awake_any w hV)
  have HR := Lib.hid (rank_u8 r r0 r1)
  clear hr hA hV
  by_cases hl : 500 < len
  · have h1 : decide ((500 : Int) < len) = true := by simp; omega
    clear hl
    go_enter Tryd.func5, Tryd.ntmps5
    go_wp2_with fail
    refine HAw.out.mono ?_
    rintro e w1 ⟨rfl, hb⟩
    have B1 := Lib.hid hb
    clear hb
    go_wp2
    go_ret
    exact ⟨rfl, B1.out⟩
  have h1 : decide ((500 : Int) < len) = false := by simp; omega
  have HL := Lib.hid hl
  have hmk := make_64
  clear hl
  go_enter Tryd.func5, Tryd.ntmps5
  go_wp2_with fail
  refine HAw.out.mono ?_
  rintro e w1 ⟨rfl, hb⟩
  have B1 := Lib.hid hb
  clear hb HAw
  go_wp2_with fail
  refine (HR.out _).mono ?_
  generalize hn : (1 + r % 64).toNat = n
  have HN := Lib.hid hn
  clear hn HR
  rintro e w2 ⟨lb, rfl, hlb, hI, hb⟩
  have HI := Lib.hid hI
  have B2 := Lib.hid (B1.out.trans (hb.mono B1.out.size))
  clear hlb hI hb B1
  go_wp2_with fail
  refine (new_any lb n _ _ HI.out).mono ?_
  rintro e w3 ⟨d, g, rfl, hd, hg, hI, hb⟩
  have HC : Hid (CountI w (w3.alloc (.cells (madeCells #[.int .i64 0] 64) 3)) w.heap.size d n w3.heap.size (fun _ => 0) (fun _ => 0)) := Lib.hid (by
    have b3 := B2.out.trans (hb.mono B2.out.size)
    have ba : Below w3.heap.size w3 (w3.alloc (.cells (madeCells #[.int .i64 0] 64) 3)) := (Below.refl _ _).alloc (Nat.le_refl _) _
    exact ⟨⟨g, hI.below ba, Nat.le_trans B2.out.size hg⟩, World.rowIs_made w3 (.int .i64 0) 64 3, b3.size, b3.alloc b3.size _, by have := b3.size; simp; omega⟩)
  clear hd hg hI hb HI B2
  go_wp2_with fail
  obtain ⟨gb, hgb⟩ : ∃ gb, gb = w3.heap.size := ⟨_, rfl⟩
  rw [← hgb] at HC ⊢
  clear hgb
  go_loopw [9] (fun i wr => CountRel w len d n gb i wr) (fun i _ => len - (intOf i).toNat)
  case atStart => exact ⟨0, _, Nat.zero_le _, rfl, fun _ => Nat.le_refl _, fun _ _ => rfl, HC.out⟩
  case round =>
    obtain ⟨k, T, hk, rfl, hT, hG, hP⟩ := hrel
    clear HC hmk
    have KT := Lib.hid hT
    have KG := Lib.hid hG
    have HP := Lib.hid hP
    have hints := HA.out.below hP.old
    clear hT hG hP
    by_cases hlt : k < len
    · obtain ⟨b, o, rfl, -, x0⟩ := hints.at_ hlt
      generalize hx : X k = x at x0
      have HX := Lib.hid hx
      have HB1 := Lib.hid (show k ≤ 1000000 by have := HL.out; omega)
      clear hints hx
      cases hlab : labB n x
      · have HLab := Lib.hid hlab
        have hcase : x < 0 ∨ (0 ≤ x ∧ 1 + r % 64 ≤ x) := by
          simp only [labB, Bool.and_eq_false_iff, decide_eq_false_iff_not] at hlab
          have := HN.out
          omega
        have H1 := Lib.hid (next_not _ n x _ HP.out.some hlab)
        have H2 := Lib.hid (given_not _ n x _ HP.out.some hlab)
        clear hlab
        rcases hcase with hc | ⟨hc, hc2⟩
        all_goals
          go_wp2_with fail
          refine H1.out.mono ?_
          rintro e w5 ⟨rfl, rfl⟩
          go_wp2_with fail
          refine H2.out.mono ?_
          rintro e w5 ⟨rfl, rfl⟩
          go_wp2_with fail
          go_roundw
          case rel => exact ⟨k + 1, T, by omega, by go_num, fun i => Nat.le_trans (KT.out i) (Nat.le_succ k), KG.out, HP.out⟩
          case measure => simp [intOf]; omega
      · obtain ⟨i, rfl, hi⟩ := lab_true hlab
        have hi1 : (0 : Int) ≤ i := by omega
        have hi2 : decide (1 + r % 64 ≤ (i : Int)) = false := by have := HN.out; simp; omega
        have HI := Lib.hid hi
        have hi64 : i < 64 := by have := HP.out.le; omega
        have H1 := Lib.hid (count_next HP.out hi (Nat.le_trans (KT.out i) HB1.out) rfl)
        have HTi := Lib.hid (Nat.le_trans (KT.out i) HB1.out)
        clear hlab hi
        go_wp2_with fail
        refine H1.out.mono ?_
        generalize ht : T i = t
        have HTT := Lib.hid ht
        rintro e w5 ⟨rfl, hP⟩
        have hints := HA.out.below hP.old
        clear x0 H1
        have x0 := hints.cell hlt HX.out
        have u0 := hP.cell hi64
        have f0 := hP.frozen i
        rw [ht] at u0
        have ht1 : t ≤ 1000000 := by rw [← ht]; exact HTi.out
        have HP5 := Lib.hid hP
        clear hints hP ht
        go_wp2_with fail
        obtain ⟨w6, hw6⟩ : ∃ w6, w6 = w5.setCell ⟨gb, i, none⟩ (.int .i64 ((t : Int) + 1)) := ⟨_, rfl⟩
        have hput := HP5.out.put i
        rw [HTT.out, ← hw6] at hput
        rw [← hw6]
        have hm : ((more T i i : Nat) : Int) = (t : Int) + 1 := by simp [more, HTT.out]
        have u1 := hput.cell hi64
        rw [hm] at u1
        have x1 := (HA.out.below hput.old).cell hlt HX.out
        have HGV : Hid (∀ j, Calls Tryd.prog 17 #[.pointer (some ⟨d, 0, none⟩), .int .i64 i] (w6.drewN j) fun e w' => e = .returned (.int .i64 ((t : Int) + 1)) ∧ w6.drewN j = w') :=
          Lib.hid fun j => count_given i (hput.drewN j) (by rw [ans_lab HI.out]; exact hm)
        have HP6 := Lib.hid hput
        clear hput hm hw6 x0 u0 f0 HP5
        go_quiet ((go_at_call 17; exact still_left (HGV.out _)))
        go_wp2_with fail
        go_roundw
        case rel => exact ⟨k + 1, more T i, by omega, by go_num, more_le KT.out, gone_more KG.out HI.out, HP6.out.drewN _⟩
        case measure => simp [intOf]; omega
    · clear hints
      obtain ⟨wo, hwo⟩ : ∃ wo, wo = wr := ⟨_, rfl⟩
      rw [← hwo] at HP ⊢
      clear hwo
      go_wp2_with fail
      go_loopw [12] (fun i wr => EndRel w d n gb T i wr) (fun i _ => 64 - (intOf i).toNat)
      case atStart => exact ⟨0, by omega, rfl, HP.out⟩
      case round =>
        obtain ⟨q, hq, rfl, hQ⟩ := hrel
        clear HP
        have HQ := Lib.hid hQ
        clear hQ
        by_cases hqt : q < 64
        · have u0 := HQ.out.cell hqt
          have hqi : decide ((q : Int) < 64) = true := by simp; omega
          have HGV : Hid (∀ j, Calls Tryd.prog 17 #[.pointer (some ⟨d, 0, none⟩), .int .i64 q] (wr.drewN j) fun e w' => e = .returned (.int .i64 (T q : Nat)) ∧ wr.drewN j = w') :=
            Lib.hid fun j => count_given q (HQ.out.drewN j) (ans_gone KG.out)
          generalize T q = t at u0 HGV
          go_wp2_with fail
          go_quiet ((go_at_call 17; exact still_left (HGV.out _)))
          go_wp2_with fail
          go_roundw
          case rel => exact ⟨q + 1, by omega, by go_num, HQ.out.drewN _⟩
          case measure => simp [intOf]; omega
        · have hqi : decide ((q : Int) < 64) = false := by simp; omega
          go_wp2_with fail
          go_ret
          exact ⟨rfl, HQ.out.old⟩

end Go.Proofs.YtbknfbobidgkkaaDoor
