/- Layer 7: Byte, of a list that lies inside a block. Layer 7: list; Clone. Layer 7: tables of numbers in memory; same, One. Layer 7: rows and tables whose blocks' types are known. Layer 7: All. Layer 7: the document's list while it is built. Layer 7: the document's All (written by gen_pak.py). -/
import Derived.Test.YtkenaccnmmmooaaDoorF7PaA
import Derived.Laws.Tables
import Derived.OwnWalk
import Derived.LoopTactic
import Derived.Laws.NewBlocks
import Derived.Deep.AppendLies
import Derived.Laws.OwnMore
import Derived.Deep.OwnRows
import Derived.Deep.RegionHeld3
/-! ## Layer 7: Byte, of a list that lies inside a block. -/
namespace Go.Proofs.YtkenaccnmmmooaaDoor.P7
open Go.RowKit Par

def modeB : Option PS → Bool
  | none => false
  | some p => p.m != 0
def memOf (o : Option PS) : PM := ⟨fun i j => ((listP o).getD i []).getD j 0, fun i => ((listP o).getD i []).length, (listP o).length, modeB o⟩

/-- A list in memory. -/
structure IsPars (w : World) (a f : Nat) (o : Option PS) : Prop where
  blk : PB w a f (memOf o)
  ok : OkO o



def zeroM : Array Value := cellsM (memOf none)
theorem zero_list (W : World) : (zeroValue 61).run Tryd.prog W = .ok (.agg zeroM) W := by kernel_rfl
theorem zero_size : zeroM.size = 146 := by simp [zeroM, cellsM]
theorem zero_one : zeroM.all (·.oneCell') = true := by kernel_rfl
theorem zero_agg : (Value.agg zeroM).cells = zeroM := by kernel_rfl
attribute [local irreducible] zeroM
theorem store_list (a f : Nat) (m : PM) (w : World) (h : PB w a f m) : (storeCells ⟨a, f, none⟩ zeroM.toList).run Tryd.prog w = .ok () (w.setCells a f zeroM.toList) :=
  run_storeCells_cells (P := Tryd.prog) a f zeroM.toList 0 w (fun j hj => by rw [Nat.add_zero, h.at_ (by simpa [zero_size] using hj)]; rfl) (fun j _ => h.free _) (fun v hv => (Array.all_eq_true_iff_forall_mem.1 zero_one) v (by simpa using hv))
theorem clear_any (a f : Nat) (o : Option PS) (w : World) (h : IsPars w a f o) : Calls Tryd.prog 57 #[.pointer (some ⟨a, f, none⟩)] w fun e w' => e = .returned (.tuple #[]) ∧ IsPars w' a f none ∧ Stirs a f 146 w w' := by
  have hb := zero_list
  have hs := store_list a f _ w h.blk
  have hz := zero_size
  have HP : Hid (IsPars (w.setCells a f zeroM.toList) a f none ∧ Stirs a f 146 w (w.setCells a f zeroM.toList)) := Lib.hid (by
    have h1 := Part.cells h.blk zeroM (by rw [zero_size, cells_size])
    have h2 := Stirs.cells h.blk zeroM (by rw [zero_size, cells_size])
    rw [cells_size] at h2
    rw [show zeroM = cellsM (memOf none) by unfold zeroM; rfl] at h1 h2 ⊢
    exact ⟨⟨h1, ok_none⟩, h2⟩)
  clear h
  go_enter Tryd.func57, Tryd.ntmps57
  go_wp2
  go_end0
  exact ⟨rfl, HP.out⟩

namespace Par
theorem getD_snoc {α : Type} (l : List α) (x d : α) (i : Nat) : (l ++ [x]).getD i d = if i < l.length then l.getD i d else if i = l.length then x else d := by
  unfold List.getD
  by_cases h : i < l.length
  · simp [h, List.getElem?_append_left h]
  · rw [List.getElem?_append_right (by omega)]
    by_cases h2 : i = l.length
    · subst h2; simp
    · have : i - l.length ≠ 0 := by omega
      simp [h, h2, this]
theorem getD_out {α : Type} (l : List α) (d : α) (i : Nat) (h : l.length ≤ i) : l.getD i d = d := by simp [List.getD, List.getElem?_eq_none h]
end Par

theorem pm_ext {a b : PM} (h1 : ∀ i j, a.P i j = b.P i j) (h2 : ∀ i, a.S i = b.S i) (h3 : a.n = b.n) (h4 : a.ov = b.ov) : a = b := by
  obtain ⟨P, S, n, o⟩ := a
  obtain ⟨P', S', n', o'⟩ := b
  obtain rfl : P = P' := funext fun i => funext fun j => h1 i j
  obtain rfl : S = S' := funext h2
  obtain rfl : n = n' := h3
  obtain rfl : o = o' := h4
  rfl

/-- A new parameter. -/
theorem param_new (l : List (List Nat)) (b : Bool) : (⟨fun i j => (l.getD i []).getD j 0, fun i => if i = l.length then 1 else (l.getD i []).length, l.length + 1, b⟩ : PM) =
    ⟨fun i j => ((l ++ [[0]]).getD i []).getD j 0, fun i => ((l ++ [[0]]).getD i []).length, (l ++ [[0]]).length, b⟩ := by
  refine pm_ext (fun i j => ?_) (fun i => ?_) (by simp) rfl
  · show (l.getD i []).getD j 0 = ((l ++ [[0]]).getD i []).getD j 0
    rw [getD_snoc]
    by_cases h : i < l.length
    · rw [if_pos h]
    · rw [if_neg h, getD_out l [] i (by omega)]
      by_cases h2 : i = l.length
      · rw [if_pos h2]; cases j <;> simp
      · rw [if_neg h2]
  · show (if i = l.length then 1 else (l.getD i []).length) = ((l ++ [[0]]).getD i []).length
    rw [getD_snoc]
    by_cases h2 : i = l.length
    · subst h2; simp
    · rw [if_neg h2]
      by_cases h : i < l.length
      · rw [if_pos h]
      · rw [if_neg h, if_neg h2, getD_out l [] i (by omega)]

theorem param_none : paramM (memOf none) = memOf (some ⟨[], [], 0, 0⟩) := by
  have := param_new [] false
  unfold paramM
  rw [if_neg (by decide)]
  exact this
theorem param_some {p : PS} (h : OkP p) : paramM (memOf (some p)) = memOf (some (step1 p 59)) := by
  have hn : (memOf (some p)).n = p.ps.length + 1 := by simp [memOf, listP]
  have h16 := h.ps
  unfold paramM
  by_cases h2 : p.m = 2
  · have := h.m2 h2
    rw [if_pos (by rw [hn]; omega)]
    unfold step1
    rw [if_pos h2]
    refine pm_ext (fun _ _ => rfl) (fun _ => rfl) rfl ?_
    show true = (p.m != 0)
    rw [h2]; rfl
  · unfold step1
    rw [if_neg h2, if_pos rfl]
    by_cases hl : p.ps.length + 1 < 16
    · rw [if_neg (by rw [hn]; omega), if_pos hl]
      exact param_new (p.ps ++ [p.one ++ [p.n]]) false
    · rw [if_pos (by rw [hn]; omega), if_neg hl]
      rfl

theorem part_some {p : PS} (h : OkP p) (hm : p.m = 0) : partM (memOf (some p)) p.ps.length = memOf (some (step1 p 58)) := by
  have hs : (memOf (some p)).S p.ps.length = p.one.length + 1 := by simp [memOf, listP]
  have h8 := h.one
  have e2 : ¬ p.m = 2 := by omega
  have e1 : ¬ p.m = 1 := by omega
  have hst : step1 p 58 = if p.one.length + 1 < 8 then { p with one := p.one ++ [p.n], n := 0 } else { p with m := 1 } := by
    unfold step1
    rw [if_neg e2, if_neg (by decide), if_neg e1, if_pos rfl]
  rw [hst]
  unfold partM
  by_cases hl : p.one.length + 1 < 8
  · rw [if_neg (show ¬ (memOf (some p)).S p.ps.length = 8 by rw [hs]; omega), if_pos hl]
    refine pm_ext (fun i j => ?_) (fun i => ?_) ?_ ?_
    · show ((p.ps ++ [p.one ++ [p.n]]).getD i []).getD j 0 = ((p.ps ++ [(p.one ++ [p.n]) ++ [0]]).getD i []).getD j 0
      rw [getD_snoc, getD_snoc]
      by_cases h1 : i < p.ps.length
      · rw [if_pos h1, if_pos h1]
      · rw [if_neg h1, if_neg h1]
        by_cases h2 : i = p.ps.length
        · rw [if_pos h2, if_pos h2, getD_snoc (p.one ++ [p.n])]
          by_cases h3 : j < (p.one ++ [p.n]).length
          · rw [if_pos h3]
          · rw [if_neg h3, getD_out _ _ _ (by omega)]; split <;> rfl
        · rw [if_neg h2, if_neg h2]
    · show (if i = p.ps.length then (memOf (some p)).S p.ps.length + 1 else ((p.ps ++ [p.one ++ [p.n]]).getD i []).length) = ((p.ps ++ [(p.one ++ [p.n]) ++ [0]]).getD i []).length
      rw [getD_snoc, getD_snoc, hs]
      by_cases h2 : i = p.ps.length
      · subst h2; simp
      · simp [h2]
    · simp [memOf, listP]
    · show false = (p.m != 0)
      rw [hm]; rfl
  · rw [if_pos (show (memOf (some p)).S p.ps.length = 8 by rw [hs]; omega), if_neg hl]
    rfl

theorem digit_some {p : PS} (hm : p.m = 0) {d : Nat} (hd : d < 10) : digitM (memOf (some p)) p.ps.length p.one.length d = memOf (some (step1 p (d + 48))) := by
  have hp : (memOf (some p)).P p.ps.length p.one.length = p.n := by simp [memOf, listP]
  have e2 : ¬ p.m = 2 := by omega
  have e1 : ¬ p.m = 1 := by omega
  have hst : step1 p (d + 48) = { p with n := if 9999 < 10 * p.n + d then 9999 else 10 * p.n + d } := by
    unfold step1
    rw [if_neg e2, if_neg (show ¬ d + 48 = 59 by omega), if_neg e1, if_neg (show ¬ d + 48 = 58 by omega), Nat.add_sub_cancel]
  rw [hst]
  unfold digitM
  rw [hp]
  generalize (if 9999 < 10 * p.n + d then 9999 else 10 * p.n + d) = x
  refine pm_ext (fun i j => ?_) (fun i => ?_) ?_ ?_
  · show (if i = p.ps.length ∧ j = p.one.length then x else ((p.ps ++ [p.one ++ [p.n]]).getD i []).getD j 0) = ((p.ps ++ [p.one ++ [x]]).getD i []).getD j 0
    rw [getD_snoc, getD_snoc]
    by_cases h1 : i < p.ps.length
    · rw [if_neg (by omega), if_pos h1, if_pos h1]
    · rw [if_neg h1, if_neg h1]
      by_cases h2 : i = p.ps.length
      · rw [if_pos h2, if_pos h2, getD_snoc, getD_snoc]
        by_cases h3 : j = p.one.length
        · rw [if_pos ⟨h2, h3⟩, if_neg (by omega), if_pos h3]
        · rw [if_neg (by omega)]
          simp [h3]
      · rw [if_neg (by omega), if_neg h2, if_neg h2]
  · show ((p.ps ++ [p.one ++ [p.n]]).getD i []).length = ((p.ps ++ [p.one ++ [x]]).getD i []).length
    rw [getD_snoc, getD_snoc]
    by_cases h2 : i = p.ps.length
    · subst h2; simp
    · simp [h2]
  · simp [memOf, listP]
  · rfl

def BytePost (w : World) (a f : Nat) (o : Option PS) (e : Ending) (w' : World) : Prop := e = .returned (.tuple #[]) ∧ IsPars w' a f o ∧ Stirs a f 146 w w'

/-- The three helpers over what a list is. -/
theorem some_param {p : PS} (h : OkP p) (a f : Nat) (w : World) (hb : PB w a f (memOf (some p))) : Calls Tryd.prog 73 #[.pointer (some ⟨a, f, none⟩)] w (PPost w a f (memOf (some (step1 p 59)))) := by
  have hn : (memOf (some p)).n = p.ps.length + 1 := by simp [memOf, listP]
  have := param_any a f _ (by rw [hn]; have := h.ps; omega) w hb (fun _ => by rw [hn]; show ((p.ps ++ [p.one ++ [p.n]]).getD (p.ps.length + 1) []).length = 0; rw [getD_out _ _ _ (by simp)]; rfl)
  rwa [param_some h] at this
theorem none_param (a f : Nat) (w : World) (hb : PB w a f (memOf none)) : Calls Tryd.prog 73 #[.pointer (some ⟨a, f, none⟩)] w (PPost w a f (memOf (some ⟨[], [], 0, 0⟩))) := by
  have := param_any a f _ (by decide) w hb (fun _ => rfl)
  rwa [param_none] at this
theorem some_part {p : PS} (h : OkP p) (hm : p.m = 0) (a f : Nat) (w : World) (hb : PB w a f (memOf (some p))) : Calls Tryd.prog 74 #[.pointer (some ⟨a, f, none⟩)] w (PPost w a f (memOf (some (step1 p 58)))) := by
  have hs : (memOf (some p)).S p.ps.length = p.one.length + 1 := by simp [memOf, listP]
  have := part_any a f _ p.ps.length (by simp [memOf, listP]) h.ps w hb (by rw [hs]; exact h.one)
  rwa [part_some h hm] at this
theorem some_digit {p : PS} (h : OkP p) (hm : p.m = 0) {d : Nat} (hd : d < 10) (a f : Nat) (w : World) (hb : PB w a f (memOf (some p))) : Calls Tryd.prog 75 #[.pointer (some ⟨a, f, none⟩), .int .i64 (d : Int)] w (PPost w a f (memOf (some (step1 p (d + 48))))) := by
  have hs : (memOf (some p)).S p.ps.length = p.one.length + 1 := by simp [memOf, listP]
  have hp : (memOf (some p)).P p.ps.length p.one.length = p.n := by simp [memOf, listP]
  have := digit_any a f _ p.ps.length p.one.length d (by simp [memOf, listP]) h.ps hs h.one (by rw [hp]; exact h.n) (by omega) w hb
  rwa [digit_some hm hd] at this

theorem step_in {o : Option PS} {c : Nat} (h1 : 48 ≤ c) (h2 : c ≤ 59) : comes o c = some (step1 (o.getD ⟨[], [], 0, 0⟩) c) := by
  unfold comes
  rw [if_pos (by simp [inB, h1, h2])]
theorem step_out {o : Option PS} {c : Nat} (h : c < 48 ∨ 59 < c) : comes o c = o := by
  unfold comes
  rw [if_neg (by simp [inB]; omega)]

theorem byte_nil (c : Int) (w : World) : Calls Tryd.prog 60 #[.pointer none, .int .u8 c] w fun e w' => e = .returned (.tuple #[]) ∧ w = w' := by
  go_enter Tryd.func60, Tryd.ntmps60
  go_wp2
  (try simp only [Exit.inBlock, Exit.then]); refine bodyPost_ret (results_none rfl _ _ _) rfl ?_
  exact ⟨rfl, rfl⟩
theorem byte_out (a f c : Nat) (hc : c < 48 ∨ 59 < c) (w : World) : Calls Tryd.prog 60 #[.pointer (some ⟨a, f, none⟩), .int .u8 (c : Int)] w fun e w' => e = .returned (.tuple #[]) ∧ w = w' := by
  rcases hc with hc | hc
  · have d1 : decide ((c : Int) < 48) = true := by simp; omega
    clear hc
    go_enter Tryd.func60, Tryd.ntmps60
    go_wp2
    (try simp only [Exit.inBlock, Exit.then]); refine bodyPost_ret (results_none rfl _ _ _) rfl ?_
    exact ⟨rfl, rfl⟩
  · have d1 : decide ((c : Int) < 48) = false := by simp; omega
    have d2 : decide ((59 : Int) < c) = true := by simp; omega
    clear hc
    go_enter Tryd.func60, Tryd.ntmps60
    go_wp2
    (try simp only [Exit.inBlock, Exit.then]); refine bodyPost_ret (results_none rfl _ _ _) rfl ?_
    exact ⟨rfl, rfl⟩

/-- What comes where there is a parameter. -/
theorem byte_semi {p : PS} (h : OkP p) (a f : Nat) (w : World) (hb : PB w a f (memOf (some p))) : Calls Tryd.prog 60 #[.pointer (some ⟨a, f, none⟩), .int .u8 59] w (PPost w a f (memOf (some (step1 p 59)))) := by
  have c0 : w.cell? ⟨a, f + 144, none⟩ = some (.int .i64 ((p.ps.length : Int) + 1)) := by rw [hb.len]; simp [memOf, listP]
  have HC := Lib.hid (some_param h a f w hb)
  clear h hb
  go_enter Tryd.func60, Tryd.ntmps60
  go_wp2_with fail
  refine HC.out.mono ?_
  rintro e w' ⟨rfl, h1, h2⟩
  have HP := Lib.hid (And.intro h1 h2)
  clear h1 h2 HC
  go_wp2
  go_end0
  exact ⟨rfl, HP.out⟩

theorem byte_over {p : PS} (hm : p.m ≠ 0) (a f c : Nat) (h1 : 48 ≤ c) (h2 : c < 59) (w : World) (hb : PB w a f (memOf (some p))) : Calls Tryd.prog 60 #[.pointer (some ⟨a, f, none⟩), .int .u8 (c : Int)] w fun e w' => e = .returned (.tuple #[]) ∧ w = w' := by
  have c0 : w.cell? ⟨a, f + 144, none⟩ = some (.int .i64 ((p.ps.length : Int) + 1)) := by rw [hb.len]; simp [memOf, listP]
  have c1 : w.cell? ⟨a, f + 145, none⟩ = some (.bool true) := by rw [hb.over]; simp [memOf, modeB, hm]
  have d1 : decide ((c : Int) < 48) = false := by simp; omega
  have d2 : decide ((59 : Int) < c) = false := by simp; omega
  have d3 : ((c : Int) == 59) = false := by simp; omega
  clear h1 h2 hb hm
  go_enter Tryd.func60, Tryd.ntmps60
  go_wp2
  go_end0
  exact ⟨rfl, rfl⟩

theorem byte_colon {p : PS} (h : OkP p) (hm : p.m = 0) (a f : Nat) (w : World) (hb : PB w a f (memOf (some p))) : Calls Tryd.prog 60 #[.pointer (some ⟨a, f, none⟩), .int .u8 58] w (PPost w a f (memOf (some (step1 p 58)))) := by
  have c0 : w.cell? ⟨a, f + 144, none⟩ = some (.int .i64 ((p.ps.length : Int) + 1)) := by rw [hb.len]; simp [memOf, listP]
  have c1 : w.cell? ⟨a, f + 145, none⟩ = some (.bool false) := by rw [hb.over]; simp [memOf, modeB, hm]
  have HC := Lib.hid (some_part h hm a f w hb)
  clear h hb hm
  go_enter Tryd.func60, Tryd.ntmps60
  go_wp2_with fail
  refine HC.out.mono ?_
  rintro e w' ⟨rfl, h1, h2⟩
  have HP := Lib.hid (And.intro h1 h2)
  clear h1 h2 HC
  go_wp2
  go_end0
  exact ⟨rfl, HP.out⟩

theorem byte_digit {p : PS} (h : OkP p) (hm : p.m = 0) (d : Nat) (hd : d < 10) (a f : Nat) (w : World) (hb : PB w a f (memOf (some p))) : Calls Tryd.prog 60 #[.pointer (some ⟨a, f, none⟩), .int .u8 ((d : Int) + 48)] w (PPost w a f (memOf (some (step1 p (d + 48))))) := by
  have c0 : w.cell? ⟨a, f + 144, none⟩ = some (.int .i64 ((p.ps.length : Int) + 1)) := by rw [hb.len]; simp [memOf, listP]
  have c1 : w.cell? ⟨a, f + 145, none⟩ = some (.bool false) := by rw [hb.over]; simp [memOf, modeB, hm]
  have HC := Lib.hid (some_digit h hm hd a f w hb)
  have d1 : decide ((d : Int) + 48 < 48) = false := by simp; omega
  have d2 : decide ((59 : Int) < (d : Int) + 48) = false := by simp; omega
  have d3 : ((d : Int) + 48 == 59) = false := by simp; omega
  have d4 : ((d : Int) + 48 == 58) = false := by simp; omega
  clear h hb hm
  go_enter Tryd.func60, Tryd.ntmps60
  go_wp2_with fail
  refine HC.out.mono ?_
  rintro e w' ⟨rfl, h1, h2⟩
  have HP := Lib.hid (And.intro h1 h2)
  clear h1 h2 HC
  go_wp2
  go_end0
  exact ⟨rfl, HP.out⟩

def newP : PS := ⟨[], [], 0, 0⟩
theorem none_semi (a f : Nat) (w : World) (hb : PB w a f (memOf none)) : Calls Tryd.prog 60 #[.pointer (some ⟨a, f, none⟩), .int .u8 59] w (PPost w a f (memOf (some (step1 newP 59)))) := by
  have c0 : w.cell? ⟨a, f + 144, none⟩ = some (.int .i64 0) := hb.len
  have H0 := Lib.hid (none_param a f w hb)
  clear hb
  go_enter Tryd.func60, Tryd.ntmps60
  go_wp2_with fail
  refine H0.out.mono ?_
  rintro e w1 ⟨rfl, h1, h2⟩
  have S1 := Lib.hid h2
  have c1 : w1.cell? ⟨a, f + 145, none⟩ = some (.bool false) := h1.over
  have HC := Lib.hid (some_param ok_new a f w1 h1)
  clear h1 h2 H0
  go_wp2_with fail
  refine (show Calls _ _ _ _ _ from HC.out).mono ?_
  rintro e w2 ⟨rfl, h1, h2⟩
  have HP := Lib.hid (And.intro h1 (S1.out.trans h2))
  clear h1 h2 HC S1
  go_wp2
  go_end0
  exact ⟨rfl, HP.out⟩
theorem none_colon (a f : Nat) (w : World) (hb : PB w a f (memOf none)) : Calls Tryd.prog 60 #[.pointer (some ⟨a, f, none⟩), .int .u8 58] w (PPost w a f (memOf (some (step1 newP 58)))) := by
  have c0 : w.cell? ⟨a, f + 144, none⟩ = some (.int .i64 0) := hb.len
  have H0 := Lib.hid (none_param a f w hb)
  clear hb
  go_enter Tryd.func60, Tryd.ntmps60
  go_wp2_with fail
  refine H0.out.mono ?_
  rintro e w1 ⟨rfl, h1, h2⟩
  have S1 := Lib.hid h2
  have c1 : w1.cell? ⟨a, f + 145, none⟩ = some (.bool false) := h1.over
  have HC := Lib.hid (some_part ok_new rfl a f w1 h1)
  clear h1 h2 H0
  go_wp2_with fail
  refine (show Calls _ _ _ _ _ from HC.out).mono ?_
  rintro e w2 ⟨rfl, h1, h2⟩
  have HP := Lib.hid (And.intro h1 (S1.out.trans h2))
  clear h1 h2 HC S1
  go_wp2
  go_end0
  exact ⟨rfl, HP.out⟩
theorem none_digit (d : Nat) (hd : d < 10) (a f : Nat) (w : World) (hb : PB w a f (memOf none)) : Calls Tryd.prog 60 #[.pointer (some ⟨a, f, none⟩), .int .u8 ((d : Int) + 48)] w (PPost w a f (memOf (some (step1 newP (d + 48))))) := by
  have c0 : w.cell? ⟨a, f + 144, none⟩ = some (.int .i64 0) := hb.len
  have H0 := Lib.hid (none_param a f w hb)
  have d1 : decide ((d : Int) + 48 < 48) = false := by simp; omega
  have d2 : decide ((59 : Int) < (d : Int) + 48) = false := by simp; omega
  have d3 : ((d : Int) + 48 == 59) = false := by simp; omega
  have d4 : ((d : Int) + 48 == 58) = false := by simp; omega
  clear hb
  go_enter Tryd.func60, Tryd.ntmps60
  go_wp2_with fail
  refine H0.out.mono ?_
  rintro e w1 ⟨rfl, h1, h2⟩
  have S1 := Lib.hid h2
  have c1 : w1.cell? ⟨a, f + 145, none⟩ = some (.bool false) := h1.over
  have HC := Lib.hid (some_digit (p := newP) ok_new rfl hd a f w1 h1)
  clear h1 h2 H0
  go_wp2_with fail
  refine (show Calls _ _ _ _ _ from HC.out).mono ?_
  rintro e w2 ⟨rfl, h1, h2⟩
  have HP := Lib.hid (And.intro h1 (S1.out.trans h2))
  clear h1 h2 HC S1
  go_wp2
  go_end0
  exact ⟨rfl, HP.out⟩

theorem byte_any (a f : Nat) (o : Option PS) (c : Nat) (w : World) (h : IsPars w a f o) : Calls Tryd.prog 60 #[.pointer (some ⟨a, f, none⟩), .int .u8 (c : Int)] w (BytePost w a f (comes o c)) := by
  by_cases hc : c < 48 ∨ 59 < c
  · rw [step_out hc]
    refine (byte_out a f c hc w).mono ?_
    rintro e w' ⟨rfl, rfl⟩
    exact ⟨rfl, h, Stirs.refl _ _ _ _⟩
  · have h1 : 48 ≤ c := by omega
    have h2 : c ≤ 59 := by omega
    have hok := ok_comes h.ok c
    rw [step_in h1 h2] at hok ⊢
    suffices hs : Calls Tryd.prog 60 #[.pointer (some ⟨a, f, none⟩), .int .u8 (c : Int)] w (PPost w a f (memOf (some (step1 (o.getD ⟨[], [], 0, 0⟩) c)))) by
      refine hs.mono ?_
      rintro e w' ⟨rfl, h3, h4⟩
      exact ⟨rfl, ⟨h3, hok⟩, h4⟩
    have hb := h.blk
    cases o with
    | none =>
      by_cases h59 : c = 59
      · subst h59; exact none_semi a f w hb
      by_cases h58 : c = 58
      · subst h58; exact none_colon a f w hb
      obtain ⟨d, rfl⟩ : ∃ d, c = d + 48 := ⟨c - 48, by omega⟩
      exact none_digit d (by omega) a f w hb
    | some p =>
      have hp : OkP p := h.ok p rfl
      by_cases h59 : c = 59
      · subst h59; exact byte_semi hp a f w hb
      by_cases hm : p.m = 0
      · by_cases h58 : c = 58
        · subst h58; exact byte_colon hp hm a f w hb
        obtain ⟨d, rfl⟩ : ∃ d, c = d + 48 := ⟨c - 48, by omega⟩
        exact byte_digit hp hm d (by omega) a f w hb
      · have he : step1 p c = p := by
          unfold step1
          by_cases h2 : p.m = 2
          · rw [if_pos h2]
          · have := hp.m
            rw [if_neg h2, if_neg h59, if_pos (by omega)]
        refine (byte_over hm a f c h1 (by omega) w hb).mono ?_
        rintro e w' ⟨rfl, rfl⟩
        refine ⟨rfl, ?_, Stirs.refl _ _ _ _⟩
        show PB w a f (memOf (some (step1 p c)))
        rw [he]
        exact hb
end Go.Proofs.YtkenaccnmmmooaaDoor.P7

/-! ## Layer 7: list; Clone. -/
namespace Go.Proofs.YtkenaccnmmmooaaDoor.P7
open Go.RowKit Par

theorem run_snoc (o : Option PS) (l : List UInt8) (k : Nat) (h : k < l.length) : runP o (l.take (k + 1)) = comes (runP o (l.take k)) l[k].toNat := by
  rw [List.take_succ_eq_append_getElem h, runP_append]
  rfl

def intV (l : List Nat) : List Value := l.map fun r : Nat => Value.int .i64 (r : Int)
theorem info_int : (Tryd.prog.info? 3).map (fun i => (i.zero, i.size, i.bytes)) = some (some (.int .i64 0), 1, 8) := by kernel_rfl

theorem add_zero (g k : Nat) : (⟨g, 0, none⟩ : Addr).add k = ⟨g, k, none⟩ := by
  unfold Addr.add
  split
  · rename_i h; subst h; rfl
  · simp
theorem add_off (g o k : Nat) : (⟨g, o, none⟩ : Addr).add k = ⟨g, o + k, none⟩ := by
  unfold Addr.add
  split
  · rename_i h; subst h; rfl
  · simp

theorem not_nil (a o n c : Nat) (W : World) : (binOp .eql 36 (.slice (some ⟨a, o, none⟩) n c) (.slice none 0 0)).run Tryd.prog W = .ok (.bool false) W := by kernel_rfl

theorem own_empty (w : World) (e : TypeId) : (w.alloc (.cells #[] e)).ownsRow w.heap.size e 1 (.slice (some ⟨w.heap.size, 0, none⟩) 0 0) 0 [] :=
  ⟨rfl, Or.inr ⟨_, 0, #[], rfl, Nat.le_refl _, heap_alloc_new w _, Nat.le_refl _, by unfold maxLen; omega, rfl, by simp⟩⟩

/-- slices.Clone of what lies in a list. -/
theorem clone_any (a o c : Nat) (xs : List Nat) (w : World) (hl : xs.length ≤ c) (hc8 : c ≤ 1000000) (hc : ∀ j, j < xs.length → w.cell? ⟨a, o + j, none⟩ = some (.int .i64 (xs.getD j 0 : Nat))) (ha : a < w.heap.size) :
    Calls Tryd.prog 64 #[.slice (some ⟨a, o, none⟩) xs.length c] w fun e w' => ∃ v, e = .returned v ∧ w'.ownsRow w.heap.size 3 1 v xs.length (intV xs) ∧ Below w.heap.size w w' := by
  obtain ⟨i0, hi, hz0, hz1, hz2⟩ := info_parts info_int
  have HI := Lib.hid hi; have HZ0 := Lib.hid hz0; have HZ1 := Lib.hid hz1; have HZ2 := Lib.hid hz2
  obtain ⟨n, hn⟩ : ∃ n, n = xs.length := ⟨_, rfl⟩
  have HC := Lib.hid hc
  have HN := Lib.hid hn
  have hq := not_nil a o n c
  rw [← hn] at hl ⊢
  clear hi hz0 hz1 hz2 hc hn
  go_enter Tryd.func64, Tryd.ntmps64
  have HA := Lib.hid ha
  have h0 : Hid ((w.alloc (.cells #[] 3)).ownsRow w.heap.size 3 1 (.slice (some ⟨w.heap.size, 0, none⟩) 0 0) 0 []) := Lib.hid (own_empty w 3)
  clear ha
  go_wp2_with (at_builtin; refine wpList_append_own _ rfl (.tmp 5) (.tmp 6) 36 rfl w.heap.size 3 i0 (.int .i64 0) 1 8 Tryd.underlying36 HI.out HZ0.out HZ1.out HZ2.out rfl (by decide) _ _ _ rfl h0.out ⟨a, o, none⟩ n c (intV xs) rfl ?c0 ?c1 ?c2 ?c3 ?c4 ?c5 ?_)
  case c0 => rw [HN.out]; simp [intV]
  case c1 =>
    intro j u hu
    have hj : j < xs.length := by
      have := (List.getElem?_eq_some_iff.1 hu).1
      simpa [intV] using this
    rw [add_off, World.cell?_alloc_lt _ _ _ (by exact HA.out), HC.out j hj, ← hu]
    simp [intV, hj]
  case c2 =>
    intro u hu
    simp only [intV, List.mem_map] at hu
    obtain ⟨r, _, rfl⟩ := hu
    rfl
  case c3 => unfold maxLen; omega
  case c4 => omega
  case c5 => simp
  intro v' w1 hown hg _
  have HO : Hid (w1.ownsRow w.heap.size 3 1 v' n (intV xs)) := Lib.hid (by simpa using hown)
  have HB : Hid (Below w.heap.size w w1) := Lib.hid (((Below.refl _ _).alloc (Nat.le_refl _) _).grown hg (by simp) (fun g h => by simp [Value.ownBlock] at h; omega))
  clear hown hg h0
  go_wp2
  go_ret
  exact ⟨_, rfl, HO.out, HB.out⟩
end Go.Proofs.YtkenaccnmmmooaaDoor.P7

/-! ## Layer 7: tables of numbers in memory; same, One. -/
namespace Go.Proofs.YtkenaccnmmmooaaDoor.P7
open Go.RowKit Par

/-- The slice at A of n slices reads as a table: row r has L r numbers, T r c. All of it lies below block B. -/
def Grid (w : World) (B : Nat) (A : Option Addr) (n : Nat) (L : Nat → Nat) (T : Nat → Nat → Int) : Prop :=
  0 < n → ∃ a, A = some a ∧ a.block < B ∧ ∀ r, r < n → ∃ A' C, w.cell? (a.add r) = some (.slice A' (L r) C) ∧ L r ≤ 9223372036854775807 ∧ ∀ c, c < L r → ∃ a', A' = some a' ∧ a'.block < B ∧ w.cell? (a'.add c) = some (.int .i64 (T r c))

theorem add_block (a : Addr) (n : Nat) : (a.add n).block = a.block := by unfold Addr.add; split <;> rfl

theorem Grid.keep {w w' : World} {B n : Nat} {A : Option Addr} {L : Nat → Nat} {T : Nat → Nat → Int} (h : Grid w B A n L T) (hk : ∀ p : Addr, p.block < B → w'.cell? p = w.cell? p) : Grid w' B A n L T := fun hn => by
  obtain ⟨a, e, hb, hr⟩ := h hn
  refine ⟨a, e, hb, fun r hlt => ?_⟩
  obtain ⟨A', C, hc, hl, hx⟩ := hr r hlt
  refine ⟨A', C, (hk _ (by rw [add_block]; exact hb)).trans hc, hl, fun c hcl => ?_⟩
  obtain ⟨a', e', hb', hc'⟩ := hx c hcl
  exact ⟨a', e', hb', (hk _ (by rw [add_block]; exact hb')).trans hc'⟩
theorem Grid.below {w w' : World} {B n : Nat} {A : Option Addr} {L : Nat → Nat} {T : Nat → Nat → Int} (h : Grid w B A n L T) (hb : Below B w w') : Grid w' B A n L T := h.keep fun _ hp => hb.cell hp
theorem Grid.drewN {w : World} {B n : Nat} {A : Option Addr} {L : Nat → Nat} {T : Nat → Nat → Int} (h : Grid w B A n L T) (k : Nat) : Grid (w.drewN k) B A n L T := h.keep fun _ _ => rfl
theorem Grid.more {w : World} {B B' n : Nat} {A : Option Addr} {L : Nat → Nat} {T : Nat → Nat → Int} (h : Grid w B A n L T) (hB : B ≤ B') : Grid w B' A n L T := fun hn => by
  obtain ⟨a, e, hb, hr⟩ := h hn
  refine ⟨a, e, by omega, fun r hlt => ?_⟩
  obtain ⟨A', C, hc, hl, hx⟩ := hr r hlt
  refine ⟨A', C, hc, hl, fun c hcl => ?_⟩
  obtain ⟨a', e', hb', hc'⟩ := hx c hcl
  exact ⟨a', e', by omega, hc'⟩
theorem Grid.at_ {w : World} {B n : Nat} {A : Option Addr} {L : Nat → Nat} {T : Nat → Nat → Int} (h : Grid w B A n L T) {r : Nat} (hr : r < n) : ∃ a A' C, A = some a ∧ a.block < B ∧ w.cell? (a.add r) = some (.slice A' (L r) C) ∧ L r ≤ 9223372036854775807 ∧
    ∀ c, c < L r → ∃ a', A' = some a' ∧ a'.block < B ∧ w.cell? (a'.add c) = some (.int .i64 (T r c)) := by
  obtain ⟨a, e, hb, hx⟩ := h (by omega)
  obtain ⟨A', C, hc, hl, hy⟩ := hx r hr
  exact ⟨a, A', C, e, hb, hc, hl, hy⟩

/-- A slice of slices that reads as these lists. -/
def Tab (w : World) (B : Nat) (A : Option Addr) (l : List (List Nat)) : Prop := Grid w B A l.length (fun r => (l.getD r []).length) (fun r c => ((l.getD r []).getD c 0 : Nat))

/-- What One answers. -/
def oneV (n : Nat) (L : Nat → Nat) (T : Nat → Nat → Int) (i x : Int) : Int := if i < 0 ∨ (n : Int) ≤ i then x else if L i.toNat = 0 ∨ T i.toNat 0 = 0 then x else T i.toNat 0

end Go.Proofs.YtkenaccnmmmooaaDoor.P7

/-! ## Layer 7: rows and tables whose blocks' types are known. -/
namespace Go.Proofs.YtkenaccnmmmooaaDoor.P7
open Go.RowKit Par

/-- A row. -/
def RowAt (w : World) (B : Nat) (A : Option Addr) (l : List Nat) : Prop := ∀ j, j < l.length → ∃ a', A = some a' ∧ a'.block < B ∧ w.cell? (a'.add j) = some (.int .i64 (l.getD j 0 : Nat))
theorem RowAt.below {w w' : World} {B C : Nat} {A : Option Addr} {l : List Nat} (h : RowAt w B A l) (hb : Below B w w') (hC : B ≤ C) : RowAt w' C A l := fun j hj => by
  obtain ⟨a, e, hl, hc⟩ := h j hj
  exact ⟨a, e, Nat.lt_of_lt_of_le hl hC, (hb.cell (p := a.add j) (by rw [add_block]; exact hl)).trans hc⟩
theorem RowAt.alloc {w : World} {A : Option Addr} {l : List Nat} (h : RowAt w w.heap.size A l) (x : Obj) : RowAt (w.alloc x) (w.alloc x).heap.size A l := h.below ((Below.refl _ _).alloc (Nat.le_refl _) _) (by simp)
theorem row_keep {w w' : World} {base : Nat} {e : TypeId} {v : Value} {n : Nat} {l : List Value} (h : w.ownsRow base e 1 v n l) (hk : ∀ g, v.ownBlock = some g → g < w.heap.size → w'.heap[g]? = w.heap[g]?) : w'.ownsRow base e 1 v n l := by
  refine ⟨h.1, ?_⟩
  rcases h.2 with h0 | ⟨g, cap, cur, rfl, h1, h2, h3⟩
  · exact Or.inl h0
  · exact Or.inr ⟨g, cap, cur, rfl, h1, (hk g rfl (Array.getElem?_eq_some_iff.1 h2).1).trans h2, h3⟩
theorem row_ge {w : World} {base : Nat} {e : TypeId} {v : Value} {n : Nat} {l : List Value} (h : w.ownsRow base e 1 v n l) : ∀ g, v.ownBlock = some g → base ≤ g ∧ g < w.heap.size := by
  intro g hg
  rcases h.2 with ⟨rfl, _⟩ | ⟨g', cap, cur, rfl, hb, hh, _⟩
  · simp [Value.ownBlock] at hg
  · have : g' = g := by simpa [Value.ownBlock] using hg
    subst this
    exact ⟨hb, (Array.getElem?_eq_some_iff.1 hh).1⟩
/-- Two rows of different types are two blocks. -/
theorem row_apart {w : World} {base base' : Nat} {e e' : TypeId} {v v' : Value} {n n' : Nat} {l l' : List Value} (h : w.ownsRow base e 1 v n l) (h' : w.ownsRow base' e' 1 v' n' l') (ht : e ≠ e') : ∀ g, v.ownBlock = some g → v'.ownBlock ≠ some g := by
  intro g hg hg'
  rcases h.2 with ⟨rfl, _⟩ | ⟨a, _, _, rfl, _, hh, _⟩
  · simp [Value.ownBlock] at hg
  · have e1 : a = g := by simpa [Value.ownBlock] using hg
    subst e1
    rcases h'.2 with ⟨rfl, _⟩ | ⟨a', _, _, rfl, _, hh', _⟩
    · simp [Value.ownBlock] at hg'
    · have e2 : a' = a := by simpa [Value.ownBlock] using hg'
      subst e2
      rw [hh] at hh'
      cases hh'
      exact ht rfl

/-- A row in a block of numbers. -/
structure RowI (w : World) (B : Nat) (A : Option Addr) (l : List Nat) : Prop where
  row : RowAt w B A l
  typ : ∀ a, A = some a → a.block < B ∧ ∃ cur, w.heap[a.block]? = some (.cells cur 3 (0, 0))
theorem RowI.block {w w' : World} {B C : Nat} {A : Option Addr} {l : List Nat} (h : RowI w B A l) (hb : ∀ a, A = some a → w'.heap[a.block]? = w.heap[a.block]?) (hC : B ≤ C) : RowI w' C A l := by
  refine ⟨fun j hj => ?_, fun a e => ?_⟩
  · obtain ⟨a, e, hl, hc⟩ := h.row j hj
    refine ⟨a, e, Nat.lt_of_lt_of_le hl hC, (World.cell?_of_block (w := w) ?_).trans hc⟩
    rw [add_block]
    exact hb _ e
  · obtain ⟨h1, cur, h2⟩ := h.typ a e
    exact ⟨Nat.lt_of_lt_of_le h1 hC, cur, (hb a e).trans h2⟩
theorem own_rowI {w : World} {base n cap g : Nat} {l : List Nat} (h : w.ownsRow base 3 1 (.slice (some ⟨g, 0, none⟩) n cap) n (intV l)) : RowI w w.heap.size (some ⟨g, 0, none⟩) l := by
  refine ⟨fun j hj => ?_, fun a e => ?_⟩
  · refine ⟨_, rfl, (row_ge h g rfl).2, ?_⟩
    have := World.ownsRow.cells (w := w) h (g := g) rfl j (.int .i64 (l.getD j 0 : Nat)) (by simp [intV, hj])
    rwa [add_zero] at this ⊢
  · cases e
    refine ⟨(row_ge h g rfl).2, ?_⟩
    rcases h.2 with ⟨e, _⟩ | ⟨g', cap', cur, e, _, hh, _⟩
    · cases e
    · cases e
      exact ⟨cur, hh⟩
/-- It is no block of slices. -/
theorem RowI.apart {w : World} {B base : Nat} {A : Option Addr} {l : List Nat} {v : Value} {n : Nat} {rs : List Value} (h : RowI w B A l) (hv : w.ownsRow base 36 1 v n rs) : ∀ a, A = some a → v.ownBlock ≠ some a.block := by
  intro a e hb
  obtain ⟨_, cur, hc⟩ := h.typ a e
  rcases hv.2 with ⟨rfl, _⟩ | ⟨g, _, _, rfl, _, hh, _⟩
  · simp [Value.ownBlock] at hb
  · have e2 : g = a.block := by simpa [Value.ownBlock] using hb
    rw [e2, hc] at hh
    cases hh

theorem Tab.more {w : World} {B C : Nat} {A : Option Addr} {l : List (List Nat)} (h : Tab w B A l) (hC : B ≤ C) : Tab w C A l := Grid.more h hC
theorem getD_mem {α : Type} (q : List α) (c : Nat) (d : α) (h : c < q.length) : q.getD c d ∈ q := by
  simp only [List.getD, List.getElem?_eq_getElem h, Option.getD_some]
  exact List.getElem_mem h

/-- A table that reads as these lists, in blocks of their types. -/
def TabT (w : World) (A : Option Addr) (l : List (List Nat)) : Prop := 0 < l.length → ∃ g, A = some ⟨g, 0, none⟩ ∧ (∃ cur, w.heap[g]? = some (.cells cur 36 (0, 0))) ∧
  ∀ r, r < l.length → ∃ A' c, w.cell? ⟨g, r, none⟩ = some (.slice A' (l.getD r []).length c) ∧ RowI w w.heap.size A' (l.getD r [])
/-- Blocks of numbers, and of slices of numbers, stay. -/
def KeepT (w w' : World) : Prop := w.heap.size ≤ w'.heap.size ∧ ∀ (k : Nat) (cur : Array Value) (t : TypeId), w.heap[k]? = some (.cells cur t (0, 0)) → (t = 3 ∨ t = 36) → w'.heap[k]? = w.heap[k]?
theorem TabT.keep {w w' : World} {A : Option Addr} {l : List (List Nat)} (h : TabT w A l) (hk : KeepT w w') : TabT w' A l := fun hp => by
  obtain ⟨g, e, ⟨cur, hc⟩, hr⟩ := h hp
  have hg := hk.2 g cur _ hc (Or.inr rfl)
  refine ⟨g, e, ⟨cur, hg.trans hc⟩, fun r hlt => ?_⟩
  obtain ⟨A', c, e1, e2⟩ := hr r hlt
  refine ⟨A', c, (World.cell?_of_block (w := w) hg).trans e1, e2.block (fun a ha => ?_) hk.1⟩
  obtain ⟨_, cur', hc'⟩ := e2.typ a ha
  exact hk.2 _ cur' _ hc' (Or.inl rfl)
theorem TabT.tab {w : World} {A : Option Addr} {l : List (List Nat)} (h : TabT w A l) (hl : ∀ q ∈ l, q.length ≤ 1000) : Tab w w.heap.size A l := fun hp => by
  obtain ⟨g, e, ⟨cur, hc⟩, hr⟩ := h hp
  refine ⟨_, e, (Array.getElem?_eq_some_iff.1 hc).1, fun r hlt => ?_⟩
  obtain ⟨A', c, e1, e2⟩ := hr r hlt
  refine ⟨A', c, by rw [add_zero]; exact e1, ?_, fun j hj => ?_⟩
  · have := hl _ (getD_mem l r [] hlt)
    show (l.getD r []).length ≤ _
    omega
  · obtain ⟨a', f1, f2, f3⟩ := e2.row j hj
    exact ⟨a', f1, f2, f3⟩
theorem KeepT.of_below {w w' : World} (hb : Below w.heap.size w w') : KeepT w w' := ⟨hb.size, fun k _ _ hk _ => hb.block k (Array.getElem?_eq_some_iff.1 hk).1⟩
theorem KeepT.trans {w w1 w2 : World} (h : KeepT w w1) (k : KeepT w1 w2) : KeepT w w2 := ⟨Nat.le_trans h.1 k.1, fun j cur t hj ht => (k.2 j cur t ((h.2 j cur t hj ht).trans hj) ht).trans (h.2 j cur t hj ht)⟩
theorem KeepT.refl (w : World) : KeepT w w := ⟨Nat.le_refl _, fun _ _ _ _ _ => rfl⟩

end Go.Proofs.YtkenaccnmmmooaaDoor.P7

/-! ## Layer 7: All. -/
namespace Go.Proofs.YtkenaccnmmmooaaDoor.P7
open Go.RowKit Par

theorem of_drew {B : Nat} {W w' : World} (h : Below B W.drew w') : Below B W w' := ⟨h.os, h.tape, h.output, h.size, h.block⟩
theorem info_row : (Tryd.prog.info? 36).map (fun i => (i.zero, i.size, i.bytes)) = some (some (.slice none 0 0), 1, 24) := by kernel_rfl

/-- A row in new memory. -/
def RowPost (w : World) (xs : List Nat) (e : Ending) (w' : World) : Prop := ∃ A c, e = .returned (.slice A xs.length c) ∧ Below w.heap.size w w' ∧ RowI w' w'.heap.size A xs

theorem clone_row (a o c : Nat) (xs : List Nat) (w : World) (hl : xs.length ≤ c) (hc8 : c ≤ 1000000) (hc : ∀ j, j < xs.length → w.cell? ⟨a, o + j, none⟩ = some (.int .i64 (xs.getD j 0 : Nat))) (ha : a < w.heap.size) :
    Calls Tryd.prog 64 #[.slice (some ⟨a, o, none⟩) xs.length c] w (RowPost w xs) := by
  refine (clone_any a o c xs w hl hc8 hc ha).mono ?_
  rintro e w' ⟨v, rfl, ho, hb⟩
  rcases ho.2 with ⟨rfl, h0⟩ | ⟨g, cap, cur, rfl, _⟩
  · exact ⟨none, 0, by rw [h0], hb, fun k hk => by omega, fun a ha => by cases ha⟩
  · exact ⟨_, cap, rfl, hb, own_rowI ho⟩

/-- The table while it is built: the rows ahead of k are there. -/
def Built (w0 w : World) (ub : Nat) (l : List (List Nat)) (k : Nat) : Prop :=
  Below ub w0 w ∧ ub < w.heap.size ∧ ∃ F : Nat → Value, w.rowIs ub 36 l.length F ∧
    ∀ r, r < k → r < l.length → ∃ A c, F r = .slice A (l.getD r []).length c ∧ RowI w w.heap.size A (l.getD r [])

theorem Built.start (w : World) (l : List (List Nat)) : Built w (w.alloc (.cells (madeCells #[.slice none 0 0] l.length) 36)) w.heap.size l 0 :=
  ⟨(Below.refl _ _).alloc (Nat.le_refl _) _, by simp, fun _ => .slice none 0 0, World.rowIs_made w (.slice none 0 0) l.length 36, fun r hr => by omega⟩

theorem Built.next {w0 w w1 : World} {ub : Nat} {l : List (List Nat)} {k : Nat} (h : Built w0 w ub l k) (hb : Below w.heap.size w w1) {A : Option Addr} {c : Nat} (hr : RowI w1 w1.heap.size A (l.getD k [])) :
    Built w0 (w1.setCell ⟨ub, k, none⟩ (.slice A (l.getD k []).length c)) ub l (k + 1) := by
  obtain ⟨h1, h2, F, h3, h4⟩ := h
  have hsz := hb.size
  have h31 := h3.of_block (hb.block _ h2)
  have hne : ∀ {A' : Option Addr} {q : List Nat}, RowI w1 w1.heap.size A' q → ∀ a, A' = some a → (w1.setCell ⟨ub, k, none⟩ (.slice A (l.getD k []).length c)).heap[a.block]? = w1.heap[a.block]? := by
    intro A' q hq a ha
    refine Below.heap_setCell _ _ _ _ ?_
    intro e
    obtain ⟨_, cur, hc⟩ := hq.typ a ha
    obtain ⟨cur', hc', _⟩ := h31
    rw [e] at hc
    have hc : w1.heap[ub]? = some (.cells cur 3 (0, 0)) := hc
    rw [hc] at hc'
    cases hc'
  refine ⟨(h1.trans (hb.mono (by omega))).setCell (Nat.le_refl _) _, by simp; omega, fun r => if r = k then .slice A (l.getD k []).length c else F r, h31.set k _, fun r hr1 hr2 => ?_⟩
  by_cases e : r = k
  · subst e
    exact ⟨A, c, by simp, hr.block (hne hr) (by simp)⟩
  · obtain ⟨A', c', e0, ej⟩ := h4 r (by omega) hr2
    have ej1 : RowI w1 w1.heap.size A' (l.getD r []) := ej.block (fun a ha => hb.block _ (ej.typ a ha).1) hsz
    exact ⟨A', c', by simp [e, e0], ej1.block (hne ej1) (by simp)⟩

theorem Built.tabT {w0 w : World} {ub : Nat} {l : List (List Nat)} (h : Built w0 w ub l l.length) : TabT w (some ⟨ub, 0, none⟩) l := by
  obtain ⟨h1, h2, F, h3, h4⟩ := h
  intro hp
  refine ⟨ub, rfl, ?_, fun r hr => ?_⟩
  · obtain ⟨cur, hc, _⟩ := h3
    exact ⟨cur, hc⟩
  · obtain ⟨A, c, e, hj⟩ := h4 r hr hr
    exact ⟨A, c, by rw [h3.cell hr, e], hj⟩

/-- What All answers. -/
def AllPost (w : World) (l : List (List Nat)) (e : Ending) (w' : World) : Prop := e = .returned (.slice (some ⟨w.heap.size, 0, none⟩) l.length l.length) ∧ TabT w' (some ⟨w.heap.size, 0, none⟩) l ∧ Below w.heap.size w w'

theorem all_nil (w : World) : Calls Tryd.prog 56 #[.pointer none] w fun e w' => e = .returned (.slice none 0 0) ∧ w = w' := by
  go_enter Tryd.func56, Tryd.ntmps56
  go_wp2
  go_ret
  exact ⟨rfl, rfl⟩

theorem idx_top (ub n k : Nat) (hk : k < n) (W : World) : (Instr.indexAt 31 (.slice (some ⟨ub, 0, none⟩) n n) (.int .i64 (k : Int))).run Tryd.prog W = .ok (.pointer (some ⟨ub, k, none⟩)) W := by
  have hs : ∀ W : World, (sizeOf (Tryd.prog.elem 31)).run Tryd.prog W = .ok 1 W := fun W => by kernel_rfl
  rw [run_indexAt_slice (P := Tryd.prog) W 31 ⟨ub, 0, none⟩ n n .i64 k (by kernel_rfl), if_pos (by omega), hs]
  simp only [Result.andThen, Nat.mul_one, Int.toNat_natCast, add_zero]
set_option maxRecDepth 100000 in
theorem slice_parts (a o n : Nat) (hn : n ≤ 8) (W : World) : (Instr.sliceAt 37 (.pointer (some ⟨a, o, none⟩)) none (some (.int .i64 (n : Int))) none).run Tryd.prog W = .ok (.slice (some ⟨a, o, none⟩) n 8) W := by
  have ha : Tryd.prog.arrayLen 37 = 8 := by kernel_rfl
  have := run_sliceAt_array_h (P := Tryd.prog) (w := W) (t := 37) (a := ⟨a, o, none⟩) Tryd.underlying37 .i64 (n : Int) (by omega) (by rw [ha]; omega)
  rw [this, ha]
  rfl

set_option maxHeartbeats 1600000 in
theorem all_any (a f : Nat) (o : Option PS) (w : World) (h : IsPars w a f o) : Calls Tryd.prog 56 #[.pointer (some ⟨a, f, none⟩)] w (AllPost w (listP o)) := by
  obtain ⟨hL, hq⟩ := list_ok h.ok
  have hrow : ∀ r, ((listP o).getD r []).length ≤ 8 := fun r => by
    by_cases hr : r < (listP o).length
    · refine (hq _ ?_).2.1
      simp [List.getD, List.getElem?_eq_getElem hr]
    · rw [getD_out _ _ _ (by omega)]; simp
  have hb := h.blk
  have hlt := hb.lt
  have c0 : w.cell? ⟨a, f + 144, none⟩ = some (.int .i64 (listP o).length) := hb.len
  have HBk : Hid (∀ w', Below w.heap.size w w' → PB w' a f (memOf o)) := Lib.hid fun w' hw => Part.of_block hb (hw.block a hlt)
  have HR := Lib.hid hrow
  have HA := Lib.hid hlt
  have HO : Hid (∀ r j, (memOf o).S r = ((listP o).getD r []).length ∧ (memOf o).P r j = ((listP o).getD r []).getD j 0) := Lib.hid fun _ _ => ⟨rfl, rfl⟩
  generalize listP o = l at *
  generalize memOf o = m at *
  have hmk := run_make_row' (P := Tryd.prog) 31 36 (.slice none 0 0) 24 Tryd.underlying31 info_row rfl .i64 .i64 l.length (by omega) (by omega)
  have HS := Lib.hid (Built.start w l)
  obtain ⟨n, hn⟩ : ∃ n, n = l.length := ⟨_, rfl⟩
  have HN := Lib.hid hn
  rw [← hn] at c0 hL hmk
  clear h hq hrow hb hlt hn
  go_enter Tryd.func56, Tryd.ntmps56
  go_wp2
  go_loopw [14] (fun i wr => ∃ k : Nat, k ≤ n ∧ i = .int .i64 k ∧ Hid (Built w wr w.heap.size l k)) (fun i _ => n - (RowKit.intOf i).toNat)
  case atStart => exact ⟨0, Nat.zero_le _, rfl, Lib.hid (by rw [HN.out]; exact HS.out)⟩
  case round =>
    obtain ⟨k, hk, rfl, HB⟩ := hrel
    rename_i wr
    clear hmk c0 HS
    by_cases hlt : k < n
    · have hk16 : k < 16 := by omega
      obtain ⟨s, hs⟩ : ∃ s, s = (l.getD k []).length := ⟨_, rfl⟩
      have hs8 : s ≤ 8 := by rw [hs]; exact HR.out k
      have hbk : PB wr a f m := HBk.out _ HB.out.1
      have c1 : wr.cell? ⟨a, f + 128 + k, none⟩ = some (.int .i64 s) := by rw [hbk.size hk16, (HO.out k 0).1, hs]
      have i1 := idx_size a f k hk16
      have i2 := idx_row a f k hk16
      have i3 := idx_top w.heap.size n k hlt
      have i4 := slice_parts a (f + k * 8) s hs8
      have hub : w.heap.size < wr.heap.size := HB.out.2.1
      have HAw : Hid (a < wr.heap.size) := Lib.hid hbk.lt
      have KS : Hid (∀ w', Below wr.heap.size wr w' → w'.cell? ⟨a, f + 128 + k, none⟩ = some (.int .i64 s)) := Lib.hid fun w' hw => (hw.cell (p := ⟨a, f + 128 + k, none⟩) HAw.out).trans c1
      have HC : Hid (Calls Tryd.prog 64 #[.slice (some ⟨a, f + k * 8, none⟩) s 8] wr.drew (fun e w' => ∃ A c, e = .returned (.slice A s c) ∧ Below wr.heap.size wr w' ∧ Hid (Built w (w'.setCell ⟨w.heap.size, k, none⟩ (.slice A s c)) w.heap.size l (k + 1)) ∧ (∃ v, w'.cell? ⟨w.heap.size, k, none⟩ = some v) ∧ w'.frozen? ⟨w.heap.size, k, none⟩ = false)) := Lib.hid (by
        have := clone_row a (f + k * 8) 8 (l.getD k []) wr.drew (HR.out k) (by omega) (fun j hj => by
          have hj8 : j < 8 := Nat.lt_of_lt_of_le hj (HR.out k)
          have := hbk.part hk16 hj8
          rw [(HO.out k j).2] at this
          exact this) hbk.lt
        rw [hs]
        refine this.mono ?_
        rintro e w' ⟨A, c, rfl, b1, hr⟩
        have b2 : Below wr.heap.size wr w' := of_drew b1
        have hkl : k < l.length := by rw [← HN.out]; exact hlt
        have hw := World.rowIs.of_block HB.out.2.2.choose_spec.1 (b2.block _ hub)
        exact ⟨A, c, rfl, b2, Lib.hid (HB.out.next b2 hr), ⟨_, hw.cell hkl⟩, hw.frozen k⟩)
      have KS2 : Hid (∀ w' v, Below wr.heap.size wr w' → (w'.setCell ⟨w.heap.size, k, none⟩ v).cell? ⟨a, f + 128 + k, none⟩ = some (.int .i64 s)) := Lib.hid fun w' v hw => by
        rw [World.cell?_setCell_other _ _ _ _ (by intro e; injection e with e; have := HA.out; omega)]
        exact KS.out _ hw
      have HUB := Lib.hid hub
      clear hbk hs hub
      go_wp2_with fail
      go_region_held3 (fun w' => w'.cell? ⟨a, f + 128 + k, none⟩ = some (.int .i64 s))
        (first | go_keep | exact KS.out _ k1 | exact KS2.out _ _ k1)
        (first | (go_at_call 64; (with_reducible refine HC.out.mono ?_); rintro e w4 ⟨A1, cc, rfl, k1, hbu, ⟨v, t1⟩, t2⟩))
      have HBU := Lib.hid hbu.out
      clear hbu k1 t1 t2 HC KS KS2
      go_wp2
      go_roundw
      case rel => exact ⟨k + 1, by omega, by go_num, HBU⟩
      case measure => simp [RowKit.intOf]; omega
    · have hkn : k = n := by omega
      subst hkn
      go_wp2
      go_ret
      have hb := HB.out
      rw [HN.out] at hb ⊢
      exact ⟨rfl, hb.tabT, hb.1⟩
end Go.Proofs.YtkenaccnmmmooaaDoor.P7

/-! ## Layer 7: the document's list while it is built. -/
namespace Go.Proofs.YtkenaccnmmmooaaDoor.P7
open Go.RowKit Par

/-- The document's list while it is built: the parameters that are whole, the parts of the one that is not. -/
structure RefM (w0 w : World) (base b : Nat) (all : List (List Nat)) (one : List Nat) (A : Option Addr) (cA g cO : Nat) : Prop where
  old : Below base w0 w
  bb : base ≤ b
  sz : b ≤ w.heap.size
  own : w.ownsRow b 3 1 (.slice (some ⟨g, 0, none⟩) one.length cO) one.length (intV one)
  rows : ∃ rs, w.ownsRow base 36 1 (.slice A all.length cA) all.length rs ∧ ∀ i, i < all.length → ∃ A' c, rs[i]? = some (.slice A' (all.getD i []).length c) ∧ RowI w b A' (all.getD i [])

theorem RefM.below {w0 w w' : World} {base b : Nat} {all : List (List Nat)} {one : List Nat} {A : Option Addr} {cA g cO : Nat} (h : RefM w0 w base b all one A cA g cO) (hb : Below w.heap.size w w') : RefM w0 w' base b all one A cA g cO := by
  obtain ⟨rs, h1, h2⟩ := h.rows
  have hsz := h.sz
  have hbb := h.bb
  refine ⟨h.old.trans (hb.mono (by omega)), h.bb, Nat.le_trans h.sz hb.size, row_keep h.own (fun k _ hk => hb.block k hk), rs, row_keep h1 (fun k _ hk => hb.block k hk), fun i hi => ?_⟩
  obtain ⟨A', c, e, hr⟩ := h2 i hi
  exact ⟨A', c, e, hr.block (fun a ha => hb.block _ (by have := (hr.typ a ha).1; omega)) (Nat.le_refl _)⟩
theorem RefM.alloc {w0 w : World} {base b : Nat} {all : List (List Nat)} {one : List Nat} {A : Option Addr} {cA g cO : Nat} (h : RefM w0 w base b all one A cA g cO) (o : Obj) : RefM w0 (w.alloc o) base b all one A cA g cO := h.below ((Below.refl _ _).alloc (Nat.le_refl _) _)

theorem RefM.start (w : World) : RefM w (w.alloc (.cells #[] 3)) w.heap.size w.heap.size [] [] none 0 w.heap.size 0 :=
  ⟨(Below.refl _ _).alloc (Nat.le_refl _) _, Nat.le_refl _, by simp, own_empty w _, [], ⟨rfl, Or.inl ⟨rfl, rfl⟩⟩, fun i hi => by simp at hi⟩

/-- An empty one. -/
theorem RefM.fresh {w0 w : World} {base b : Nat} {all : List (List Nat)} {one : List Nat} {A : Option Addr} {cA g cO : Nat} (h : RefM w0 w base b all one A cA g cO) : RefM w0 (w.alloc (.cells #[] 3)) base w.heap.size all [] A cA w.heap.size 0 := by
  have h' := h.alloc (.cells #[] 3)
  obtain ⟨rs, h1, h2⟩ := h'.rows
  have hsz := h.sz
  have hbb := h.bb
  refine ⟨h'.old, by omega, by simp, own_empty w _, rs, h1, fun i hi => ?_⟩
  obtain ⟨A', c, e, hr⟩ := h2 i hi
  exact ⟨A', c, e, hr.block (fun _ _ => rfl) h.sz⟩

/-- A part more. -/
theorem RefM.put {w0 w w1 : World} {base b : Nat} {all : List (List Nat)} {one : List Nat} {A : Option Addr} {cA g cO : Nat} (h : RefM w0 w base b all one A cA g cO) (n : Nat) {o : Obj} {v : Value}
    (hown : w1.ownsRow b 3 1 v (one.length + 1) (intV one ++ [.int .i64 n])) (hg : (w.alloc o).grownBy w1 (some g)) :
    ∃ g' c', v = .slice (some ⟨g', 0, none⟩) (one.length + 1) c' ∧ RefM w0 w1 base b all (one ++ [n]) A cA g' c' := by
  obtain ⟨g', c', rfl, _, _⟩ := hown.form (by omega)
  have h' := h.alloc o
  obtain ⟨rs, h1, h2⟩ := h'.rows
  have hgb := (row_ge h'.own g rfl).1
  have hgl := (row_ge h'.own g rfl).2
  have hsz := h'.sz
  have hbb := h.bb
  have hsize := hg.size
  refine ⟨g', c', rfl, h'.old.grown hg (by omega) (fun k hk => by cases hk; omega), h.bb, by omega, ?_, rs, row_keep h1 (fun k hk hkl => hg.block k hkl ?_), fun i hi => ?_⟩
  · rw [List.length_append]
    rw [show intV (one ++ [n]) = intV one ++ [.int .i64 n] by simp [intV]]
    exact hown
  · intro e
    cases e
    exact row_apart h1 h'.own (by decide) g hk rfl
  · obtain ⟨A', c, e, hr⟩ := h2 i hi
    exact ⟨A', c, e, hr.block (fun a ha => hg.block _ (by have := (hr.typ a ha).1; omega) (fun e => by have := (hr.typ a ha).1; injection e with e; omega)) (Nat.le_refl _)⟩

/-- A parameter more, and an empty one. -/
theorem RefM.push {w0 w w1 : World} {base b : Nat} {all : List (List Nat)} {one : List Nat} {A : Option Addr} {cA g cO : Nat} (h : RefM w0 w base b all one A cA g cO) {o : Obj} {v : Value} {rs : List Value}
    (hrs : ∀ i, i < all.length → ∃ A' c, rs[i]? = some (.slice A' (all.getD i []).length c) ∧ RowI w b A' (all.getD i []))
    (hrl : rs.length = all.length)
    (hown : w1.ownsRow base 36 1 v (all.length + 1) (rs ++ [.slice (some ⟨g, 0, none⟩) one.length cO])) (hg : (w.alloc o).grownBy w1 (Value.slice A all.length cA).ownBlock) :
    ∃ g' c', v = .slice (some ⟨g', 0, none⟩) (all.length + 1) c' ∧ RefM w0 (w1.alloc (.cells #[] 3)) base w1.heap.size (all ++ [one]) [] (some ⟨g', 0, none⟩) c' w1.heap.size 0 := by
  obtain ⟨g', c', rfl, _, _⟩ := hown.form (by omega)
  have h' := h.alloc o
  obtain ⟨rs', h1, _⟩ := h'.rows
  have hsz := h.sz
  have hbb := h.bb
  have hsize := hg.size
  have hsa : (w.alloc o).heap.size = w.heap.size + 1 := by simp
  have ho1 : w1.ownsRow b 3 1 (.slice (some ⟨g, 0, none⟩) one.length cO) one.length (intV one) := row_keep h'.own (fun k hk hkl => hg.block k hkl (fun e => row_apart h'.own h1 (by decide) k hk e.symm))
  have hold : Below base w0 w1 := h'.old.grown hg (by omega) (fun k hk => (row_ge h1 k hk).1)
  refine ⟨g', c', rfl, hold.alloc (by omega) _, by omega, by simp, own_empty w1 _, rs ++ [.slice (some ⟨g, 0, none⟩) one.length cO], ?_, fun i hi => ?_⟩
  · rw [List.length_append]
    exact row_keep hown (fun k _ hk => heap_alloc_old w1 _ hk)
  · rw [List.length_append] at hi
    by_cases hlt : i < all.length
    · obtain ⟨A', c, e, hr⟩ := hrs i hlt
      have hge : (all ++ [one]).getD i [] = all.getD i [] := by rw [getD_snoc, if_pos hlt]
      rw [hge]
      refine ⟨A', c, by rw [List.getElem?_append_left (by omega)]; exact e, ?_⟩
      have hr0 : RowI (w.alloc o) b A' (all.getD i []) := hr.block (fun a ha => heap_alloc_old w o (by have := (hr.typ a ha).1; omega)) (Nat.le_refl _)
      have hr1 : RowI w1 b A' (all.getD i []) := hr0.block (fun a ha => hg.block _ (by have := (hr.typ a ha).1; omega) (fun e => hr0.apart h1 a ha e.symm)) (Nat.le_refl _)
      exact hr1.block (fun a ha => heap_alloc_old w1 _ (by have := (hr.typ a ha).1; omega)) (by omega)
    · have hi' : i = all.length := by simp at hi; omega
      subst hi'
      have hge : (all ++ [one]).getD all.length [] = one := by rw [getD_snoc, if_neg (by omega), if_pos rfl]
      rw [hge]
      refine ⟨some ⟨g, 0, none⟩, cO, by rw [List.getElem?_append_right (by omega), hrl, Nat.sub_self]; rfl, ?_⟩
      exact (own_rowI ho1).block (fun a ha => heap_alloc_old w1 _ ((own_rowI ho1).typ a ha).1) (Nat.le_refl _)

theorem RefM.tabT {w0 w : World} {base b : Nat} {all : List (List Nat)} {one : List Nat} {A : Option Addr} {cA g cO : Nat} (h : RefM w0 w base b all one A cA g cO) : TabT w A all := by
  obtain ⟨rs, h1, h2⟩ := h.rows
  intro hp
  obtain ⟨ga, ca, e, hge, hlt⟩ := h1.form hp
  injection e with e1 e2 e3
  subst e1
  refine ⟨ga, rfl, ?_, fun r hr => ?_⟩
  · rcases h1.2 with ⟨e, _⟩ | ⟨g', _, cur, e, _, hh, _⟩
    · cases e
    · cases e; exact ⟨cur, hh⟩
  · obtain ⟨A', c, e, hr2⟩ := h2 r hr
    refine ⟨A', c, ?_, hr2.block (fun _ _ => rfl) h.sz⟩
    have := World.ownsRow.cells (w := w) h1 (g := ga) rfl r _ e
    rwa [add_zero] at this
end Go.Proofs.YtkenaccnmmmooaaDoor.P7

/-! ## Layer 7: the document's All (written by gen_pak.py). -/
namespace Go.Proofs.YtkenaccnmmmooaaDoor.P7
open Go.RowKit Par

namespace Par
structure RB (r : RS) (k : Nat) : Prop where
  one : r.one.length ≤ 8
  few : r.parts ≤ 8 → r.one.length + 1 = r.parts
  n : r.n ≤ 9999
  all : r.all.length ≤ 16
  parts : r.parts ≤ k + 1

theorem rb_new : RB rnew 0 := ⟨by decide, by decide, by decide, by decide, by decide⟩
theorem RB.more {r : RS} {k : Nat} (h : RB r k) : RB r (k + 1) := ⟨h.one, h.few, h.n, h.all, by have := h.parts; omega⟩
theorem rb_step {r : RS} {k : Nat} (h : RB r k) (b : Bool) (c : Nat) : RB (rstep b r c) (k + 1) := by
  obtain ⟨ra, ro, rn, ry, rp⟩ := r
  obtain ⟨h1, h2, h3, h4, h5⟩ := h
  simp only at h1 h2 h3 h4 h5
  unfold rstep
  by_cases hc : c ≤ 57
  · simp only [hc, if_true]
    refine ⟨h1, h2, ?_, h4, by show rp ≤ _; omega⟩
    show (if rp ≤ 8 then (if 9999 < 10 * rn + (c - 48) then 9999 else 10 * rn + (c - 48)) else rn) ≤ 9999
    split
    · split <;> omega
    · exact h3
  · simp only [hc, if_false]
    have ho : (if rp ≤ 8 then ro ++ [rn] else ro).length ≤ 8 := by
      split
      · rename_i h; have := h2 h; simp; omega
      · exact h1
    by_cases h59 : c = 59
    · simp only [h59, if_true]
      refine ⟨by simp, by simp, by simp, ?_, by simp⟩
      show (if (ry || !b) && decide (ra.length < 16) then ra ++ [if rp ≤ 8 then ro ++ [rn] else ro] else ra).length ≤ 16
      split
      · rename_i h
        have : ra.length < 16 := by
          rw [Bool.and_eq_true] at h
          simpa using h.2
        simp
        omega
      · exact h4
    · simp only [h59, if_false]
      refine ⟨ho, fun h => ?_, by simp, h4, by show rp + 1 ≤ _; omega⟩
      have h' : rp + 1 ≤ 8 := h
      have := h2 (by omega)
      show (if rp ≤ 8 then ro ++ [rn] else ro).length + 1 = rp + 1
      rw [if_pos (by omega)]
      simp
      omega
theorem rb_comes {r : RS} {k : Nat} (h : RB r k) (c : Nat) : RB (rcomes r c) (k + 1) := by
  unfold rcomes
  split
  · exact rb_step h _ _
  · exact h.more

/-- Where the document's road is behind k rounds. -/
def StK (l : List UInt8) (k : Nat) (r : RS) : Prop := (k ≤ l.length ∧ r = runR rnew (l.take k)) ∨ (k = l.length + 1 ∧ r.all = refV l)
theorem runR_append (r : RS) (l m : List UInt8) : runR r (l ++ m) = runR (runR r l) m := by
  induction l generalizing r with
  | nil => rfl
  | cons b l ih => exact ih _
theorem stk_next {l : List UInt8} {k : Nat} {r : RS} (h : StK l k r) (hk : k < l.length) : StK l (k + 1) (rcomes r l[k].toNat) := by
  rcases h with ⟨_, rfl⟩ | ⟨h, _⟩
  · refine Or.inl ⟨hk, ?_⟩
    rw [List.take_succ_eq_append_getElem hk, runR_append]
    rfl
  · omega
theorem stk_end {l : List UInt8} {r : RS} (h : StK l l.length r) : StK l (l.length + 1) (rstep true r 59) := by
  rcases h with ⟨_, rfl⟩ | ⟨h, _⟩
  · refine Or.inr ⟨rfl, ?_⟩
    rw [List.take_length]
    rfl
  · omega
end Par

theorem one_new (w : World) (v : Value) (t : TypeId) : ∀ j u, [v][j]? = some u → (w.alloc (.cells #[v] t)).cell? ((⟨w.heap.size, 0, none⟩ : Addr).add j) = some u := by
  intro j u hu
  cases j with
  | zero =>
    simp at hu
    subst hu
    rw [add_zero]
    simp
  | succ j => simp at hu

/-- What the document's All answers. -/
def RefPost (w : World) (l : List (List Nat)) (e : Ending) (w' : World) : Prop := ∃ A c, e = .returned (.slice A l.length c) ∧ TabT w' A l ∧ Below w.heap.size w w'

theorem RefM.tab {w0 w : World} {base b : Nat} {all : List (List Nat)} {one : List Nat} {A : Option Addr} {cA g cO : Nat} (h : RefM w0 w base b all one A cA g cO) (hl : ∀ q ∈ all, q.length ≤ 1000) : Tab w w.heap.size A all := by
  obtain ⟨rs, h1, h2⟩ := h.rows
  intro hp
  obtain ⟨ga, ca, e, hge, hlt⟩ := h1.form hp
  injection e with e1 e2 e3
  subst e1
  refine ⟨_, rfl, hlt, fun r hr => ?_⟩
  obtain ⟨A', c, e, hr2⟩ := h2 r hr
  refine ⟨A', c, ?_, ?_, fun j hj => ?_⟩
  · have := World.ownsRow.cells (w := w) h1 (g := ga) rfl r _ e
    exact this
  · have := hl _ (getD_mem all r [] hr)
    show (all.getD r []).length ≤ _
    omega
  · obtain ⟨a', e1, e2, e3⟩ := hr2.row j hj
    exact ⟨a', e1, by have := h.sz; omega, e3⟩

end Go.Proofs.YtkenaccnmmmooaaDoor.P7
