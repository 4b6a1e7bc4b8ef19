/- Layer 7: Byte, of a list that lies inside a block. -/
import Derived.Test.YtfekjlajagoooaaDoorF7PaA
import Derived.Laws.Tables
namespace Go.Proofs.YtfekjlajagoooaaDoor.P7
open Go.RowKit Par

def modeB : Option PS → Bool
  | none => false
  | some p => p.m != 0
def memOf (o : Option PS) : PM := ⟨fun i j => ((listP o).getD i []).getD j 0, fun i => ((listP o).getD i []).length, (listP o).length, modeB o⟩

/-- A list in memory. -/
structure IsPars (w : World) (a f : Nat) (o : Option PS) : Prop where
  blk : PB w a f (memOf o)
  ok : OkO o



def zeroM : Array Value := cellsM (memOf none)
theorem zero_list (W : World) : (zeroValue 57).run Tryd.prog W = .ok (.agg zeroM) W := by kernel_rfl
theorem zero_size : zeroM.size = 146 := by simp [zeroM, cellsM]
theorem zero_one : zeroM.all (·.oneCell') = true := by kernel_rfl
theorem zero_agg : (Value.agg zeroM).cells = zeroM := by kernel_rfl
attribute [local irreducible] zeroM
theorem store_list (a f : Nat) (m : PM) (w : World) (h : PB w a f m) : (storeCells ⟨a, f, none⟩ zeroM.toList).run Tryd.prog w = .ok () (w.setCells a f zeroM.toList) :=
  run_storeCells_cells (P := Tryd.prog) a f zeroM.toList 0 w (fun j hj => by rw [Nat.add_zero, h.at_ (by simpa [zero_size] using hj)]; rfl) (fun j _ => h.free _) (fun v hv => (Array.all_eq_true_iff_forall_mem.1 zero_one) v (by simpa using hv))
theorem clear_any (a f : Nat) (o : Option PS) (w : World) (h : IsPars w a f o) : Calls Tryd.prog 74 #[.pointer (some ⟨a, f, none⟩)] w fun e w' => e = .returned (.tuple #[]) ∧ IsPars w' a f none ∧ Stirs a f 146 w w' := by
  have hb := zero_list
  have hs := store_list a f _ w h.blk
  have hz := zero_size
  have HP : Hid (IsPars (w.setCells a f zeroM.toList) a f none ∧ Stirs a f 146 w (w.setCells a f zeroM.toList)) := Lib.hid (by
    have h1 := Part.cells h.blk zeroM (by rw [zero_size, cells_size])
    have h2 := Stirs.cells h.blk zeroM (by rw [zero_size, cells_size])
    rw [cells_size] at h2
    rw [show zeroM = cellsM (memOf none) by unfold zeroM; rfl] at h1 h2 ⊢
    exact ⟨⟨h1, ok_none⟩, h2⟩)
  clear h
  go_enter Tryd.func74, Tryd.ntmps74
  go_wp2
  go_end0
  exact ⟨rfl, HP.out⟩

namespace Par
theorem getD_snoc {α : Type} (l : List α) (x d : α) (i : Nat) : (l ++ [x]).getD i d = if i < l.length then l.getD i d else if i = l.length then x else d := by
  unfold List.getD
  by_cases h : i < l.length
  · simp [h, List.getElem?_append_left h]
  · rw [List.getElem?_append_right (by omega)]
    by_cases h2 : i = l.length
    · subst h2; simp
    · have : i - l.length ≠ 0 := by omega
      simp [h, h2, this]
theorem getD_out {α : Type} (l : List α) (d : α) (i : Nat) (h : l.length ≤ i) : l.getD i d = d := by simp [List.getD, List.getElem?_eq_none h]
end Par

theorem pm_ext {a b : PM} (h1 : ∀ i j, a.P i j = b.P i j) (h2 : ∀ i, a.S i = b.S i) (h3 : a.n = b.n) (h4 : a.ov = b.ov) : a = b := by
  obtain ⟨P, S, n, o⟩ := a
  obtain ⟨P', S', n', o'⟩ := b
  obtain rfl : P = P' := funext fun i => funext fun j => h1 i j
  obtain rfl : S = S' := funext h2
  obtain rfl : n = n' := h3
  obtain rfl : o = o' := h4
  rfl

/-- A new parameter. -/
theorem param_new (l : List (List Nat)) (b : Bool) : (⟨fun i j => (l.getD i []).getD j 0, fun i => if i = l.length then 1 else (l.getD i []).length, l.length + 1, b⟩ : PM) =
    ⟨fun i j => ((l ++ [[0]]).getD i []).getD j 0, fun i => ((l ++ [[0]]).getD i []).length, (l ++ [[0]]).length, b⟩ := by
  refine pm_ext (fun i j => ?_) (fun i => ?_) (by simp) rfl
  · show (l.getD i []).getD j 0 = ((l ++ [[0]]).getD i []).getD j 0
    rw [getD_snoc]
    by_cases h : i < l.length
    · rw [if_pos h]
    · rw [if_neg h, getD_out l [] i (by omega)]
      by_cases h2 : i = l.length
      · rw [if_pos h2]; cases j <;> simp
      · rw [if_neg h2]
  · show (if i = l.length then 1 else (l.getD i []).length) = ((l ++ [[0]]).getD i []).length
    rw [getD_snoc]
    by_cases h2 : i = l.length
    · subst h2; simp
    · rw [if_neg h2]
      by_cases h : i < l.length
      · rw [if_pos h]
      · rw [if_neg h, if_neg h2, getD_out l [] i (by omega)]

theorem param_none : paramM (memOf none) = memOf (some ⟨[], [], 0, 0⟩) := by
  have := param_new [] false
  unfold paramM
  rw [if_neg (by decide)]
  exact this
theorem param_some {p : PS} (h : OkP p) : paramM (memOf (some p)) = memOf (some (step1 p 59)) := by
  have hn : (memOf (some p)).n = p.ps.length + 1 := by simp [memOf, listP]
  have h16 := h.ps
  unfold paramM
  by_cases h2 : p.m = 2
  · have := h.m2 h2
    rw [if_pos (by rw [hn]; omega)]
    unfold step1
    rw [if_pos h2]
    refine pm_ext (fun _ _ => rfl) (fun _ => rfl) rfl ?_
    show true = (p.m != 0)
    rw [h2]; rfl
  · unfold step1
    rw [if_neg h2, if_pos rfl]
    by_cases hl : p.ps.length + 1 < 16
    · rw [if_neg (by rw [hn]; omega), if_pos hl]
      exact param_new (p.ps ++ [p.one ++ [p.n]]) false
    · rw [if_pos (by rw [hn]; omega), if_neg hl]
      rfl

theorem part_some {p : PS} (h : OkP p) (hm : p.m = 0) : partM (memOf (some p)) p.ps.length = memOf (some (step1 p 58)) := by
  have hs : (memOf (some p)).S p.ps.length = p.one.length + 1 := by simp [memOf, listP]
  have h8 := h.one
  have e2 : ¬ p.m = 2 := by omega
  have e1 : ¬ p.m = 1 := by omega
  have hst : step1 p 58 = if p.one.length + 1 < 8 then { p with one := p.one ++ [p.n], n := 0 } else { p with m := 1 } := by
    unfold step1
    rw [if_neg e2, if_neg (by decide), if_neg e1, if_pos rfl]
  rw [hst]
  unfold partM
  by_cases hl : p.one.length + 1 < 8
  · rw [if_neg (show ¬ (memOf (some p)).S p.ps.length = 8 by rw [hs]; omega), if_pos hl]
    refine pm_ext (fun i j => ?_) (fun i => ?_) ?_ ?_
    · show ((p.ps ++ [p.one ++ [p.n]]).getD i []).getD j 0 = ((p.ps ++ [(p.one ++ [p.n]) ++ [0]]).getD i []).getD j 0
      rw [getD_snoc, getD_snoc]
      by_cases h1 : i < p.ps.length
      · rw [if_pos h1, if_pos h1]
      · rw [if_neg h1, if_neg h1]
        by_cases h2 : i = p.ps.length
        · rw [if_pos h2, if_pos h2, getD_snoc (p.one ++ [p.n])]
          by_cases h3 : j < (p.one ++ [p.n]).length
          · rw [if_pos h3]
          · rw [if_neg h3, getD_out _ _ _ (by omega)]; split <;> rfl
        · rw [if_neg h2, if_neg h2]
    · show (if i = p.ps.length then (memOf (some p)).S p.ps.length + 1 else ((p.ps ++ [p.one ++ [p.n]]).getD i []).length) = ((p.ps ++ [(p.one ++ [p.n]) ++ [0]]).getD i []).length
      rw [getD_snoc, getD_snoc, hs]
      by_cases h2 : i = p.ps.length
      · subst h2; simp
      · simp [h2]
    · simp [memOf, listP]
    · show false = (p.m != 0)
      rw [hm]; rfl
  · rw [if_pos (show (memOf (some p)).S p.ps.length = 8 by rw [hs]; omega), if_neg hl]
    rfl

theorem digit_some {p : PS} (hm : p.m = 0) {d : Nat} (hd : d < 10) : digitM (memOf (some p)) p.ps.length p.one.length d = memOf (some (step1 p (d + 48))) := by
  have hp : (memOf (some p)).P p.ps.length p.one.length = p.n := by simp [memOf, listP]
  have e2 : ¬ p.m = 2 := by omega
  have e1 : ¬ p.m = 1 := by omega
  have hst : step1 p (d + 48) = { p with n := if 9999 < 10 * p.n + d then 9999 else 10 * p.n + d } := by
    unfold step1
    rw [if_neg e2, if_neg (show ¬ d + 48 = 59 by omega), if_neg e1, if_neg (show ¬ d + 48 = 58 by omega), Nat.add_sub_cancel]
  rw [hst]
  unfold digitM
  rw [hp]
  generalize (if 9999 < 10 * p.n + d then 9999 else 10 * p.n + d) = x
  refine pm_ext (fun i j => ?_) (fun i => ?_) ?_ ?_
  · show (if i = p.ps.length ∧ j = p.one.length then x else ((p.ps ++ [p.one ++ [p.n]]).getD i []).getD j 0) = ((p.ps ++ [p.one ++ [x]]).getD i []).getD j 0
    rw [getD_snoc, getD_snoc]
    by_cases h1 : i < p.ps.length
    · rw [if_neg (by omega), if_pos h1, if_pos h1]
    · rw [if_neg h1, if_neg h1]
      by_cases h2 : i = p.ps.length
      · rw [if_pos h2, if_pos h2, getD_snoc, getD_snoc]
        by_cases h3 : j = p.one.length
        · rw [if_pos ⟨h2, h3⟩, if_neg (by omega), if_pos h3]
        · rw [if_neg (by omega)]
          simp [h3]
      · rw [if_neg (by omega), if_neg h2, if_neg h2]
  · show ((p.ps ++ [p.one ++ [p.n]]).getD i []).length = ((p.ps ++ [p.one ++ [x]]).getD i []).length
    rw [getD_snoc, getD_snoc]
    by_cases h2 : i = p.ps.length
    · subst h2; simp
    · simp [h2]
  · simp [memOf, listP]
  · rfl

def BytePost (w : World) (a f : Nat) (o : Option PS) (e : Ending) (w' : World) : Prop := e = .returned (.tuple #[]) ∧ IsPars w' a f o ∧ Stirs a f 146 w w'

/-- The three helpers over what a list is. -/
theorem some_param {p : PS} (h : OkP p) (a f : Nat) (w : World) (hb : PB w a f (memOf (some p))) : Calls Tryd.prog 88 #[.pointer (some ⟨a, f, none⟩)] w (PPost w a f (memOf (some (step1 p 59)))) := by
  have hn : (memOf (some p)).n = p.ps.length + 1 := by simp [memOf, listP]
  have := param_any a f _ (by rw [hn]; have := h.ps; omega) w hb (fun _ => by rw [hn]; show ((p.ps ++ [p.one ++ [p.n]]).getD (p.ps.length + 1) []).length = 0; rw [getD_out _ _ _ (by simp)]; rfl)
  rwa [param_some h] at this
theorem none_param (a f : Nat) (w : World) (hb : PB w a f (memOf none)) : Calls Tryd.prog 88 #[.pointer (some ⟨a, f, none⟩)] w (PPost w a f (memOf (some ⟨[], [], 0, 0⟩))) := by
  have := param_any a f _ (by decide) w hb (fun _ => rfl)
  rwa [param_none] at this
theorem some_part {p : PS} (h : OkP p) (hm : p.m = 0) (a f : Nat) (w : World) (hb : PB w a f (memOf (some p))) : Calls Tryd.prog 89 #[.pointer (some ⟨a, f, none⟩)] w (PPost w a f (memOf (some (step1 p 58)))) := by
  have hs : (memOf (some p)).S p.ps.length = p.one.length + 1 := by simp [memOf, listP]
  have := part_any a f _ p.ps.length (by simp [memOf, listP]) h.ps w hb (by rw [hs]; exact h.one)
  rwa [part_some h hm] at this
theorem some_digit {p : PS} (h : OkP p) (hm : p.m = 0) {d : Nat} (hd : d < 10) (a f : Nat) (w : World) (hb : PB w a f (memOf (some p))) : Calls Tryd.prog 90 #[.pointer (some ⟨a, f, none⟩), .int .i64 (d : Int)] w (PPost w a f (memOf (some (step1 p (d + 48))))) := by
  have hs : (memOf (some p)).S p.ps.length = p.one.length + 1 := by simp [memOf, listP]
  have hp : (memOf (some p)).P p.ps.length p.one.length = p.n := by simp [memOf, listP]
  have := digit_any a f _ p.ps.length p.one.length d (by simp [memOf, listP]) h.ps hs h.one (by rw [hp]; exact h.n) (by omega) w hb
  rwa [digit_some hm hd] at this

theorem step_in {o : Option PS} {c : Nat} (h1 : 48 ≤ c) (h2 : c ≤ 59) : comes o c = some (step1 (o.getD ⟨[], [], 0, 0⟩) c) := by
  unfold comes
  rw [if_pos (by simp [inB, h1, h2])]
theorem step_out {o : Option PS} {c : Nat} (h : c < 48 ∨ 59 < c) : comes o c = o := by
  unfold comes
  rw [if_neg (by simp [inB]; omega)]

theorem byte_nil (c : Int) (w : World) : Calls Tryd.prog 77 #[.pointer none, .int .u8 c] w fun e w' => e = .returned (.tuple #[]) ∧ w = w' := by
  go_enter Tryd.func77, Tryd.ntmps77
  go_wp2
  (try simp only [Exit.inBlock, Exit.then]); refine bodyPost_ret (results_none rfl _ _ _) rfl ?_
  exact ⟨rfl, rfl⟩
theorem byte_out (a f c : Nat) (hc : c < 48 ∨ 59 < c) (w : World) : Calls Tryd.prog 77 #[.pointer (some ⟨a, f, none⟩), .int .u8 (c : Int)] w fun e w' => e = .returned (.tuple #[]) ∧ w = w' := by
  rcases hc with hc | hc
  · have d1 : decide ((c : Int) < 48) = true := by simp; omega
    clear hc
    go_enter Tryd.func77, Tryd.ntmps77
    go_wp2
    (try simp only [Exit.inBlock, Exit.then]); refine bodyPost_ret (results_none rfl _ _ _) rfl ?_
    exact ⟨rfl, rfl⟩
  · have d1 : decide ((c : Int) < 48) = false := by simp; omega
    have d2 : decide ((59 : Int) < c) = true := by simp; omega
    clear hc
    go_enter Tryd.func77, Tryd.ntmps77
    go_wp2
    (try simp only [Exit.inBlock, Exit.then]); refine bodyPost_ret (results_none rfl _ _ _) rfl ?_
    exact ⟨rfl, rfl⟩

/-- What comes where there is a parameter. -/
theorem byte_semi {p : PS} (h : OkP p) (a f : Nat) (w : World) (hb : PB w a f (memOf (some p))) : Calls Tryd.prog 77 #[.pointer (some ⟨a, f, none⟩), .int .u8 59] w (PPost w a f (memOf (some (step1 p 59)))) := by
  have c0 : w.cell? ⟨a, f + 144, none⟩ = some (.int .i64 ((p.ps.length : Int) + 1)) := by rw [hb.len]; simp [memOf, listP]
  have HC := Lib.hid (some_param h a f w hb)
  clear h hb
  go_enter Tryd.func77, Tryd.ntmps77
  go_wp2_with fail
  refine HC.out.mono ?_
  rintro e w' ⟨rfl, h1, h2⟩
  have HP := Lib.hid (And.intro h1 h2)
  clear h1 h2 HC
  go_wp2
  go_end0
  exact ⟨rfl, HP.out⟩

theorem byte_over {p : PS} (hm : p.m ≠ 0) (a f c : Nat) (h1 : 48 ≤ c) (h2 : c < 59) (w : World) (hb : PB w a f (memOf (some p))) : Calls Tryd.prog 77 #[.pointer (some ⟨a, f, none⟩), .int .u8 (c : Int)] w fun e w' => e = .returned (.tuple #[]) ∧ w = w' := by
  have c0 : w.cell? ⟨a, f + 144, none⟩ = some (.int .i64 ((p.ps.length : Int) + 1)) := by rw [hb.len]; simp [memOf, listP]
  have c1 : w.cell? ⟨a, f + 145, none⟩ = some (.bool true) := by rw [hb.over]; simp [memOf, modeB, hm]
  have d1 : decide ((c : Int) < 48) = false := by simp; omega
  have d2 : decide ((59 : Int) < c) = false := by simp; omega
  have d3 : ((c : Int) == 59) = false := by simp; omega
  clear h1 h2 hb hm
  go_enter Tryd.func77, Tryd.ntmps77
  go_wp2
  go_end0
  exact ⟨rfl, rfl⟩

theorem byte_colon {p : PS} (h : OkP p) (hm : p.m = 0) (a f : Nat) (w : World) (hb : PB w a f (memOf (some p))) : Calls Tryd.prog 77 #[.pointer (some ⟨a, f, none⟩), .int .u8 58] w (PPost w a f (memOf (some (step1 p 58)))) := by
  have c0 : w.cell? ⟨a, f + 144, none⟩ = some (.int .i64 ((p.ps.length : Int) + 1)) := by rw [hb.len]; simp [memOf, listP]
  have c1 : w.cell? ⟨a, f + 145, none⟩ = some (.bool false) := by rw [hb.over]; simp [memOf, modeB, hm]
  have HC := Lib.hid (some_part h hm a f w hb)
  clear h hb hm
  go_enter Tryd.func77, Tryd.ntmps77
  go_wp2_with fail
  refine HC.out.mono ?_
  rintro e w' ⟨rfl, h1, h2⟩
  have HP := Lib.hid (And.intro h1 h2)
  clear h1 h2 HC
  go_wp2
  go_end0
  exact ⟨rfl, HP.out⟩

theorem byte_digit {p : PS} (h : OkP p) (hm : p.m = 0) (d : Nat) (hd : d < 10) (a f : Nat) (w : World) (hb : PB w a f (memOf (some p))) : Calls Tryd.prog 77 #[.pointer (some ⟨a, f, none⟩), .int .u8 ((d : Int) + 48)] w (PPost w a f (memOf (some (step1 p (d + 48))))) := by
  have c0 : w.cell? ⟨a, f + 144, none⟩ = some (.int .i64 ((p.ps.length : Int) + 1)) := by rw [hb.len]; simp [memOf, listP]
  have c1 : w.cell? ⟨a, f + 145, none⟩ = some (.bool false) := by rw [hb.over]; simp [memOf, modeB, hm]
  have HC := Lib.hid (some_digit h hm hd a f w hb)
  have d1 : decide ((d : Int) + 48 < 48) = false := by simp; omega
  have d2 : decide ((59 : Int) < (d : Int) + 48) = false := by simp; omega
  have d3 : ((d : Int) + 48 == 59) = false := by simp; omega
  have d4 : ((d : Int) + 48 == 58) = false := by simp; omega
  clear h hb hm
  go_enter Tryd.func77, Tryd.ntmps77
  go_wp2_with fail
  refine HC.out.mono ?_
  rintro e w' ⟨rfl, h1, h2⟩
  have HP := Lib.hid (And.intro h1 h2)
  clear h1 h2 HC
  go_wp2
  go_end0
  exact ⟨rfl, HP.out⟩

def newP : PS := ⟨[], [], 0, 0⟩
theorem none_semi (a f : Nat) (w : World) (hb : PB w a f (memOf none)) : Calls Tryd.prog 77 #[.pointer (some ⟨a, f, none⟩), .int .u8 59] w (PPost w a f (memOf (some (step1 newP 59)))) := by
  have c0 : w.cell? ⟨a, f + 144, none⟩ = some (.int .i64 0) := hb.len
  have H0 := Lib.hid (none_param a f w hb)
  clear hb
  go_enter Tryd.func77, Tryd.ntmps77
  go_wp2_with fail
  refine H0.out.mono ?_
  rintro e w1 ⟨rfl, h1, h2⟩
  have S1 := Lib.hid h2
  have c1 : w1.cell? ⟨a, f + 145, none⟩ = some (.bool false) := h1.over
  have HC := Lib.hid (some_param ok_new a f w1 h1)
  clear h1 h2 H0
  go_wp2_with fail
  refine (show Calls _ _ _ _ _ from HC.out).mono ?_
  rintro e w2 ⟨rfl, h1, h2⟩
  have HP := Lib.hid (And.intro h1 (S1.out.trans h2))
  clear h1 h2 HC S1
  go_wp2
  go_end0
  exact ⟨rfl, HP.out⟩
theorem none_colon (a f : Nat) (w : World) (hb : PB w a f (memOf none)) : Calls Tryd.prog 77 #[.pointer (some ⟨a, f, none⟩), .int .u8 58] w (PPost w a f (memOf (some (step1 newP 58)))) := by
  have c0 : w.cell? ⟨a, f + 144, none⟩ = some (.int .i64 0) := hb.len
  have H0 := Lib.hid (none_param a f w hb)
  clear hb
  go_enter Tryd.func77, Tryd.ntmps77
  go_wp2_with fail
  refine H0.out.mono ?_
  rintro e w1 ⟨rfl, h1, h2⟩
  have S1 := Lib.hid h2
  have c1 : w1.cell? ⟨a, f + 145, none⟩ = some (.bool false) := h1.over
  have HC := Lib.hid (some_part ok_new rfl a f w1 h1)
  clear h1 h2 H0
  go_wp2_with fail
  refine (show Calls _ _ _ _ _ from HC.out).mono ?_
  rintro e w2 ⟨rfl, h1, h2⟩
  have HP := Lib.hid (And.intro h1 (S1.out.trans h2))
  clear h1 h2 HC S1
  go_wp2
  go_end0
  exact ⟨rfl, HP.out⟩
theorem none_digit (d : Nat) (hd : d < 10) (a f : Nat) (w : World) (hb : PB w a f (memOf none)) : Calls Tryd.prog 77 #[.pointer (some ⟨a, f, none⟩), .int .u8 ((d : Int) + 48)] w (PPost w a f (memOf (some (step1 newP (d + 48))))) := by
  have c0 : w.cell? ⟨a, f + 144, none⟩ = some (.int .i64 0) := hb.len
  have H0 := Lib.hid (none_param a f w hb)
  have d1 : decide ((d : Int) + 48 < 48) = false := by simp; omega
  have d2 : decide ((59 : Int) < (d : Int) + 48) = false := by simp; omega
  have d3 : ((d : Int) + 48 == 59) = false := by simp; omega
  have d4 : ((d : Int) + 48 == 58) = false := by simp; omega
  clear hb
  go_enter Tryd.func77, Tryd.ntmps77
  go_wp2_with fail
  refine H0.out.mono ?_
  rintro e w1 ⟨rfl, h1, h2⟩
  have S1 := Lib.hid h2
  have c1 : w1.cell? ⟨a, f + 145, none⟩ = some (.bool false) := h1.over
  have HC := Lib.hid (some_digit (p := newP) ok_new rfl hd a f w1 h1)
  clear h1 h2 H0
  go_wp2_with fail
  refine (show Calls _ _ _ _ _ from HC.out).mono ?_
  rintro e w2 ⟨rfl, h1, h2⟩
  have HP := Lib.hid (And.intro h1 (S1.out.trans h2))
  clear h1 h2 HC S1
  go_wp2
  go_end0
  exact ⟨rfl, HP.out⟩

theorem byte_any (a f : Nat) (o : Option PS) (c : Nat) (w : World) (h : IsPars w a f o) : Calls Tryd.prog 77 #[.pointer (some ⟨a, f, none⟩), .int .u8 (c : Int)] w (BytePost w a f (comes o c)) := by
  by_cases hc : c < 48 ∨ 59 < c
  · rw [step_out hc]
    refine (byte_out a f c hc w).mono ?_
    rintro e w' ⟨rfl, rfl⟩
    exact ⟨rfl, h, Stirs.refl _ _ _ _⟩
  · have h1 : 48 ≤ c := by omega
    have h2 : c ≤ 59 := by omega
    have hok := ok_comes h.ok c
    rw [step_in h1 h2] at hok ⊢
    suffices hs : Calls Tryd.prog 77 #[.pointer (some ⟨a, f, none⟩), .int .u8 (c : Int)] w (PPost w a f (memOf (some (step1 (o.getD ⟨[], [], 0, 0⟩) c)))) by
      refine hs.mono ?_
      rintro e w' ⟨rfl, h3, h4⟩
      exact ⟨rfl, ⟨h3, hok⟩, h4⟩
    have hb := h.blk
    cases o with
    | none =>
      by_cases h59 : c = 59
      · subst h59; exact none_semi a f w hb
      by_cases h58 : c = 58
      · subst h58; exact none_colon a f w hb
      obtain ⟨d, rfl⟩ : ∃ d, c = d + 48 := ⟨c - 48, by omega⟩
      exact none_digit d (by omega) a f w hb
    | some p =>
      have hp : OkP p := h.ok p rfl
      by_cases h59 : c = 59
      · subst h59; exact byte_semi hp a f w hb
      by_cases hm : p.m = 0
      · by_cases h58 : c = 58
        · subst h58; exact byte_colon hp hm a f w hb
        obtain ⟨d, rfl⟩ : ∃ d, c = d + 48 := ⟨c - 48, by omega⟩
        exact byte_digit hp hm d (by omega) a f w hb
      · have he : step1 p c = p := by
          unfold step1
          by_cases h2 : p.m = 2
          · rw [if_pos h2]
          · have := hp.m
            rw [if_neg h2, if_neg h59, if_pos (by omega)]
        refine (byte_over hm a f c h1 (by omega) w hb).mono ?_
        rintro e w' ⟨rfl, rfl⟩
        refine ⟨rfl, ?_, Stirs.refl _ _ _ _⟩
        show PB w a f (memOf (some (step1 p c)))
        rw [he]
        exact hb
end Go.Proofs.YtfekjlajagoooaaDoor.P7
