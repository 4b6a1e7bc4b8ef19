/- Layer 10: the law's own params: bytes that are one control sequence, read by a parser of the call's own. -/
import Derived.Test.YtkenaccnmmmooaaDoorAtK
import Derived.Test.YtkenaccnmmmooaaDoorAtP
import Derived.Test.YtkenaccnmmmooaaDoorEpN
import Derived.Test.YtkenaccnmmmooaaDoorEpI
set_option linter.unusedVariables false
namespace Go.Proofs.YtkenaccnmmmooaaDoor
open Go.RowKit Ev Sgr

theorem tabs_lt {w : World} (h : D5.Tabs w) : 2 < w.heap.size ∧ 3 < w.heap.size := ⟨cell_lt (h.1 0 (by omega)), cell_lt (h.2 0 (by omega)).1⟩
theorem says_par (b : At) (h : rightB b = true) : ParOk (saysP b) := by
  rw [← body_pars b h]
  exact ⟨(P7.Par.pars_ok _).1, fun q hq => ⟨((P7.Par.pars_ok _).2 q hq).1, ((P7.Par.pars_ok _).2 q hq).2.1⟩⟩
theorem int_get (l : List (List Nat)) (r : Nat) : (intL l).getD r [] = (l.getD r []).map fun (x : Nat) => (x : Int) := by
  unfold intL
  rw [List.getD_eq_getElem?_getD, List.getD_eq_getElem?_getD, List.getElem?_map]
  cases l[r]? <;> rfl
theorem int_part (l : List Nat) (j : Nat) : partV (l.map fun (x : Nat) => (x : Int)) j = ((l.getD j 0 : Nat) : Int) := by
  unfold partV
  rw [List.getD_eq_getElem?_getD, List.getD_eq_getElem?_getD, List.getElem?_map]
  cases l[j]? <;> rfl
theorem get_mem (q : List Nat) (j : Nat) (hj : j < q.length) : q.getD j 0 ∈ q := by
  rw [List.getD_eq_getElem?_getD, List.getElem?_eq_getElem hj]
  exact List.getElem_mem _
/-- A table of numbers that are no more than 9999 reads as Apply's list of parameters. -/
theorem TabC.tabL {w : World} {A : Option Addr} {c : Nat} {l : List (List Nat)} (h : TabC w A c l) (hl : ∀ q ∈ l, ∀ x ∈ q, x ≤ 9999) : A10.TabL w A (intL l) := fun r hr => by
  have hr : r < l.length := by simpa [intL] using hr
  obtain ⟨g, rfl, ⟨cur, hc⟩, hx⟩ := h.1 (by omega)
  obtain ⟨A1, c1, h1, h2⟩ := hx r hr
  obtain ⟨g', A', c', e', h3, h4, h5⟩ := h.2.1 r hr
  cases e'
  rw [h1] at h3
  cases h3
  rw [int_get, List.length_map]
  refine ⟨_, A1, c1, rfl, ?_, ⟨h4, h5⟩, fun j hj => ?_⟩
  · rw [P7.add_zero]; exact h1
  · rw [List.length_map] at hj
    obtain ⟨a, e, _, hcj⟩ := h2.row j hj
    rw [int_part]
    have hb : (l.getD r []).getD j 0 ≤ 9999 := by
      refine hl (l.getD r []) ?_ _ ?_
      · rw [List.getD_eq_getElem?_getD, List.getElem?_eq_getElem hr]; exact List.getElem_mem _
      · exact get_mem _ j hj
    exact ⟨a, e, hcj, by omega, by omega⟩
theorem says_small (b : At) (h : rightB b = true) : ∀ q ∈ saysP b, ∀ x ∈ q, x ≤ 9999 := by
  rw [← body_pars b h]
  intro q hq x hx
  exact ((P7.Par.pars_ok _).2 q hq).2.2 x hx

theorem dig_len {n : Nat} (h : n < 1000) : (Lib.decDigits n).length ≤ 3 := by
  rw [Lib.decDigits_length]
  by_cases h1 : n < 10
  · rw [Lib.nDigits_small h1]; decide
  · rw [Lib.nDigits_big h1]
    by_cases h2 : n / 10 < 10
    · rw [Lib.nDigits_small h2]; decide
    · rw [Lib.nDigits_big h2, Lib.nDigits_small (by omega)]; decide
theorem col_len (n : Nat) (hn : n < 1000) (c : Co) (h : colB c = true) : (colT n c).length ≤ 30 := by
  have h1 := dig_len hn
  unfold colB at h
  unfold colT
  by_cases k1 : c.kind = 1
  · rw [if_neg (by omega), if_pos k1] at h
    have h2 : c.n ≤ 255 := of_decide_eq_true h
    have := dig_len (n := c.n) (by omega)
    rw [if_pos k1]
    simp only [List.length_append, List.length_cons, List.length_nil]
    omega
  by_cases k2 : c.kind = 2
  · rw [if_neg (by omega), if_neg k1, if_pos k2] at h
    have h0 : c.n ≤ 16777215 := of_decide_eq_true h
    have h2 := dig_len (n := c.n / 65536) (by omega)
    have h3 := dig_len (n := c.n / 256 % 256) (by omega)
    have h4 := dig_len (n := c.n % 256) (by omega)
    rw [if_neg k1, if_pos k2]
    simp only [List.length_append, List.length_cons, List.length_nil]
    omega
  · rw [if_neg k1, if_neg k2]; simp
theorem flag_len (l : List Nat) (hl : ∀ n ∈ l, n < 1000) : (flagT l).length ≤ 4 * l.length := by
  induction l with
  | nil => simp [flagT]
  | cons n l ih =>
    have e : flagT (n :: l) = (59 :: Lib.decDigits n) ++ flagT l := by simp [flagT]
    have h1 := dig_len (hl n (List.mem_cons_self ..))
    have h2 := ih fun x hx => hl x (List.mem_cons_of_mem _ hx)
    rw [e]
    simp only [List.length_append, List.length_cons]
    omega
theorem says_len (b : At) (h : rightB b = true) : (saysT b).length ≤ 100 := by
  have hb := right_iff.1 h
  have h1 := flag_len (setsV b.fl) (fun n hn => by
    have : n ∈ flagsN := (List.mem_filter.1 hn).1
    simp [flagsN] at this
    omega)
  have h2 : (setsV b.fl).length ≤ 8 := List.length_filter_le _ _
  have h3 := col_len 38 (by omega) b.fg hb.2.1
  have h4 := col_len 48 (by omega) b.bg hb.2.2
  unfold saysT
  simp only [List.length_append, List.length_cons, List.length_nil]
  omega

def ParamsPost (w : World) (b : At) (e : Ending) (w' : World) : Prop := ∃ A c, e = .returned (.tuple #[.slice A (saysP b).length c, .bool true]) ∧ TabC w' A c (saysP b) ∧ Below w.heap.size w w'
set_option maxHeartbeats 4000000 in
theorem params_any (b : At) (h : rightB b = true) (w : World) (hT : D5.Tabs w) :
    Calls Tryd.prog 7 #[.string (A10.strL (saysT b))] w (ParamsPost w b) := by
  have HN := Lib.hid (new_any w (tabs_lt hT))
  have HT := Lib.hid hT
  obtain ⟨hr1, hr2, hr3⟩ := says_run b h
  have HP := Lib.hid (says_par b h)
  have HR := Lib.hid (And.intro hr1 (And.intro hr2 hr3))
  clear hT hr1 hr2 hr3
  go_enter Tryd.func7, Tryd.ntmps7
  go_wp2_with fail
  refine (show Calls _ _ _ _ _ from HN.out).mono ?_
  rintro e w1 ⟨rfl, hI, hb⟩
  have HF := Lib.hid (feed_any hI (HT.out.below hb (Nat.le_refl _)) (A10.strL (saysT b)) (saysT b) (by simp [A10.strL]) (by have := says_len b h; simpa [A10.strL, ByteArray.size] using Nat.le_trans this (by decide)) (by simp [q0]) (by simp [q0]))
  have B1 := Lib.hid hb
  have hl1 := hI.lt
  clear hI hb HN
  go_wp2_with fail
  refine (show Calls _ _ _ _ _ from HF.out).mono ?_
  rintro e w2 ⟨rfl, hI, hs⟩
  rw [HR.out.1, List.nil_append] at hI
  have hst := HR.out.2.1
  have hkp := HR.out.2.2
  generalize (runE q0 (saysT b)).2 = q at *
  obtain ⟨n, hn⟩ : ∃ n, n = (saysP b).length := ⟨_, rfl⟩
  have HLn := Lib.hid hn
  have HN1 : Hid (Calls Tryd.prog 14 #[.pointer (some ⟨w.heap.size, 0, none⟩)] w2 fun e w' => ∃ A c, e = .returned (.tuple #[.agg #[.int .i64 4, .int .i32 0, .int .u8 109, .string ⟨#[]⟩, .slice A n c, .string ⟨#[]⟩], .bool true]) ∧ TabC w' A c (saysP b) ∧ IsP w' w.heap.size q [] ∧ Stirs w.heap.size 0 1183 w2 w') := Lib.hid (by
    rw [hn]
    exact next_any hI (fun x hx => by rw [List.mem_singleton.1 hx]; exact HP.out))
  have B2 := Lib.hid (hs.below (Nat.le_refl _) B1.out B1.out.size)
  have hl2 : w.heap.size < w2.heap.size := hI.lt
  clear hI hs HF hn
  go_wp2_with fail
  refine (show Calls _ _ _ _ _ from HN1.out).mono ?_
  rintro e w3 ⟨A, c, rfl, ht, hI, hs⟩
  have B3 := Lib.hid (hs.below (Nat.le_refl _) B2.out B2.out.size)
  obtain ⟨W4, hW4⟩ : ∃ W4, W4 = w3.alloc (.cells #[.int .i64 4, .int .i32 0, .int .u8 109, .string ⟨#[]⟩, .slice A n c, .string ⟨#[]⟩] 45) := ⟨_, rfl⟩
  have hA4 : Below w3.heap.size w3 W4 := by rw [hW4]; exact (Below.refl _ _).alloc (Nat.le_refl _) _
  have hev : W4.heap[w3.heap.size]? = some (.cells #[.int .i64 4, .int .i32 0, .int .u8 109, .string ⟨#[]⟩, .slice A n c, .string ⟨#[]⟩] 45 (0, 0)) := by rw [hW4]; exact Deep.blk_alloc_new _ _
  have hl3 : w.heap.size < w3.heap.size := hI.lt
  have hI4 := hI.below hA4
  have ht4 := ht.keep (P7.KeepT.of_below hA4)
  have B4 := Lib.hid (B3.out.trans (hA4.mono B3.out.size))
  have HN2 : Hid (Calls Tryd.prog 14 #[.pointer (some ⟨w.heap.size, 0, none⟩)] W4 fun e w' => e = .returned (.tuple #[.agg #[.int .i64 0, .int .i32 0, .int .u8 0, .string ⟨#[]⟩, .slice none 0 0, .string ⟨#[]⟩], .bool false]) ∧ IsP w' w.heap.size q [] ∧ Stirs w.heap.size 0 1183 W4 w') := Lib.hid (next_any hI4 (fun x hx => by cases hx))
  have HT4 := Lib.hid (And.intro hI4 (And.intro ht4 hev))
  have HW4 := Lib.hid hW4
  clear hI hs ht hA4 hev hI4 ht4 hW4 HN1
  go_wp2_with fail
  rw [← HW4.out]
  refine (show Calls _ _ _ _ _ from HN2.out).mono ?_
  rintro e w5 ⟨rfl, hI, hs⟩
  have B5 := Lib.hid (hs.below (Nat.le_refl _) B4.out B4.out.size)
  have hev5 := (hs.block w3.heap.size (Array.getElem?_eq_some_iff.1 HT4.out.2.2).1 (by omega)).trans HT4.out.2.2
  have ht5 := HT4.out.2.1.keep (HT4.out.1.keepI hs).num
  obtain ⟨W6, hW6⟩ : ∃ W6, W6 = w5.alloc (.cells #[.int .i64 0, .int .i32 0, .int .u8 0, .string ⟨#[]⟩, .slice none 0 0, .string ⟨#[]⟩] 45) := ⟨_, rfl⟩
  have hA6 : Below w5.heap.size w5 W6 := by rw [hW6]; exact (Below.refl _ _).alloc (Nat.le_refl _) _
  have B6 := Lib.hid (B5.out.trans (hA6.mono B5.out.size))
  have hI6 := hI.below hA6
  have HC : Hid (∀ i v, (#[.int .i64 4, .int .i32 0, .int .u8 109, .string ⟨#[]⟩, .slice A n c, .string ⟨#[]⟩] : Array Value)[i]? = some v → ∀ V, Below W6.heap.size W6 V → V.cell? ⟨w3.heap.size, i, none⟩ = some v) := Lib.hid fun i v hi V hV => by
    have h5 : w5.cell? ⟨w3.heap.size, i, none⟩ = some v := (A10.cell_of hev5 i).trans hi
    have h6 : W6.cell? ⟨w3.heap.size, i, none⟩ = some v := (hA6.cell (A10.cell_lt h5)).trans h5
    exact (hV.cell (A10.cell_lt h6)).trans h6
  have HWt : Hid (∀ V, Below W6.heap.size W6 V → Calls Tryd.prog 15 #[.pointer (some ⟨w.heap.size, 0, none⟩)] V fun e w' => e = .returned (.bool false) ∧ Below W6.heap.size W6 w') := Lib.hid fun V hV => (wait_any (hI6.below hV)).mono fun e w' hh => by
    obtain ⟨rfl, j, rfl⟩ := hh
    exact ⟨by simp [waitsB, hst, hkp], below_drew hV j⟩
  have HT6 := Lib.hid (ht5.keep (P7.KeepT.of_below hA6))
  have HW6 := Lib.hid hW6
  clear hI hs hev5 ht5 hA6 hI6 hW6 HN2
  go_wp2_with fail
  rw [← HW6.out]
  have c0 : ∀ V, Below W6.heap.size W6 V → V.cell? ⟨w3.heap.size, 0, none⟩ = some (.int .i64 4) := HC.out 0 _ rfl
  have c2 : ∀ V, Below W6.heap.size W6 V → V.cell? ⟨w3.heap.size, 2, none⟩ = some (.int .u8 109) := HC.out 2 _ rfl
  have c3 : ∀ V, Below W6.heap.size W6 V → V.cell? ⟨w3.heap.size, 3, none⟩ = some (.string ⟨#[]⟩) := HC.out 3 _ rfl
  have c4 : ∀ V, Below W6.heap.size W6 V → V.cell? ⟨w3.heap.size, 4, none⟩ = some (.slice A n c) := HC.out 4 _ rfl
  have k0 : Below W6.heap.size W6 W6 := Below.refl _ _
  have kd : Below W6.heap.size W6 W6.drew := below_drew k0 1
  go_region_held3 (fun V => Below W6.heap.size W6 V)
    (assumption)
    (first | (go_at_call 15; (with_reducible refine (HWt.out _ (by assumption)).mono ?_); rintro e y1 ⟨rfl, j1⟩) | fail)
  all_goals
    go_wp2
    refine bodyPost_ret (v := .tuple #[.slice A n c, .bool true]) (by simp [results, Tryd.results7, go_sem]) rfl ?_
    exact ⟨A, c, by rw [HLn.out], HT6.out.keep (P7.KeepT.of_below j1), B6.out.trans (j1.mono B6.out.size)⟩
end Go.Proofs.YtkenaccnmmmooaaDoor
