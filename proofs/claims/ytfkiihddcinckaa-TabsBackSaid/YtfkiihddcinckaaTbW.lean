/- Layer 12: TabsBack's walk. -/
import Derived.Test.YtfkiihddcinckaaTbT
import Derived.Test.YtfkiihddcinckaaTbO
import Derived.Test.YtfkiihddcinckaaTbX
set_option linter.unusedVariables false
namespace Go.Proofs.Ytfkiihddcinckaa.Tb
open Go.RowKit

/-- What an act makes of stops. -/
def stepB (bs : List Bool) (c : Tc) : List Bool := if c.d = 0 then setB bs c.x else if c.d = 1 then clrB bs c.x else if c.d = 2 then wipeB bs else sizeB bs c.x

set_option maxRecDepth 100000 in
set_option maxHeartbeats 8000000 in
theorem back_more (W0 : Int) (A : Option Addr) (len cap : Nat) (X : Nat → Tc) (x n : Int) (w : World) (hg : 60 < len ∨ n < 1 ∨ 400 < n) : Calls Try.prog 6 #[.int .i64 W0, .slice A len cap, .int .i64 x, .int .i64 n] w fun e w' => e = .returned (.bool true) ∧ Below w.heap.size w w' := by
  have HWk : Hid (∀ V, Calls Try.prog 9 #[] V fun e w' => e = .returned (.bool true) ∧ Below V.heap.size V w') := Lib.hid fun V => wakes_any V
  go_enter Try.func6, Try.ntmps6
  by_cases h1 : 60 < len
  · have g1 : decide ((len : Int) > 60) = true := by simp; omega
    clear hg h1
    go_wp2_with fail
    refine (HWk.out _).mono ?_
    rintro e w1 ⟨rfl, b1⟩
    go_wp2
    go_ret
    exact ⟨rfl, b1⟩
  · have g1 : decide ((len : Int) > 60) = false := by simp; omega
    by_cases h2 : n < 1
    · have g2 : decide (n < 1) = true := by simp; omega
      clear hg h1
      go_wp2_with fail
      refine (HWk.out _).mono ?_
      rintro e w1 ⟨rfl, b1⟩
      go_wp2
      go_ret
      exact ⟨rfl, b1⟩
    · have g2 : decide (n < 1) = false := by simp; omega
      have g3 : decide (n > 400) = true := by simp; omega
      clear hg h1
      go_wp2_with fail
      refine (HWk.out _).mono ?_
      rintro e w1 ⟨rfl, b1⟩
      go_wp2
      go_ret
      exact ⟨rfl, b1⟩

theorem st_get_lt {bs : List Bool} {k : Nat} (h : k < (stL bs).length) : (stL bs).getD k 0 < bs.length := by
  rw [List.getD_eq_getElem?_getD, List.getElem?_eq_getElem h]
  exact st_lt_len (List.getElem_mem h)

set_option maxRecDepth 100000 in
set_option maxHeartbeats 8000000 in
theorem back_some (W0 : Int) (A : Option Addr) (len cap : Nat) (X : Nat → Tc) (x n : Int) (w : World) (hA : ActsT w w.heap.size A len X) (hl : len ≤ 60) (h1 : 1 ≤ n) (h2 : n ≤ 400) (hx : IntIn x) : Calls Try.prog 6 #[.int .i64 W0, .slice A len cap, .int .i64 x, .int .i64 n] w fun e w' => e = .returned (.bool true) ∧ Below w.heap.size w w' := by
  have HWk : Hid (∀ V, Calls Try.prog 9 #[] V fun e w' => e = .returned (.bool true) ∧ Below V.heap.size V w') := Lib.hid fun V => wakes_any V
  obtain ⟨N, rfl⟩ := Int.eq_ofNat_of_zero_le (by omega : 0 ≤ n)
  have HN := Lib.hid (mine_new W0 w w (Below.refl _ _))
  have HA := Lib.hid hA
  have g1 : decide ((len : Int) > 60) = false := by simp; omega
  have g2 : decide ((N : Int) < 1) = false := by simp; omega
  have g3 : decide ((N : Int) > 400) = false := by simp; omega
  clear hA
  go_enter Try.func6, Try.ntmps6
  go_wp2_with fail
  refine (show Calls _ _ _ _ _ from HN.out).mono ?_
  rintro e w1 ⟨s, rfl, hm⟩
  have M1 := Lib.hid hm
  clear hm HN g1 g2 g3
  go_wp2_with fail
  go_loopw [10] (fun i wr => ∃ (k : Nat) (bs : List Bool), k ≤ len ∧ i = .int .i64 k ∧ Hid (MineT w s bs wr)) (fun i _ => len - (RowKit.intOf i).toNat)
  case atStart => exact ⟨0, _, Nat.zero_le _, rfl, M1⟩
  case round =>
    obtain ⟨k, bs, hk, rfl, HM⟩ := hrel
    rename_i wr
    by_cases hlt : k < len
    · have glt : decide ((k : Int) < (len : Int)) = true := by simp; omega
      obtain ⟨b, o, e, hb, ⟨gd, gx, gn⟩, q0, q1, q2⟩ := (HA.out.below HM.out.1).at_ hlt
      subst e
      have i1 := idx_tact b o len cap k hlt
      generalize hc : X k = c at *
      obtain ⟨d, ax, an⟩ := c
      dsimp only at gd gx gn q0 q1 q2
      by_cases d0 : d = 0
      · subst d0
        have HS := Lib.hid (mine_set HM.out ax)
        clear HM hc gd gx gn
        go_wp2_with fail
        refine (show Calls _ _ _ _ _ from HS.out).mono ?_
        rintro e w2 ⟨rfl, hm⟩
        have M2 := Lib.hid hm
        clear hm HS q0 q1 q2
        go_wp2
        go_roundw
        case rel => exact ⟨k + 1, _, by omega, by go_num, M2⟩
        case measure => simp [RowKit.intOf]; omega
      have e0 : (d == 0) = false := by simpa using d0
      by_cases d1 : d = 1
      · subst d1
        have HS := Lib.hid (mine_clr HM.out ax)
        clear HM hc gd gx gn
        go_wp2_with fail
        refine (show Calls _ _ _ _ _ from HS.out).mono ?_
        rintro e w2 ⟨rfl, hm⟩
        have M2 := Lib.hid hm
        clear hm HS q0 q1 q2
        go_wp2
        go_roundw
        case rel => exact ⟨k + 1, _, by omega, by go_num, M2⟩
        case measure => simp [RowKit.intOf]; omega
      have e1 : (d == 1) = false := by simpa using d1
      by_cases d2 : d = 2
      · subst d2
        have HS := Lib.hid (mine_wipe HM.out)
        clear HM hc gd gx gn
        go_wp2_with fail
        refine (show Calls _ _ _ _ _ from HS.out).mono ?_
        rintro e w2 ⟨rfl, hm⟩
        have M2 := Lib.hid hm
        clear hm HS q0 q1 q2
        go_wp2
        go_roundw
        case rel => exact ⟨k + 1, _, by omega, by go_num, M2⟩
        case measure => simp [RowKit.intOf]; omega
      have e2 : (d == 2) = false := by simpa using d2
      have HS := Lib.hid (mine_size HM.out ax)
      clear HM hc gd gx gn d0 d1 d2
      go_wp2_with fail
      refine (show Calls _ _ _ _ _ from HS.out).mono ?_
      rintro e w2 ⟨rfl, hm⟩
      have M2 := Lib.hid hm
      clear hm HS q0 q1 q2
      go_wp2
      go_roundw
      case rel => exact ⟨k + 1, _, by omega, by go_num, M2⟩
      case measure => simp [RowKit.intOf]; omega
    · have hkn : k = len := by omega
      have HAl := Lib.hid (mine_all HM.out 1000 (by decide) (by decide))
      have HL := Lib.hid HM.out.len
      clear HM
      go_wp2_with fail
      refine (show Calls _ _ _ _ _ from HAl.out).mono ?_
      rintro e w2 ⟨v, rfl, ho, hm, hb2⟩
      have hlen : (stL bs).length ≤ 400 := Nat.le_trans (by have h : (stL bs).length ≤ (List.range bs.length).length := List.length_filter_le _ _; rwa [List.length_range] at h) HL.out.2
      rw [List.take_of_length_le (Nat.le_trans hlen (by decide))] at ho
      obtain ⟨A2, c2, rfl, -, -, r2⟩ := ownI_lies ho
      obtain ⟨m, hme⟩ : ∃ m, m = (stL bs).length := ⟨_, rfl⟩
      rw [← hme]
      have HC : Hid (∀ k, k < m → ∃ g, A2 = some ⟨g, 0, none⟩ ∧ g < w2.heap.size ∧ w2.cell? ⟨g, k, none⟩ = some (.int .i64 ((stL bs).getD k 0 : Nat))) := Lib.hid fun k hk => by
        obtain ⟨g, e, hg, hc⟩ := r2 (by omega)
        exact ⟨g, e, hg, hc k (by omega)⟩
      have hm4 : m ≤ 400 := by omega
      have HME := Lib.hid hme
      have M2 := Lib.hid hm
      clear hlen ho r2 hme hm HAl hb2 hlt hk M1
      go_wp2_with fail
      go_loopw [12] (fun i wr => ∃ k : Nat, k ≤ m ∧ i = .int .i64 k ∧ Hid (Below w2.heap.size w2 wr)) (fun i _ => m - (RowKit.intOf i).toNat)
      case atStart => exact ⟨0, Nat.zero_le _, rfl, Lib.hid (Below.refl _ _)⟩
      case round =>
        obtain ⟨j, hj, rfl, HB⟩ := hrel
        rename_i wr
        by_cases hlj : j < m
        · have glj : decide ((j : Int) < (m : Int)) = true := by simp; omega
          have z1 : IntKind.i64.wrap ((j : Int) + (N : Int)) = (j : Int) + (N : Int) := IntWalk.i64_in _ (by omega)
          have z2 : IntKind.i64.wrap ((j : Int) + 1) = (j : Int) + 1 := IntWalk.i64_in _ (by omega)
          have hd := below_drew HB.out 1
          obtain ⟨g, rfl, hg, q0⟩ := HC.out j hlj
          have q0 := fun (V : World) (hV : Below w2.heap.size w2 V) => (hV.cell hg).trans q0
          have i1 := idx_int g m c2 j hlj
          by_cases hln : j + N < m
          · have gln : decide ((j : Int) + (N : Int) < (m : Int)) = true := by simp; omega
            obtain ⟨g', e', hg', p0⟩ := HC.out (j + N) hln
            cases e'
            have p0 := fun (V : World) (hV : Below w2.heap.size w2 V) => (hV.cell hg).trans p0
            have i2 := idx_int g m c2 (j + N) hln
            rw [Int.natCast_add] at i2
            have hNx : nextV bs ((stL bs).getD j 0 : Nat) (N : Int) = (stL bs).getD (j + N) 0 := by
              have := next_at (bs := bs) (i := j) (j := N - 1) (by have := HME.out; omega) (N : Int) (by omega)
              rwa [show j + (N - 1) + 1 = j + N by omega] at this
            have hPv : prevV bs ((stL bs).getD (j + N) 0 : Nat) (N : Int) = (stL bs).getD j 0 := by
              have := prev_at (bs := bs) (i := j) (j := N - 1) (by have := HME.out; omega) (N : Int) (by omega)
              rwa [show j + (N - 1) + 1 = j + N by omega] at this
            have ia : (stL bs).getD j 0 < 400 := Nat.lt_of_lt_of_le (st_get_lt (by have := HME.out; omega)) HL.out.2
            have ib : (stL bs).getD (j + N) 0 < 400 := Nat.lt_of_lt_of_le (st_get_lt (by have := HME.out; omega)) HL.out.2
            have KN : Hid (∀ V, Below w2.heap.size w2 V → Calls Try.prog 21 #[s, .int .i64 ((stL bs).getD j 0 : Nat), .int .i64 (N : Int)] V fun e w' => e = .returned (.int .i64 ((stL bs).getD (j + N) 0 : Nat)) ∧ Below w2.heap.size w2 w') := Lib.hid fun V hV => (mine_next (M2.out.old hV) _ _ (in_small (by omega) (by omega)) (in_small (by omega) (by omega))).mono fun e w' ⟨he, _, hb⟩ => ⟨by rw [he, hNx], hV.trans (hb.mono hV.size)⟩
            have KP : Hid (∀ V, Below w2.heap.size w2 V → Calls Try.prog 23 #[s, .int .i64 ((stL bs).getD (j + N) 0 : Nat), .int .i64 (N : Int)] V fun e w' => e = .returned (.int .i64 ((stL bs).getD j 0 : Nat)) ∧ Below w2.heap.size w2 w') := Lib.hid fun V hV => (mine_prev (M2.out.old hV) _ _ (in_small (by omega) (by omega)) (in_small (by omega) (by omega))).mono fun e w' ⟨he, _, hb⟩ => ⟨by rw [he, hPv], hV.trans (hb.mono hV.size)⟩
            clear hNx hPv ia ib hg hg'
            generalize (stL bs).getD j 0 = ka at *
            generalize (stL bs).getD (j + N) 0 = kb at *
            have n1 : ((ka : Int) != (ka : Int)) = false := by simp
            have n2 : ((kb : Int) != (kb : Int)) = false := by simp
            go_wp2_with fail
            go_region_held3 (fun V => Below w2.heap.size w2 V) (assumption)
              (first | (go_at_call 21; (with_reducible refine (KN.out _ (by assumption)).mono ?_); rintro e v1 ⟨rfl, qv1⟩) | (go_at_call 23; (with_reducible refine (KP.out _ (by assumption)).mono ?_); rintro e v2 ⟨rfl, qv2⟩))
            all_goals
              have B3 := Lib.hid (show Below w2.heap.size w2 _ by assumption)
            go_wp2
            go_roundw
            case rel => exact ⟨j + 1, by omega, by go_num, B3⟩
            case measure => simp [RowKit.intOf]; omega
          · have gln : decide ((j : Int) + (N : Int) < (m : Int)) = false := by simp; omega
            clear q0
            go_wp2_with fail
            refine wp_region_held_drew (S := fun V => Below w2.heap.size w2 V) (by kernel_rfl) ?_ (fun hHeld => ?_)
            · exact hd
            refine wpAnyH_take (i := 0) (oi := { dst := some 81, op := Op.move (Operand.tmp 12), type := 3, pos := "outright.go:25", after := #[], guard := none }) (v := ?_) rfl (by kernel_rfl) (by kernel_rfl) (by kernel_rfl) (fun _ _ _ h => h) (Or.inl ⟨by rfl, ?_⟩) (by assumption) ?_
            rotate_left
            · intro w hSw
              try dsimp only at hSw
              go_simp <;> with_reducible rfl
            try simp only [Act.put, List.setIfInBounds_toArray, List.set_cons_zero, List.set_cons_succ]
            refine wpAnyH_take (i := 1) (oi := { dst := some 82, op := Op.move (Operand.tmp 3), type := 3, pos := "outright.go:25", after := #[], guard := none }) (v := ?_) rfl (by kernel_rfl) (by kernel_rfl) (by kernel_rfl) (fun _ _ _ h => h) (Or.inl ⟨by rfl, ?_⟩) (by assumption) ?_
            rotate_left
            · intro w hSw
              try dsimp only at hSw
              go_simp <;> with_reducible rfl
            try simp only [Act.put, List.setIfInBounds_toArray, List.set_cons_zero, List.set_cons_succ]
            refine wpAnyH_take (i := 2) (oi := { dst := some 83, op := Op.binOp BinOp.add 3 (Operand.tmp 81) (Operand.tmp 82) 3, type := 3, pos := "outright.go:25", after := #[{ on := 0, ground := Ground.data }, { on := 1, ground := Ground.data }], guard := none }) (v := ?_) rfl (by kernel_rfl) (by kernel_rfl) (by kernel_rfl) (fun _ _ _ h => h) (Or.inl ⟨by rfl, ?_⟩) (by assumption) ?_
            rotate_left
            · intro w hSw
              try dsimp only at hSw
              go_simp <;> with_reducible rfl
            try simp only [Act.put, List.setIfInBounds_toArray, List.set_cons_zero, List.set_cons_succ]
            refine wpAnyH_take (i := 3) (oi := { dst := some 84, op := Op.move (Operand.tmp 11), type := 26, pos := "outright.go:25", after := #[], guard := none }) (v := ?_) rfl (by kernel_rfl) (by kernel_rfl) (by kernel_rfl) (fun _ _ _ h => h) (Or.inl ⟨by rfl, ?_⟩) (by assumption) ?_
            rotate_left
            · intro w hSw
              try dsimp only at hSw
              go_simp <;> with_reducible rfl
            try simp only [Act.put, List.setIfInBounds_toArray, List.set_cons_zero, List.set_cons_succ]
            refine wpAnyH_take (i := 4) (oi := { dst := some 85, op := Op.call { callee := Callee.builtin Builtin.len, args := #[Operand.tmp 84], argTypes := #[26] }, type := 3, pos := "outright.go:25", after := #[{ on := 3, ground := Ground.data }], guard := none }) (v := ?_) rfl (by kernel_rfl) (by kernel_rfl) (by kernel_rfl) (fun _ _ _ h => h) (Or.inl ⟨by rfl, ?_⟩) (by assumption) ?_
            rotate_left
            · intro w hSw
              try dsimp only at hSw
              go_simp <;> with_reducible rfl
            try simp only [Act.put, List.setIfInBounds_toArray, List.set_cons_zero, List.set_cons_succ]
            refine wpAnyH_take (i := 5) (oi := { dst := some 86, op := Op.binOp BinOp.lss 3 (Operand.tmp 83) (Operand.tmp 85) 3, type := 4, pos := "outright.go:25", after := #[{ on := 2, ground := Ground.data }, { on := 4, ground := Ground.data }], guard := none }) (v := ?_) rfl (by kernel_rfl) (by kernel_rfl) (by kernel_rfl) (fun _ _ _ h => h) (Or.inl ⟨by rfl, ?_⟩) (by assumption) ?_
            rotate_left
            · intro w hSw
              try dsimp only at hSw
              go_simp <;> with_reducible rfl
            try simp only [Act.put, List.setIfInBounds_toArray, List.set_cons_zero, List.set_cons_succ]
            refine wpAnyH_take (i := 6) (oi := { dst := some 87, op := Op.move (Operand.tmp 86), type := 4, pos := "outright.go:25", after := #[{ on := 5, ground := Ground.data }], guard := none }) (v := ?_) rfl (by kernel_rfl) (by kernel_rfl) (by kernel_rfl) (fun _ _ _ h => h) (Or.inl ⟨by rfl, ?_⟩) (by assumption) ?_
            rotate_left
            · intro w hSw
              try dsimp only at hSw
              go_simp <;> with_reducible rfl
            try simp only [Act.put, List.setIfInBounds_toArray, List.set_cons_zero, List.set_cons_succ]
            refine wpAnyH_take (i := 7) (oi := { dst := some 88, op := Op.move (Operand.tmp 9), type := 24, pos := "outright.go:25", after := #[{ on := 6, ground := Ground.guard }], guard := some (6, true) }) (v := undef) rfl (by kernel_rfl) (by kernel_rfl) (by kernel_rfl) (fun _ _ _ h => h) (Or.inr ⟨by rfl, rfl⟩) (by assumption) ?_
            try simp only [Act.put, List.setIfInBounds_toArray, List.set_cons_zero, List.set_cons_succ]
            refine wpAnyH_take (i := 8) (oi := { dst := some 89, op := Op.move (Operand.tmp 11), type := 26, pos := "outright.go:25", after := #[{ on := 6, ground := Ground.guard }], guard := some (6, true) }) (v := undef) rfl (by kernel_rfl) (by kernel_rfl) (by kernel_rfl) (fun _ _ _ h => h) (Or.inr ⟨by rfl, rfl⟩) (by assumption) ?_
            try simp only [Act.put, List.setIfInBounds_toArray, List.set_cons_zero, List.set_cons_succ]
            refine wpAnyH_take (i := 9) (oi := { dst := some 90, op := Op.move (Operand.tmp 12), type := 3, pos := "outright.go:25", after := #[{ on := 6, ground := Ground.guard }], guard := some (6, true) }) (v := undef) rfl (by kernel_rfl) (by kernel_rfl) (by kernel_rfl) (fun _ _ _ h => h) (Or.inr ⟨by rfl, rfl⟩) (by assumption) ?_
            try simp only [Act.put, List.setIfInBounds_toArray, List.set_cons_zero, List.set_cons_succ]
            refine wpAnyH_take (i := 10) (oi := { dst := some 91, op := Op.indexAddr 26 (Operand.tmp 89) (Operand.tmp 90), type := 0, pos := "outright.go:25", after := #[{ on := 8, ground := Ground.data }, { on := 9, ground := Ground.data }, { on := 6, ground := Ground.guard }], guard := some (6, true) }) (v := undef) rfl (by kernel_rfl) (by kernel_rfl) (by kernel_rfl) (fun _ _ _ h => h) (Or.inr ⟨by rfl, rfl⟩) (by assumption) ?_
            try simp only [Act.put, List.setIfInBounds_toArray, List.set_cons_zero, List.set_cons_succ]
            refine wpAnyH_take (i := 11) (oi := { dst := some 92, op := Op.load 3 (Operand.tmp 91), type := 3, pos := "outright.go:25", after := #[{ on := 10, ground := Ground.data }, { on := 6, ground := Ground.guard }], guard := some (6, true) }) (v := undef) rfl (by kernel_rfl) (by kernel_rfl) (by kernel_rfl) (fun _ _ _ h => h) (Or.inr ⟨by rfl, rfl⟩) (by assumption) ?_
            try simp only [Act.put, List.setIfInBounds_toArray, List.set_cons_zero, List.set_cons_succ]
            refine wpAnyH_take (i := 12) (oi := { dst := some 93, op := Op.move (Operand.tmp 3), type := 3, pos := "outright.go:25", after := #[{ on := 6, ground := Ground.guard }], guard := some (6, true) }) (v := undef) rfl (by kernel_rfl) (by kernel_rfl) (by kernel_rfl) (fun _ _ _ h => h) (Or.inr ⟨by rfl, rfl⟩) (by assumption) ?_
            try simp only [Act.put, List.setIfInBounds_toArray, List.set_cons_zero, List.set_cons_succ]
            refine wpAnyH_take (i := 13) (oi := { dst := some 94, op := Op.call { callee := Callee.value (Operand.func 21), args := #[Operand.tmp 88, Operand.tmp 92, Operand.tmp 93], argTypes := #[24, 3, 3] }, type := 3, pos := "outright.go:25", after := #[{ on := 7, ground := Ground.data }, { on := 11, ground := Ground.data }, { on := 12, ground := Ground.data }, { on := 6, ground := Ground.chain }, { on := 6, ground := Ground.guard }], guard := some (6, true) }) (v := undef) rfl (by kernel_rfl) (by kernel_rfl) (by kernel_rfl) (fun _ _ _ h => h) (Or.inr ⟨by rfl, rfl⟩) (by assumption) ?_
            try simp only [Act.put, List.setIfInBounds_toArray, List.set_cons_zero, List.set_cons_succ]
            refine wpAnyH_take (i := 14) (oi := { dst := some 95, op := Op.move (Operand.tmp 11), type := 26, pos := "outright.go:25", after := #[{ on := 6, ground := Ground.guard }], guard := some (6, true) }) (v := undef) rfl (by kernel_rfl) (by kernel_rfl) (by kernel_rfl) (fun _ _ _ h => h) (Or.inr ⟨by rfl, rfl⟩) (by assumption) ?_
            try simp only [Act.put, List.setIfInBounds_toArray, List.set_cons_zero, List.set_cons_succ]
            refine wpAnyH_take (i := 15) (oi := { dst := some 96, op := Op.move (Operand.tmp 12), type := 3, pos := "outright.go:25", after := #[{ on := 6, ground := Ground.guard }], guard := some (6, true) }) (v := undef) rfl (by kernel_rfl) (by kernel_rfl) (by kernel_rfl) (fun _ _ _ h => h) (Or.inr ⟨by rfl, rfl⟩) (by assumption) ?_
            try simp only [Act.put, List.setIfInBounds_toArray, List.set_cons_zero, List.set_cons_succ]
            refine wpAnyH_take (i := 16) (oi := { dst := some 97, op := Op.move (Operand.tmp 3), type := 3, pos := "outright.go:25", after := #[{ on := 6, ground := Ground.guard }], guard := some (6, true) }) (v := undef) rfl (by kernel_rfl) (by kernel_rfl) (by kernel_rfl) (fun _ _ _ h => h) (Or.inr ⟨by rfl, rfl⟩) (by assumption) ?_
            try simp only [Act.put, List.setIfInBounds_toArray, List.set_cons_zero, List.set_cons_succ]
            refine wpAnyH_take (i := 17) (oi := { dst := some 98, op := Op.binOp BinOp.add 3 (Operand.tmp 96) (Operand.tmp 97) 3, type := 3, pos := "outright.go:25", after := #[{ on := 15, ground := Ground.data }, { on := 16, ground := Ground.data }, { on := 6, ground := Ground.guard }], guard := some (6, true) }) (v := undef) rfl (by kernel_rfl) (by kernel_rfl) (by kernel_rfl) (fun _ _ _ h => h) (Or.inr ⟨by rfl, rfl⟩) (by assumption) ?_
            try simp only [Act.put, List.setIfInBounds_toArray, List.set_cons_zero, List.set_cons_succ]
            refine wpAnyH_take (i := 18) (oi := { dst := some 99, op := Op.indexAddr 26 (Operand.tmp 95) (Operand.tmp 98), type := 0, pos := "outright.go:25", after := #[{ on := 14, ground := Ground.data }, { on := 17, ground := Ground.data }, { on := 6, ground := Ground.guard }], guard := some (6, true) }) (v := undef) rfl (by kernel_rfl) (by kernel_rfl) (by kernel_rfl) (fun _ _ _ h => h) (Or.inr ⟨by rfl, rfl⟩) (by assumption) ?_
            try simp only [Act.put, List.setIfInBounds_toArray, List.set_cons_zero, List.set_cons_succ]
            refine wpAnyH_take (i := 19) (oi := { dst := some 100, op := Op.load 3 (Operand.tmp 99), type := 3, pos := "outright.go:25", after := #[{ on := 18, ground := Ground.data }, { on := 6, ground := Ground.guard }], guard := some (6, true) }) (v := undef) rfl (by kernel_rfl) (by kernel_rfl) (by kernel_rfl) (fun _ _ _ h => h) (Or.inr ⟨by rfl, rfl⟩) (by assumption) ?_
            try simp only [Act.put, List.setIfInBounds_toArray, List.set_cons_zero, List.set_cons_succ]
            refine wpAnyH_take (i := 20) (oi := { dst := some 101, op := Op.binOp BinOp.neq 3 (Operand.tmp 94) (Operand.tmp 100) 3, type := 4, pos := "outright.go:25", after := #[{ on := 13, ground := Ground.data }, { on := 19, ground := Ground.data }, { on := 6, ground := Ground.guard }], guard := some (6, true) }) (v := undef) rfl (by kernel_rfl) (by kernel_rfl) (by kernel_rfl) (fun _ _ _ h => h) (Or.inr ⟨by rfl, rfl⟩) (by assumption) ?_
            try simp only [Act.put, List.setIfInBounds_toArray, List.set_cons_zero, List.set_cons_succ]
            refine wpAnyH_take (i := 21) (oi := { dst := some 102, op := Op.move (Operand.tmp 101), type := 4, pos := "outright.go:25", after := #[{ on := 20, ground := Ground.data }, { on := 13, ground := Ground.chain }, { on := 6, ground := Ground.guard }], guard := some (6, true) }) (v := undef) rfl (by kernel_rfl) (by kernel_rfl) (by kernel_rfl) (fun _ _ _ h => h) (Or.inr ⟨by rfl, rfl⟩) (by assumption) ?_
            try simp only [Act.put, List.setIfInBounds_toArray, List.set_cons_zero, List.set_cons_succ]
            refine wpAnyH_take (i := 22) (oi := { dst := some 103, op := Op.move (Operand.tmp 9), type := 24, pos := "outright.go:25", after := #[{ on := 21, ground := Ground.guard }], guard := some (21, false) }) (v := undef) rfl (by kernel_rfl) (by kernel_rfl) (by kernel_rfl) (fun _ _ _ h => h) (Or.inr ⟨by rfl, rfl⟩) (by assumption) ?_
            try simp only [Act.put, List.setIfInBounds_toArray, List.set_cons_zero, List.set_cons_succ]
            refine wpAnyH_take (i := 23) (oi := { dst := some 104, op := Op.move (Operand.tmp 11), type := 26, pos := "outright.go:25", after := #[{ on := 21, ground := Ground.guard }], guard := some (21, false) }) (v := undef) rfl (by kernel_rfl) (by kernel_rfl) (by kernel_rfl) (fun _ _ _ h => h) (Or.inr ⟨by rfl, rfl⟩) (by assumption) ?_
            try simp only [Act.put, List.setIfInBounds_toArray, List.set_cons_zero, List.set_cons_succ]
            refine wpAnyH_take (i := 24) (oi := { dst := some 105, op := Op.move (Operand.tmp 12), type := 3, pos := "outright.go:25", after := #[{ on := 21, ground := Ground.guard }], guard := some (21, false) }) (v := undef) rfl (by kernel_rfl) (by kernel_rfl) (by kernel_rfl) (fun _ _ _ h => h) (Or.inr ⟨by rfl, rfl⟩) (by assumption) ?_
            try simp only [Act.put, List.setIfInBounds_toArray, List.set_cons_zero, List.set_cons_succ]
            refine wpAnyH_take (i := 25) (oi := { dst := some 106, op := Op.move (Operand.tmp 3), type := 3, pos := "outright.go:25", after := #[{ on := 21, ground := Ground.guard }], guard := some (21, false) }) (v := undef) rfl (by kernel_rfl) (by kernel_rfl) (by kernel_rfl) (fun _ _ _ h => h) (Or.inr ⟨by rfl, rfl⟩) (by assumption) ?_
            try simp only [Act.put, List.setIfInBounds_toArray, List.set_cons_zero, List.set_cons_succ]
            refine wpAnyH_take (i := 26) (oi := { dst := some 107, op := Op.binOp BinOp.add 3 (Operand.tmp 105) (Operand.tmp 106) 3, type := 3, pos := "outright.go:25", after := #[{ on := 24, ground := Ground.data }, { on := 25, ground := Ground.data }, { on := 21, ground := Ground.guard }], guard := some (21, false) }) (v := undef) rfl (by kernel_rfl) (by kernel_rfl) (by kernel_rfl) (fun _ _ _ h => h) (Or.inr ⟨by rfl, rfl⟩) (by assumption) ?_
            try simp only [Act.put, List.setIfInBounds_toArray, List.set_cons_zero, List.set_cons_succ]
            refine wpAnyH_take (i := 27) (oi := { dst := some 108, op := Op.indexAddr 26 (Operand.tmp 104) (Operand.tmp 107), type := 0, pos := "outright.go:25", after := #[{ on := 23, ground := Ground.data }, { on := 26, ground := Ground.data }, { on := 21, ground := Ground.guard }], guard := some (21, false) }) (v := undef) rfl (by kernel_rfl) (by kernel_rfl) (by kernel_rfl) (fun _ _ _ h => h) (Or.inr ⟨by rfl, rfl⟩) (by assumption) ?_
            try simp only [Act.put, List.setIfInBounds_toArray, List.set_cons_zero, List.set_cons_succ]
            refine wpAnyH_take (i := 28) (oi := { dst := some 109, op := Op.load 3 (Operand.tmp 108), type := 3, pos := "outright.go:25", after := #[{ on := 27, ground := Ground.data }, { on := 21, ground := Ground.guard }], guard := some (21, false) }) (v := undef) rfl (by kernel_rfl) (by kernel_rfl) (by kernel_rfl) (fun _ _ _ h => h) (Or.inr ⟨by rfl, rfl⟩) (by assumption) ?_
            try simp only [Act.put, List.setIfInBounds_toArray, List.set_cons_zero, List.set_cons_succ]
            refine wpAnyH_take (i := 29) (oi := { dst := some 110, op := Op.move (Operand.tmp 3), type := 3, pos := "outright.go:25", after := #[{ on := 21, ground := Ground.guard }], guard := some (21, false) }) (v := undef) rfl (by kernel_rfl) (by kernel_rfl) (by kernel_rfl) (fun _ _ _ h => h) (Or.inr ⟨by rfl, rfl⟩) (by assumption) ?_
            try simp only [Act.put, List.setIfInBounds_toArray, List.set_cons_zero, List.set_cons_succ]
            refine wpAnyH_take (i := 30) (oi := { dst := some 111, op := Op.call { callee := Callee.value (Operand.func 23), args := #[Operand.tmp 103, Operand.tmp 109, Operand.tmp 110], argTypes := #[24, 3, 3] }, type := 3, pos := "outright.go:25", after := #[{ on := 22, ground := Ground.data }, { on := 28, ground := Ground.data }, { on := 29, ground := Ground.data }, { on := 21, ground := Ground.chain }, { on := 21, ground := Ground.guard }], guard := some (21, false) }) (v := undef) rfl (by kernel_rfl) (by kernel_rfl) (by kernel_rfl) (fun _ _ _ h => h) (Or.inr ⟨by rfl, rfl⟩) (by assumption) ?_
            try simp only [Act.put, List.setIfInBounds_toArray, List.set_cons_zero, List.set_cons_succ]
            refine wpAnyH_take (i := 31) (oi := { dst := some 112, op := Op.move (Operand.tmp 11), type := 26, pos := "outright.go:25", after := #[{ on := 21, ground := Ground.guard }], guard := some (21, false) }) (v := undef) rfl (by kernel_rfl) (by kernel_rfl) (by kernel_rfl) (fun _ _ _ h => h) (Or.inr ⟨by rfl, rfl⟩) (by assumption) ?_
            try simp only [Act.put, List.setIfInBounds_toArray, List.set_cons_zero, List.set_cons_succ]
            refine wpAnyH_take (i := 32) (oi := { dst := some 113, op := Op.move (Operand.tmp 12), type := 3, pos := "outright.go:25", after := #[{ on := 21, ground := Ground.guard }], guard := some (21, false) }) (v := undef) rfl (by kernel_rfl) (by kernel_rfl) (by kernel_rfl) (fun _ _ _ h => h) (Or.inr ⟨by rfl, rfl⟩) (by assumption) ?_
            try simp only [Act.put, List.setIfInBounds_toArray, List.set_cons_zero, List.set_cons_succ]
            refine wpAnyH_take (i := 33) (oi := { dst := some 114, op := Op.indexAddr 26 (Operand.tmp 112) (Operand.tmp 113), type := 0, pos := "outright.go:25", after := #[{ on := 31, ground := Ground.data }, { on := 32, ground := Ground.data }, { on := 21, ground := Ground.guard }], guard := some (21, false) }) (v := undef) rfl (by kernel_rfl) (by kernel_rfl) (by kernel_rfl) (fun _ _ _ h => h) (Or.inr ⟨by rfl, rfl⟩) (by assumption) ?_
            try simp only [Act.put, List.setIfInBounds_toArray, List.set_cons_zero, List.set_cons_succ]
            refine wpAnyH_take (i := 34) (oi := { dst := some 115, op := Op.load 3 (Operand.tmp 114), type := 3, pos := "outright.go:25", after := #[{ on := 33, ground := Ground.data }, { on := 21, ground := Ground.guard }], guard := some (21, false) }) (v := undef) rfl (by kernel_rfl) (by kernel_rfl) (by kernel_rfl) (fun _ _ _ h => h) (Or.inr ⟨by rfl, rfl⟩) (by assumption) ?_
            try simp only [Act.put, List.setIfInBounds_toArray, List.set_cons_zero, List.set_cons_succ]
            refine wpAnyH_take (i := 35) (oi := { dst := some 116, op := Op.binOp BinOp.neq 3 (Operand.tmp 111) (Operand.tmp 115) 3, type := 4, pos := "outright.go:25", after := #[{ on := 30, ground := Ground.data }, { on := 34, ground := Ground.data }, { on := 21, ground := Ground.guard }], guard := some (21, false) }) (v := undef) rfl (by kernel_rfl) (by kernel_rfl) (by kernel_rfl) (fun _ _ _ h => h) (Or.inr ⟨by rfl, rfl⟩) (by assumption) ?_
            try simp only [Act.put, List.setIfInBounds_toArray, List.set_cons_zero, List.set_cons_succ]
            refine wpAnyH_take (i := 36) (oi := { dst := some 117, op := Op.pick (Operand.tmp 102) (Operand.const (Value.bool true)) (Operand.tmp 116), type := 4, pos := "outright.go:25", after := #[{ on := 21, ground := Ground.data }, { on := 35, ground := Ground.data }, { on := 6, ground := Ground.guard }], guard := some (6, true) }) (v := undef) rfl (by kernel_rfl) (by kernel_rfl) (by kernel_rfl) (fun _ _ _ h => h) (Or.inr ⟨by rfl, rfl⟩) (by assumption) ?_
            try simp only [Act.put, List.setIfInBounds_toArray, List.set_cons_zero, List.set_cons_succ]
            refine wpAnyH_take (i := 37) (oi := { dst := some 118, op := Op.pick (Operand.tmp 87) (Operand.tmp 117) (Operand.const (Value.bool false)), type := 4, pos := "outright.go:25", after := #[{ on := 6, ground := Ground.data }, { on := 36, ground := Ground.data }], guard := none }) (v := ?_) rfl (by kernel_rfl) (by kernel_rfl) (by kernel_rfl) (fun _ _ _ h => h) (Or.inl ⟨by rfl, ?_⟩) (by assumption) ?_
            rotate_left
            · intro w hSw
              try dsimp only at hSw
              go_simp <;> with_reducible rfl
            try simp only [Act.put, List.setIfInBounds_toArray, List.set_cons_zero, List.set_cons_succ]
            refine wpAnyH_done (by kernel_rfl) ?_ _
            have B3 := Lib.hid hHeld
            go_wp2
            go_roundw
            case rel => exact ⟨j + 1, by omega, by go_num, B3⟩
            case measure => simp [RowKit.intOf]; omega
        · have glj : decide ((j : Int) < (m : Int)) = false := by simp; omega
          have hle4 := HL.out
          have MB : Hid (∀ V, Below w2.heap.size w2 V → MineT w s bs V) := Lib.hid fun V hV => M2.out.old hV
          have K1 : Hid (∀ V, Below w2.heap.size w2 V → Calls Try.prog 21 #[s, .int .i64 1000, .int .i64 1] V fun e w' => e = .returned (.int .i64 ((bs.length - 1 : Nat) : Int)) ∧ Below w2.heap.size w2 w') := Lib.hid fun V hV => (mine_next (MB.out V hV) 1000 1 (in_small (by omega) (by omega)) (in_small (by omega) (by omega))).mono fun e w' ⟨he, _, hb⟩ => ⟨by rw [he, next_last HL.out.2], hV.trans (hb.mono hV.size)⟩
          have K2 : Hid (∀ V, Below w2.heap.size w2 V → Calls Try.prog 21 #[s, .int .i64 x, .int .i64 (N : Int)] V fun e w' => e = .returned (.int .i64 (nextV bs x N : Nat)) ∧ Below w2.heap.size w2 w') := Lib.hid fun V hV => (mine_next (MB.out V hV) x N hx (in_small (by omega) (by omega))).mono fun e w' ⟨he, _, hb⟩ => ⟨he, hV.trans (hb.mono hV.size)⟩
          have K3 : Hid (∀ V, Below w2.heap.size w2 V → Calls Try.prog 23 #[s, .int .i64 x, .int .i64 (N : Int)] V fun e w' => e = .returned (.int .i64 (prevV bs x N : Nat)) ∧ Below w2.heap.size w2 w') := Lib.hid fun V hV => (mine_prev (MB.out V hV) x N hx (in_small (by omega) (by omega))).mono fun e w' ⟨he, _, hb⟩ => ⟨he, hV.trans (hb.mono hV.size)⟩
          have HNi := Lib.hid (next_in bs x N)
          have HPi := Lib.hid (prev_in bs x N)
          generalize hqa : nextV bs x N = qa at *
          generalize hqb : prevV bs x N = qb at *
          obtain ⟨la, hla⟩ : ∃ la, la = bs.length - 1 := ⟨_, rfl⟩
          rw [← hla] at K1 HNi
          have HLa := Lib.hid hla
          clear hqa hqb hla hle4
          have k1 := K1.out _ HB.out
          go_wp2_with fail
          refine (show Calls _ _ _ _ _ from k1).mono ?_
          rintro e w3 ⟨rfl, hb3⟩
          have k2 := K2.out _ hb3
          clear k1
          go_wp2_with fail
          refine (show Calls _ _ _ _ _ from k2).mono ?_
          rintro e w4 ⟨rfl, hb4⟩
          have k3 := K3.out _ hb4
          clear k2 hb3
          go_wp2_with fail
          refine (show Calls _ _ _ _ _ from k3).mono ?_
          rintro e w5 ⟨rfl, hb5⟩
          have B5 := Lib.hid hb5
          have M2w := Lib.hid M2.out.1
          clear k3 hb4 hb5 K1 K2 K3 HB M2 glj
          obtain ⟨ia, hia⟩ : ∃ ia : Int, (qa : Int) = ia := ⟨_, rfl⟩
          obtain ⟨ib, hib⟩ : ∃ ib : Int, (qb : Int) = ib := ⟨_, rfl⟩
          obtain ⟨il, hil⟩ : ∃ il : Int, (la : Int) = il := ⟨_, rfl⟩
          rw [hia, hib, hil]
          have HIA := Lib.hid hia
          have HIB := Lib.hid hib
          have HIL := Lib.hid hil
          clear hia hib hil
          obtain ⟨u0, hu0⟩ : ∃ u, (ia == il) = u := ⟨_, rfl⟩
          obtain ⟨v0, hv0⟩ : ∃ u, (ib == 0) = u := ⟨_, rfl⟩
          have HU : Hid (ia = il → u0 = true) := Lib.hid fun e => by rw [← hu0, e]; simp
          have HV : Hid (ib = 0 → v0 = true) := Lib.hid fun e => by rw [← hv0, e]; rfl
          go_wp2_with fail
          clear hu0 hv0
          go_loopw [16, 17, 18] (fun s16 s17 i wr => ∃ (k : Nat) (u v : Bool), k ≤ m ∧ i = .int .i64 k ∧ s16 = .bool u ∧ s17 = .bool v ∧ Hid ((ia = il → u = true) ∧ (∀ j, j < k → (((stL bs).getD j 0 : Nat) : Int) = ia → u = true) ∧ (ib = 0 → v = true) ∧ ∀ j, j < k → (((stL bs).getD j 0 : Nat) : Int) = ib → v = true) ∧ Hid (Below w2.heap.size w2 wr)) (fun _ _ i _ => m - (RowKit.intOf i).toNat)
          case atStart => exact ⟨0, u0, v0, Nat.zero_le _, rfl, rfl, rfl, Lib.hid ⟨HU.out, fun j hj => absurd hj (Nat.not_lt_zero _), HV.out, fun j hj => absurd hj (Nat.not_lt_zero _)⟩, B5⟩
          case round =>
            obtain ⟨k, u, v, hk, rfl, rfl, rfl, HI, HB⟩ := hrel
            rename_i wr
            by_cases hlk : k < m
            · have glk : decide ((k : Int) < (m : Int)) = true := by simp; omega
              obtain ⟨g, rfl, hg, q0⟩ := HC.out k hlk
              have i1 := idx_int g m c2 k hlk
              have q1 : wr.cell? ⟨g, k, none⟩ = some (.int .i64 ((stL bs).getD k 0 : Nat)) := (HB.out.cell hg).trans q0
              have hkl : (stL bs).getD k 0 < bs.length := st_get_lt (by have := HME.out; omega)
              have HG := Lib.hid hg
              obtain ⟨ka, hka⟩ : ∃ ka : Int, (((stL bs).getD k 0 : Nat) : Int) = ka := ⟨_, rfl⟩
              rw [hka] at q1
              have HKa := Lib.hid hka
              have ka0 : decide (ka < 0) = false := by simp; omega
              have kal : decide (ka > il) = false := by have := HIL.out; have := HLa.out; simp; omega
              obtain ⟨u2, hu2⟩ : ∃ u2 : Bool, u2 = (u || (ka == ia)) := ⟨_, rfl⟩
              obtain ⟨v2, hv2⟩ : ∃ v2 : Bool, v2 = (v || (ka == ib)) := ⟨_, rfl⟩
              have HU2 := Lib.hid hu2
              have HV2 := Lib.hid hv2
              have HI2 : Hid ((ia = il → u2 = true) ∧ (∀ j, j < k + 1 → (((stL bs).getD j 0 : Nat) : Int) = ia → u2 = true) ∧ (ib = 0 → v2 = true) ∧ ∀ j, j < k + 1 → (((stL bs).getD j 0 : Nat) : Int) = ib → v2 = true) := Lib.hid (by
                refine ⟨fun e => by rw [hu2, HI.out.1 e]; rfl, fun j hj e => ?_, fun e => by rw [hv2, HI.out.2.2.1 e]; rfl, fun j hj e => ?_⟩
                · by_cases ej : j = k
                  · rw [ej, hka] at e
                    rw [hu2, e]
                    simp
                  · rw [hu2, HI.out.2.1 j (by omega) e]
                    rfl
                · by_cases ej : j = k
                  · rw [ej, hka] at e
                    rw [hv2, e]
                    simp
                  · rw [hv2, HI.out.2.2.2 j (by omega) e]
                    rfl)
              clear hka hu2 hv2 q0 hkl hg
              go_upto_region 29 with fail
              go_cut [16] (fun s wc => s = .bool u2 ∧ wr = wc)
              case first =>
                cases u
                · by_cases hq : ka = ia
                  · have ge : (ka == ia) = true := by simpa using hq
                    have e2 : u2 = true := by rw [HU2.out, ge]; rfl
                    subst e2
                    clear hq
                    go_wp2
                    go_meet
                    exact ⟨rfl, rfl⟩
                  · have ge : (ka == ia) = false := by simpa using hq
                    have e2 : u2 = false := by rw [HU2.out, ge]; rfl
                    subst e2
                    clear hq
                    go_wp2
                    go_meet
                    exact ⟨rfl, rfl⟩
                · have e2 : u2 = true := by rw [HU2.out]; rfl
                  subst e2
                  go_wp2
                  go_meet
                  exact ⟨rfl, rfl⟩
              case rest =>
              obtain ⟨rfl, rfl⟩ := hcut
              go_upto_region 30 with fail
              go_cut [17] (fun s wc => s = .bool v2 ∧ wr = wc)
              case first =>
                cases v
                · by_cases hq : ka = ib
                  · have ge : (ka == ib) = true := by simpa using hq
                    have e2 : v2 = true := by rw [HV2.out, ge]; rfl
                    subst e2
                    clear hq
                    go_wp2
                    go_meet
                    exact ⟨rfl, rfl⟩
                  · have ge : (ka == ib) = false := by simpa using hq
                    have e2 : v2 = false := by rw [HV2.out, ge]; rfl
                    subst e2
                    clear hq
                    go_wp2
                    go_meet
                    exact ⟨rfl, rfl⟩
                · have e2 : v2 = true := by rw [HV2.out]; rfl
                  subst e2
                  go_wp2
                  go_meet
                  exact ⟨rfl, rfl⟩
              case rest =>
              obtain ⟨rfl, rfl⟩ := hcut
              by_cases hk0 : k = 0
              · have gk : decide (0 < k) = false := by rw [hk0]; rfl
                have HK0 := Lib.hid hk0
                clear hk0
                go_wp2_with fail
                go_quiet (fail)
                have B6 := Lib.hid (below_drew HB.out nq)
                go_wp2
                go_roundw
                case rel => exact ⟨k + 1, u2, v2, by omega, by go_num, rfl, rfl, HI2, B6⟩
                case measure => simp [RowKit.intOf]; omega
              · have gk : decide (0 < k) = true := by simp; omega
                have zk : IntKind.i64.wrap ((k : Int) - 1) = ((k - 1 : Nat) : Int) := by rw [show ((k - 1 : Nat) : Int) = (k : Int) - 1 by omega]; exact IntWalk.i64_in _ (by omega)
                have i2 := idx_int g m c2 (k - 1) (by omega)
                obtain ⟨g', e', _, p0⟩ := HC.out (k - 1) (by omega)
                cases e'
                have q2 : wr.cell? ⟨g, k - 1, none⟩ = some (.int .i64 ((stL bs).getD (k - 1) 0 : Nat)) := (HB.out.cell HG.out).trans p0
                have hst := st_step (bs := bs) (i := k - 1) (by have := HME.out; omega)
                rw [show k - 1 + 1 = k by omega] at hst
                obtain ⟨kb, hkb⟩ : ∃ kb : Int, (((stL bs).getD (k - 1) 0 : Nat) : Int) = kb := ⟨_, rfl⟩
                rw [hkb] at q2
                have gkb : decide (kb ≥ ka) = false := by have := HKa.out; simp; omega
                have HK0 := Lib.hid hk0
                clear hk0 hst hkb p0
                go_wp2_with fail
                go_quiet (fail)
                have B6 := Lib.hid (below_drew HB.out nq)
                go_wp2
                go_roundw
                case rel => exact ⟨k + 1, u2, v2, by omega, by go_num, rfl, rfl, HI2, B6⟩
                case measure => simp [RowKit.intOf]; omega
            · have hkm : k = m := by omega
              have glk : decide ((k : Int) < (m : Int)) = false := by simp; omega
              have hmem : ∀ (q : Nat), q ∈ stL bs → ∃ j, j < k ∧ (stL bs).getD j 0 = q := fun q hq => by
                obtain ⟨j, hj, e⟩ := List.getElem_of_mem hq
                exact ⟨j, by rw [hkm, HME.out]; exact hj, by rw [List.getD_eq_getElem?_getD, List.getElem?_eq_getElem hj]; exact e⟩
              have hu : u = true := by
                rcases HNi.out with e | e
                · exact HI.out.1 (by rw [← HIA.out, ← HIL.out, e])
                · obtain ⟨j, hj, e2⟩ := hmem _ e
                  exact HI.out.2.1 j hj (by rw [e2]; exact HIA.out)
              have hv : v = true := by
                rcases HPi.out with e | e
                · exact HI.out.2.2.1 (by rw [← HIB.out, e]; rfl)
                · obtain ⟨j, hj, e2⟩ := hmem _ e
                  exact HI.out.2.2.2 j hj (by rw [e2]; exact HIB.out)
              have ga : decide (ia ≥ 0) = true := by have := HIA.out; simp; omega
              have gb : decide (ib ≤ il) = true := by
                have h1 : qb ≤ la := by
                  rcases HPi.out with e | e
                  · omega
                  · have := st_lt_len e
                    have := HLa.out
                    omega
                have := HIB.out
                have := HIL.out
                simp
                omega
              subst hu
              subst hv
              have HBw : Hid (∀ V, Below wr.heap.size wr V → Below w.heap.size w V) := Lib.hid fun V hV => (M2w.out.trans ((HB.out.trans (hV.mono HB.out.size)).mono M2w.out.size))
              have K9 := Lib.hid (HWk.out wr)
              clear hkm hmem
              go_wp2_with fail
              refine (show Calls _ _ _ _ _ from K9.out).mono ?_
              rintro e w9 ⟨rfl, hb9⟩
              have B9 := Lib.hid (HBw.out w9 hb9)
              clear K9 hb9
              go_wp2
              go_ret
              exact ⟨rfl, B9.out⟩
end Go.Proofs.Ytfkiihddcinckaa.Tb
