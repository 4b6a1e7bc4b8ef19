/- Layer 8: a new parser. Layer 8: apart: parameters in memory of their own. Layer 8: apart, whole. -/
import Derived.Test.YtkenaccnmmmooaaDoorEpI
import Derived.Laws.Tables
/-! ## Layer 8: a new parser. -/
namespace Go.Proofs.YtkenaccnmmmooaaDoor
open Go.RowKit Ev

def zl : List Value := [.int .u8 0, .int .u8 0, .int .u8 0, .int .u8 0, .int .i64 0, .int .i64 0] ++ (List.replicate 145 (.int .i64 0) ++ ([.bool false] ++ ([.int .u8 0, .int .u8 0, .int .i64 0, .int .u8 0] ++ (List.replicate 1024 (.int .u8 0) ++ [.int .i64 0, .pointer none, .pointer none]))))
def zeroP : Array Value := ⟨zl⟩
theorem build_par (W : World) : (Instr.build 70 #[]).run Tryd.prog W = .ok (.agg zeroP) W := run_build W 70 #[] _ (by kernel_rfl)
theorem zero_par (W : World) : (zeroValue 70).run Tryd.prog W = .ok (.agg zeroP) W := by kernel_rfl
theorem zeroP_size : zeroP.size = 1183 := by kernel_rfl
theorem zeroP_one : zl.all (·.oneCell') = true := by kernel_rfl
theorem zeroP_agg : (Value.agg zeroP).cells = zeroP := by kernel_rfl
theorem zeroM_list : P7.cellsM (P7.memOf none) = ⟨List.replicate 145 (.int .i64 0) ++ [.bool false]⟩ := by kernel_rfl

theorem zp (i : Nat) : zeroP[i]? = zl[i]? := by rw [show zeroP = zl.toArray from rfl, List.getElem?_toArray]
theorem z0 : zeroP[0]? = some (Value.int .u8 0) := by kernel_rfl
theorem z1 : zeroP[1]? = some (Value.int .u8 0) := by kernel_rfl
theorem z2 : zeroP[2]? = some (Value.int .u8 0) := by kernel_rfl
theorem z3 : zeroP[3]? = some (Value.int .u8 0) := by kernel_rfl
theorem z4 : zeroP[4]? = some (Value.int .i64 0) := by kernel_rfl
theorem z5 : zeroP[5]? = some (Value.int .i64 0) := by kernel_rfl
theorem z152 : zeroP[152]? = some (Value.int .u8 0) := by kernel_rfl
theorem z153 : zeroP[153]? = some (Value.int .u8 0) := by kernel_rfl
theorem z154 : zeroP[154]? = some (Value.int .i64 0) := by kernel_rfl
theorem z155 : zeroP[155]? = some (Value.int .u8 0) := by kernel_rfl
theorem z1180 : zeroP[1180]? = some (Value.int .i64 0) := by kernel_rfl
theorem z1181 : zeroP[1181]? = some (Value.pointer none) := by kernel_rfl
theorem z1182 : zeroP[1182]? = some (Value.pointer none) := by kernel_rfl
theorem zl_low : ∀ i, i < 6 → zeroP[i]? = #[Value.int .u8 0, .int .u8 0, .int .u8 0, .int .u8 0, .int .i64 0, .int .i64 0][i]? := fun i hi => by
  have : i = 0 ∨ i = 1 ∨ i = 2 ∨ i = 3 ∨ i = 4 ∨ i = 5 := by omega
  rcases this with rfl | rfl | rfl | rfl | rfl | rfl
  · exact z0
  · exact z1
  · exact z2
  · exact z3
  · exact z4
  · exact z5
theorem zl_par : ∀ i, i < 146 → zeroP[6 + i]? = (P7.cellsM (P7.memOf none))[i]? := fun i hi => by
  rw [zeroM_list, zp, show (⟨List.replicate 145 (.int .i64 0) ++ [.bool false]⟩ : Array Value) = (List.replicate 145 (Value.int .i64 0) ++ [Value.bool false]).toArray from rfl, List.getElem?_toArray]
  unfold zl
  rw [List.getElem?_append_right (by simp), ← List.append_assoc, List.getElem?_append_left (by simp; omega)]
  simp
theorem zl_mid : ∀ i, i < 4 → zeroP[152 + i]? = #[Value.int .u8 0, .int .u8 0, .int .i64 0, .int .u8 0][i]? := fun i hi => by
  have : i = 0 ∨ i = 1 ∨ i = 2 ∨ i = 3 := by omega
  rcases this with rfl | rfl | rfl | rfl
  · exact z152
  · exact z153
  · exact z154
  · exact z155
theorem zl_txt : ∀ i, i < 1024 → zeroP[156 + i]? = some (Value.int .u8 0) := fun i hi => by
  rw [zp]
  unfold zl
  have e6 : ([.int .u8 0, .int .u8 0, .int .u8 0, .int .u8 0, .int .i64 0, .int .i64 0] : List Value).length = 6 := rfl
  have e145 : (List.replicate 145 (Value.int .i64 0)).length = 145 := List.length_replicate
  have e1 : ([.bool false] : List Value).length = 1 := rfl
  have e4 : ([.int .u8 0, .int .u8 0, .int .i64 0, .int .u8 0] : List Value).length = 4 := rfl
  have e1024 : (List.replicate 1024 (Value.int .u8 0)).length = 1024 := List.length_replicate
  rw [List.getElem?_append_right (by rw [e6]; omega), e6, List.getElem?_append_right (by rw [e145]; omega), e145, List.getElem?_append_right (by rw [e1]; omega), e1, List.getElem?_append_right (by rw [e4]; omega), e4, List.getElem?_append_left (by rw [e1024]; omega), List.getElem?_replicate, if_pos (by omega)]
theorem zl_end : ∀ i, i < 3 → zeroP[1180 + i]? = #[Value.int .i64 0, .pointer none, .pointer none][i]? := fun i hi => by
  have : i = 0 ∨ i = 1 ∨ i = 2 := by omega
  rcases this with rfl | rfl | rfl
  · exact z1180
  · exact z1181
  · exact z1182
attribute [local irreducible] zeroP zl

/-- A new block of zeros is a new parser. -/
theorem new_isP {w : World} {a : Nat} (h : w.heap[a]? = some (.cells zeroP 70 (0, 0))) (hne : a ≠ 2 ∧ a ≠ 3) : IsP w a q0 [] := by
  have c := fun i => cell_at h i
  refine ⟨⟨zeroP, h, zeroP_size⟩, ⟨⟨zeroP, _, h, by rw [zeroP_size]; simp [D5.cellsK], fun i hi => ?_⟩, rfl, hne⟩, by rw [c, zl_low 5 (by omega)]; rfl, ⟨⟨zeroP, _, h, by rw [zeroP_size, P7.cells_size]; omega, fun i hi => ?_⟩, P7.Par.ok_none⟩, fun i hi => ⟨0, by omega, ?_, fun hl => absurd hl (by simp [q0])⟩, by rw [c, show (154 : Nat) = 152 + 2 from rfl, zl_mid 2 (by omega)]; rfl, by rw [c, show (155 : Nat) = 152 + 3 from rfl, zl_mid 3 (by omega)]; rfl, fun i hi => ⟨0, by omega, by rw [c, zl_txt i hi]; rfl, fun hl => absurd hl (by simp [q0])⟩, by rw [c, show (1180 : Nat) = 1180 + 0 from rfl, zl_end 0 (by omega)]; rfl, ⟨none, none, by rw [c, show (1181 : Nat) = 1180 + 1 from rfl, zl_end 1 (by omega)]; rfl, by rw [c, show (1182 : Nat) = 1180 + 2 from rfl, zl_end 2 (by omega)]; rfl, [], [], rfl, rfl, rfl⟩, by decide⟩
  · have hi : i < 5 := hi
    rw [Nat.zero_add, zl_low i (by omega)]
    have : i = 0 ∨ i = 1 ∨ i = 2 ∨ i = 3 ∨ i = 4 := by omega
    rcases this with rfl | rfl | rfl | rfl | rfl <;> rfl
  · rw [P7.cells_size] at hi
    exact zl_par i hi
  · rw [c, zl_mid i (by omega)]
    have : i = 0 ∨ i = 1 := by omega
    rcases this with rfl | rfl <;> rfl

theorem new_any (w : World) (hf : 2 < w.heap.size ∧ 3 < w.heap.size) : Calls Tryd.prog 12 #[] w fun e w' => e = .returned (.pointer (some ⟨w.heap.size, 0, none⟩)) ∧ IsP w' w.heap.size q0 [] ∧ Below w.heap.size w w' := by
  have h1 := build_par
  have h2 := zero_par
  have HP : Hid (IsP (w.alloc (.cells zeroP 70)) w.heap.size q0 [] ∧ Below w.heap.size w (w.alloc (.cells zeroP 70))) := Lib.hid ⟨new_isP (Deep.blk_alloc_new w _) ⟨by omega, by omega⟩, (Below.refl _ _).alloc (Nat.le_refl _) _⟩
  clear hf
  go_enter Tryd.func12, Tryd.ntmps12
  go_wp2
  go_ret
  exact ⟨rfl, HP.out⟩
end Go.Proofs.YtkenaccnmmmooaaDoor

/-! ## Layer 8: apart: parameters in memory of their own. -/
namespace Go.Proofs.YtkenaccnmmmooaaDoor
open Go.RowKit Ev

theorem spot_none {w : World} {p : Addr} {v : Value} (h : w.cell? (p.add 0) = some v) : p = ⟨p.block, p.off, none⟩ := by
  obtain ⟨b, o, s⟩ := p
  cases s with
  | none => rfl
  | some s =>
    exfalso
    unfold Addr.add at h
    rw [if_pos rfl] at h
    unfold World.cell? at h
    split at h <;> simp at h

/-- slices.Clone of a row. -/
theorem pclone_any (a o c : Nat) (xs : List Nat) (w : World) (hl : xs.length ≤ 1000000) (hc : ∀ j, j < xs.length → w.cell? ⟨a, o + j, none⟩ = some (.int .i64 (xs.getD j 0 : Nat))) (ha : a < w.heap.size) :
    Calls Tryd.prog 64 #[.slice (some ⟨a, o, none⟩) xs.length c] w (fun e w' => ∃ A c, e = .returned (.slice A xs.length c) ∧ Below w.heap.size w w' ∧ (P7.RowI w' w'.heap.size A xs ∧ xs.length ≤ c ∧ c ≤ 9223372036854775807)) := by
  suffices hs : Calls Tryd.prog 64 #[.slice (some ⟨a, o, none⟩) xs.length c] w fun e w' => ∃ v, e = .returned v ∧ w'.ownsRow w.heap.size 3 1 v xs.length (P7.intV xs) ∧ Below w.heap.size w w' by
    refine hs.mono ?_
    rintro e w' ⟨v, rfl, ho, hb⟩
    rcases ho.2 with ⟨rfl, h0⟩ | ⟨g, cap, cur, rfl, _, _, hle, hmx, _⟩
    · exact ⟨none, 0, by rw [h0], hb, ⟨fun k hk => by omega, fun a ha => by cases ha⟩, by omega, by decide⟩
    · exact ⟨_, cap, rfl, hb, P7.own_rowI ho, hle, Nat.le_trans hmx (by unfold maxLen; omega)⟩
  obtain ⟨i0, hi, hz0, hz1, hz2⟩ := info_parts P7.info_int
  have HI := Lib.hid hi; have HZ0 := Lib.hid hz0; have HZ1 := Lib.hid hz1; have HZ2 := Lib.hid hz2
  obtain ⟨n, hn⟩ : ∃ n, n = xs.length := ⟨_, rfl⟩
  have HC := Lib.hid hc
  have HN := Lib.hid hn
  have hq := P7.not_nil a o n c
  rw [← hn] at hl ⊢
  clear hi hz0 hz1 hz2 hc hn
  go_enter Tryd.func64, Tryd.ntmps64
  have HA := Lib.hid ha
  have h0 : Hid ((w.alloc (.cells #[] 3)).ownsRow w.heap.size 3 1 (.slice (some ⟨w.heap.size, 0, none⟩) 0 0) 0 []) := Lib.hid (P7.own_empty w 3)
  clear ha
  go_wp2_with (at_builtin; refine wpList_append_own _ rfl (.tmp 5) (.tmp 6) 36 rfl w.heap.size 3 i0 (.int .i64 0) 1 8 Tryd.underlying36 HI.out HZ0.out HZ1.out HZ2.out rfl (by decide) _ _ _ rfl h0.out ⟨a, o, none⟩ n c (P7.intV xs) rfl ?c0 ?c1 ?c2 ?c3 ?c4 ?c5 ?_)
  case c0 => rw [HN.out]; simp [P7.intV]
  case c1 =>
    intro j u hu
    have hj : j < xs.length := by
      have := (List.getElem?_eq_some_iff.1 hu).1
      simpa [P7.intV] using this
    rw [P7.add_off, World.cell?_alloc_lt _ _ _ (by exact HA.out), HC.out j hj, ← hu]
    simp [P7.intV, hj]
  case c2 =>
    intro u hu
    simp only [P7.intV, List.mem_map] at hu
    obtain ⟨r, _, rfl⟩ := hu
    rfl
  case c3 => unfold maxLen; omega
  case c4 => omega
  case c5 => simp
  intro v' w1 hown hg _
  have HO : Hid (w1.ownsRow w.heap.size 3 1 v' n (P7.intV xs)) := Lib.hid (by simpa using hown)
  have HB : Hid (Below w.heap.size w w1) := Lib.hid (((Below.refl _ _).alloc (Nat.le_refl _) _).grown hg (by simp) (fun g h => by simp [Value.ownBlock] at h; omega))
  clear hown hg h0
  go_wp2
  go_ret
  exact ⟨_, rfl, HO.out, HB.out⟩

theorem info_rowT : (Tryd.prog.info? 36).map (fun i => (i.zero, i.size, i.bytes)) = some (some (.slice none 0 0), 1, 24) := by kernel_rfl
theorem not_nil2 (g n c : Nat) (W : World) : (binOp .eql 31 (.slice (some ⟨g, 0, none⟩) n c) (.slice none 0 0)).run Tryd.prog W = .ok (.bool false) W := by kernel_rfl

/-- The rows of a table, as values. -/
def RowsV (w : World) (l : List (List Nat)) (vs : List Value) : Prop := vs.length = l.length ∧ ∀ r, r < l.length → ∃ A c, vs[r]? = some (.slice A (l.getD r []).length c) ∧ P7.RowI w w.heap.size A (l.getD r [])
/-- slices.Clone of a table: its rows are shared. -/
theorem pclone_tab (g c : Nat) (l : List (List Nat)) (w : World) (hl : l.length ≤ 1000000) (hT : P7.TabT w (some ⟨g, 0, none⟩) l) :
    Calls Tryd.prog 63 #[.slice (some ⟨g, 0, none⟩) l.length c] w fun e w' => ∃ v vs, e = .returned v ∧ w'.ownsRow w.heap.size 36 1 v l.length vs ∧ RowsV w' l vs ∧ Below w.heap.size w w' := by
  obtain ⟨i0, hi, hz0, hz1, hz2⟩ := info_parts info_rowT
  have HI := Lib.hid hi; have HZ0 := Lib.hid hz0; have HZ1 := Lib.hid hz1; have HZ2 := Lib.hid hz2
  have HV : Hid (∃ vs, RowsV w l vs ∧ (∀ j u, vs[j]? = some u → w.cell? ⟨g, j, none⟩ = some u ∧ u.oneCell' = true) ∧ (0 < l.length → g < w.heap.size)) := Lib.hid (by
    by_cases hp : 0 < l.length
    · obtain ⟨g', e, ⟨cur, hc⟩, hr⟩ := hT hp
      cases e
      refine ⟨(List.range l.length).map fun r => (w.cell? ⟨g, r, none⟩).getD undef, ⟨by simp, fun r hr' => ?_⟩, fun j u hu => ?_, fun _ => (Array.getElem?_eq_some_iff.1 hc).1⟩
      · obtain ⟨A, c, e1, e2⟩ := hr r hr'
        exact ⟨A, c, by simp [hr', e1], e2⟩
      · have hj : j < l.length := by
          have := (List.getElem?_eq_some_iff.1 hu).1
          simpa using this
        obtain ⟨A, c, e1, e2⟩ := hr j hj
        have hu2 : (w.cell? ⟨g, j, none⟩).getD undef = u := by
          rw [List.getElem?_map, List.getElem?_range hj] at hu
          exact Option.some.inj hu
        rw [e1] at hu2
        have hu3 : Value.slice A (l.getD j []).length c = u := hu2
        subst hu3
        exact ⟨e1, rfl⟩
    · have : l = [] := List.eq_nil_of_length_eq_zero (by omega)
      subst this
      exact ⟨[], ⟨rfl, fun r hr => absurd hr (by simp)⟩, fun j u hu => by simp at hu, fun h => absurd h (by simp)⟩)
  obtain ⟨vs, hvs, hcell, hgl⟩ := HV.out
  have HVS := Lib.hid hvs
  have HCe := Lib.hid hcell
  have HG := Lib.hid hgl
  obtain ⟨n, hn⟩ : ∃ n, n = l.length := ⟨_, rfl⟩
  have HN := Lib.hid hn
  have hq := not_nil2 g n c
  rw [← hn] at hl ⊢
  clear hi hz0 hz1 hz2 hn HV hvs hcell hgl hT
  go_enter Tryd.func63, Tryd.ntmps63
  have h0 : Hid ((w.alloc (.cells #[] 36)).ownsRow w.heap.size 36 1 (.slice (some ⟨w.heap.size, 0, none⟩) 0 0) 0 []) := Lib.hid (P7.own_empty w 36)
  go_wp2_with (at_builtin; refine wpList_append_own _ rfl (.tmp 5) (.tmp 6) 31 rfl w.heap.size 36 i0 (.slice none 0 0) 1 24 Tryd.underlying31 HI.out HZ0.out HZ1.out HZ2.out rfl (by decide) _ _ _ rfl h0.out ⟨g, 0, none⟩ n c vs rfl ?c0 ?c1 ?c2 ?c3 ?c4 ?c5 ?_)
  case c0 => have := HVS.out.1; have := HN.out; omega
  case c1 =>
    intro j u hu
    have hj : j < vs.length := (List.getElem?_eq_some_iff.1 hu).1
    have hg : g < w.heap.size := HG.out (by have := HVS.out.1; omega)
    rw [P7.add_zero, World.cell?_alloc_lt _ _ _ (by exact hg)]
    exact (HCe.out j u hu).1
  case c2 =>
    intro u hu
    obtain ⟨j, hj, e⟩ := List.getElem_of_mem hu
    exact (HCe.out j u (by rw [List.getElem?_eq_getElem hj, e])).2
  case c3 => unfold maxLen; omega
  case c4 => omega
  case c5 => simp
  intro v' w1 hown hg _
  have HO : Hid (w1.ownsRow w.heap.size 36 1 v' n vs) := Lib.hid (by simpa using hown)
  have HB : Hid (Below w.heap.size w w1) := Lib.hid (((Below.refl _ _).alloc (Nat.le_refl _) _).grown hg (by simp) (fun g h => by simp [Value.ownBlock] at h; omega))
  clear hown hg h0
  go_wp2
  go_ret
  refine ⟨_, vs, rfl, HO.out, ⟨HVS.out.1, fun r hr => ?_⟩, HB.out⟩
  obtain ⟨A, c, e1, e2⟩ := HVS.out.2 r hr
  exact ⟨A, c, e1, e2.block (fun a ha => HB.out.block _ (e2.typ a ha).1) HB.out.size⟩
/-- The rows' capacities. -/
def CapT (w : World) (A : Option Addr) (l : List (List Nat)) : Prop := ∀ r, r < l.length → ∃ g A' c, A = some ⟨g, 0, none⟩ ∧ w.cell? ⟨g, r, none⟩ = some (.slice A' (l.getD r []).length c) ∧ (l.getD r []).length ≤ c ∧ c ≤ 9223372036854775807
/-- A table, with its capacities. -/
def TabC (w : World) (A : Option Addr) (c : Nat) (l : List (List Nat)) : Prop := P7.TabT w A l ∧ CapT w A l ∧ l.length ≤ c ∧ c ≤ 9223372036854775807
theorem TabC.keep {w w' : World} {A : Option Addr} {c : Nat} {l : List (List Nat)} (h : TabC w A c l) (hk : P7.KeepT w w') : TabC w' A c l := by
  refine ⟨h.1.keep hk, fun r hr => ?_, h.2.2⟩
  obtain ⟨g, e, ⟨cur, hc⟩, _⟩ := h.1 (by omega)
  obtain ⟨g', A', c', e', h1, h2⟩ := h.2.1 r hr
  rw [e] at e'
  cases e'
  exact ⟨g, A', c', e, (World.cell?_of_block (w := w) (hk.2 g cur _ hc (Or.inr rfl))).trans h1, h2⟩
/-- The capacities of the first rows. -/
def PreC (w : World) (ub : Nat) (l : List (List Nat)) (k : Nat) : Prop := ∀ r, r < k → ∃ A' c, w.cell? ⟨ub, r, none⟩ = some (.slice A' (l.getD r []).length c) ∧ (l.getD r []).length ≤ c ∧ c ≤ 9223372036854775807
theorem PreC.capT {w : World} {ub : Nat} {l : List (List Nat)} (h : PreC w ub l l.length) : CapT w (some ⟨ub, 0, none⟩) l := fun r hr => by
  obtain ⟨A', c, h1, h2⟩ := h r hr
  exact ⟨ub, A', c, rfl, h1, h2⟩
theorem PreC.next {w w' : World} {ub k : Nat} {l : List (List Nat)} (h : PreC w ub l k) (hb : w'.heap[ub]? = w.heap[ub]?) {u : Value} (hu : w'.cell? ⟨ub, k, none⟩ = some u) {A : Option Addr} {c : Nat} (h1 : (l.getD k []).length ≤ c) (h2 : c ≤ 9223372036854775807) : PreC (w'.setCell ⟨ub, k, none⟩ (.slice A (l.getD k []).length c)) ub l (k + 1) := fun r hr => by
  by_cases e : r = k
  · subst e
    exact ⟨A, c, World.cell?_setCell_same _ _ _ hu, h1, h2⟩
  · obtain ⟨A', c', h3, h4⟩ := h r (by omega)
    exact ⟨A', c', (World.cell?_setCell_other _ _ _ _ (by intro e'; injection e' with e1 e2; exact e e2.symm)).trans ((World.cell?_of_block (w := w) hb).trans h3), h4⟩
end Go.Proofs.YtkenaccnmmmooaaDoor

/-! ## Layer 8: apart, whole. -/
namespace Go.Proofs.YtkenaccnmmmooaaDoor
open Go.RowKit Ev

theorem rows_tab {w : World} {base n : Nat} {v : Value} {vs : List Value} {l : List (List Nat)} (h : w.ownsRow base 36 1 v n vs) (hv : RowsV w l vs) (hn : n = l.length) (hp : 0 < n) : ∃ ub c, v = .slice (some ⟨ub, 0, none⟩) n c ∧ base ≤ ub ∧ ub < w.heap.size ∧ P7.TabT w (some ⟨ub, 0, none⟩) l ∧ n ≤ c ∧ c ≤ 9223372036854775807 := by
  subst hn
  rcases h.2 with ⟨rfl, h0⟩ | ⟨g, cap, cur, rfl, hb, hh, hle, hmx, _⟩
  · have := h.1; omega
  · refine ⟨g, cap, rfl, hb, (Array.getElem?_eq_some_iff.1 hh).1, fun _ => ⟨g, rfl, ⟨cur, hh⟩, fun r hr => ?_⟩, hle, Nat.le_trans hmx (by unfold maxLen; omega)⟩
    obtain ⟨A, c, e1, e2⟩ := hv.2 r hr
    refine ⟨A, c, ?_, e2⟩
    have := World.ownsRow.cells (w := w) h (g := g) rfl r _ e1
    rwa [P7.add_zero] at this
theorem tab_store {w : World} {ub k : Nat} {l : List (List Nat)} (h : P7.TabT w (some ⟨ub, 0, none⟩) l) (hk : k < l.length) {A : Option Addr} {c : Nat} (hr : P7.RowI w w.heap.size A (l.getD k [])) : P7.TabT (w.setCell ⟨ub, k, none⟩ (.slice A (l.getD k []).length c)) (some ⟨ub, 0, none⟩) l := fun hp => by
  obtain ⟨g, e, ⟨cur, hc⟩, hx⟩ := h hp
  cases e
  have hne : ∀ {A' : Option Addr} {q : List Nat}, P7.RowI w w.heap.size A' q → ∀ a, A' = some a → (w.setCell ⟨ub, k, none⟩ (.slice A (l.getD k []).length c)).heap[a.block]? = w.heap[a.block]? := by
    intro A' q hq a ha
    refine Below.heap_setCell _ _ _ _ ?_
    intro e
    obtain ⟨_, cur', hc'⟩ := hq.typ a ha
    rw [e] at hc'
    have hc' : w.heap[ub]? = some (.cells cur' 3 (0, 0)) := hc'
    rw [hc] at hc'
    cases hc'
  refine ⟨ub, rfl, ⟨_, heap_setCell_same w ub k _ _ _ hc⟩, fun r hr' => ?_⟩
  obtain ⟨A', c', e1, e2⟩ := hx r hr'
  by_cases e : r = k
  · subst e
    exact ⟨A, c, World.cell?_setCell_same _ _ _ e1, hr.block (hne hr) (by simp)⟩
  · exact ⟨A', c', (World.cell?_setCell_other _ _ _ _ (by intro e'; injection e' with e1 e2; exact e e2.symm)).trans e1, e2.block (hne e2) (by simp)⟩

theorem idx_rows (ub n c k : Nat) (hk : k < n) (W : World) : (Instr.indexAt 31 (.slice (some ⟨ub, 0, none⟩) n c) (.int .i64 (k : Int))).run Tryd.prog W = .ok (.pointer (some ⟨ub, k, none⟩)) W := by
  have hs : ∀ W : World, (sizeOf (Tryd.prog.elem 31)).run Tryd.prog W = .ok 1 W := fun W => by kernel_rfl
  rw [run_indexAt_slice (P := Tryd.prog) W 31 ⟨ub, 0, none⟩ n c .i64 k (by kernel_rfl), if_pos (by omega), hs]
  simp only [Result.andThen, Nat.mul_one, Int.toNat_natCast, P7.add_zero]

/-- What a list of parameters is at most. -/
def ParOk (l : List (List Nat)) : Prop := l.length ≤ 16 ∧ ∀ q ∈ l, 1 ≤ q.length ∧ q.length ≤ 8
def ApartPost (w : World) (l : List (List Nat)) (e : Ending) (w' : World) : Prop := ∃ A c, e = .returned (.slice A l.length c) ∧ TabC w' A c l ∧ Below w.heap.size w w'

set_option maxRecDepth 100000 in
theorem clone_none (w : World) : Calls Tryd.prog 63 #[.slice none 0 0] w fun e w' => e = .returned (.slice none 0 0) ∧ w = w' := by
  have hq : ∀ W : World, (binOp .eql 31 (.slice none 0 0) (.slice none 0 0)).run Tryd.prog W = .ok (.bool true) W := fun W => by kernel_rfl
  go_enter Tryd.func63, Tryd.ntmps63
  go_wp2
  go_ret
  exact ⟨rfl, rfl⟩
set_option maxRecDepth 100000 in
theorem apart_none (w : World) : Calls Tryd.prog 37 #[.slice none 0 0] w (ApartPost w []) := by
  go_enter Tryd.func37, Tryd.ntmps37
  go_wp2_with fail
  refine (clone_none w).mono ?_
  rintro e w' ⟨rfl, rfl⟩
  go_wp2
  go_loopw [8] (fun i wr => i = .int .i64 0 ∧ wr = w) (fun _ _ => 0)
  case atStart => exact ⟨rfl, rfl⟩
  case round =>
    obtain ⟨rfl, rfl⟩ := hrel
    go_wp2
    go_ret
    exact ⟨none, 0, rfl, ⟨no_tab _, fun r hr => absurd hr (by simp), by decide, by decide⟩, Below.refl _ _⟩

set_option maxHeartbeats 400000 in
theorem apart_some (g c : Nat) (l : List (List Nat)) (w : World) (hl : ParOk l) (hT : P7.TabT w (some ⟨g, 0, none⟩) l) : Calls Tryd.prog 37 #[.slice (some ⟨g, 0, none⟩) l.length c] w (ApartPost w l) := by
  have HC := Lib.hid (pclone_tab g c l w (by have := hl.1; omega) hT)
  obtain ⟨n, hn⟩ : ∃ n, n = l.length := ⟨_, rfl⟩
  have HN := Lib.hid hn
  have HO := Lib.hid hl
  have hn1 : n ≤ 16 := by rw [hn]; exact hl.1
  rw [← hn] at HC ⊢
  clear hl hT hn
  go_enter Tryd.func37, Tryd.ntmps37
  go_wp2_with fail
  refine (show Calls _ _ _ _ _ from HC.out).mono ?_
  rintro e w1 ⟨v, vs, rfl, ho, hv, hb⟩
  by_cases hp : 0 < n
  · obtain ⟨ub, cap, rfl, hub, _, hT1, hcp1, hcp2⟩ := rows_tab ho hv HN.out hp
    have HT1 := Lib.hid hT1
    have HB1 := Lib.hid hb
    have HUB := Lib.hid hub
    clear ho hv hb hT1 HC hub
    go_wp2
    go_loopw [8] (fun i wr => ∃ k : Nat, k ≤ n ∧ i = .int .i64 k ∧ Hid (P7.TabT wr (some ⟨ub, 0, none⟩) l) ∧ Hid (Below w.heap.size w wr) ∧ Hid (PreC wr ub l k)) (fun i _ => n - (RowKit.intOf i).toNat)
    case atStart => exact ⟨0, Nat.zero_le _, rfl, HT1, HB1, Lib.hid fun r hr => absurd hr (by omega)⟩
    case round =>
      obtain ⟨k, hk, rfl, HT, HB, HPC⟩ := hrel
      by_cases hlt : k < n
      · have hlt' : k < l.length := by rw [← HN.out]; exact hlt
        obtain ⟨g', e0, ⟨cur, hcur⟩, hrow⟩ := HT.out (by omega)
        cases e0
        obtain ⟨A1, C1, c1, r1⟩ := hrow k hlt'
        have hrl := HO.out.2 _ (P7.getD_mem l k [] hlt')
        obtain ⟨p, rfl, hpl, hpc⟩ := r1.row 0 (by omega)
        obtain ⟨b, o, s⟩ := p
        obtain rfl : s = none := by have := spot_none hpc; simpa using this
        have HCl : Hid (Calls Tryd.prog 64 #[.slice (some ⟨b, o, none⟩) (l.getD k []).length C1] wr (fun e w' => ∃ A c, e = .returned (.slice A (l.getD k []).length c) ∧ Below wr.heap.size wr w' ∧ (P7.RowI w' w'.heap.size A (l.getD k []) ∧ (l.getD k []).length ≤ c ∧ c ≤ 9223372036854775807))) := Lib.hid (pclone_any b o C1 (l.getD k []) wr (by omega) (fun j hj => by
          obtain ⟨a', e', _, hc'⟩ := r1.row j hj
          cases e'
          rwa [P7.add_off] at hc') hpl)
        have i3 := idx_rows ub n cap k hlt
        have HW : Hid (∀ w' A c, Below wr.heap.size wr w' → (P7.RowI w' w'.heap.size A (l.getD k []) ∧ (l.getD k []).length ≤ c ∧ c ≤ 9223372036854775807) → P7.TabT (w'.setCell ⟨ub, k, none⟩ (.slice A (l.getD k []).length c)) (some ⟨ub, 0, none⟩) l ∧ Below w.heap.size w (w'.setCell ⟨ub, k, none⟩ (.slice A (l.getD k []).length c)) ∧ (∃ u, w'.cell? ⟨ub, k, none⟩ = some u) ∧ w'.frozen? ⟨ub, k, none⟩ = false ∧ PreC (w'.setCell ⟨ub, k, none⟩ (.slice A (l.getD k []).length c)) ub l (k + 1)) := Lib.hid fun w' A c hbw hr => by
          have hT' := HT.out.keep (P7.KeepT.of_below hbw)
          have hbl : w'.heap[ub]? = some (.cells cur 36 (0, 0)) := (hbw.block ub (Array.getElem?_eq_some_iff.1 hcur).1).trans hcur
          have hsz := HB.out.size
          exact ⟨tab_store hT' hlt' hr.1, (HB.out.trans (hbw.mono hsz)).setCell HUB.out _, ⟨_, (World.cell?_of_block (w := wr) (hbw.block ub (Array.getElem?_eq_some_iff.1 hcur).1)).trans c1⟩, by simp [World.frozen?, hbl], HPC.out.next (hbw.block ub (Array.getElem?_eq_some_iff.1 hcur).1) ((World.cell?_of_block (w := wr) (hbw.block ub (Array.getElem?_eq_some_iff.1 hcur).1)).trans c1) hr.2.1 hr.2.2⟩
        obtain ⟨t, ht⟩ : ∃ t, t = (l.getD k []).length := ⟨_, rfl⟩
        rw [← ht] at c1 HCl HW
        clear hcur hrow r1 hpl hpc hrl ht HT HB HT1 HB1
        go_wp2_with fail
        refine (show Calls _ _ _ _ _ from HCl.out).mono ?_
        rintro e w2 ⟨A2, C2, rfl, hb2, hr2⟩
        obtain ⟨hT3, hB3, ⟨u, cu⟩, fu, hP3⟩ := HW.out w2 A2 C2 hb2 hr2
        have HP3 := Lib.hid hP3
        have HT3 := Lib.hid hT3
        have HB3 := Lib.hid hB3
        clear hb2 hr2 hT3 hB3 hP3 HCl HW HPC
        go_wp2
        go_roundw
        case rel => exact ⟨k + 1, by omega, by go_num, HT3, HB3, HP3⟩
        case measure => simp [RowKit.intOf]; omega
      · have hkn : k = n := by omega
        subst hkn
        go_wp2
        go_ret
        refine ⟨some ⟨ub, 0, none⟩, cap, ?_, ⟨HT.out, PreC.capT (by have := HPC.out; rw [HN.out] at this; exact this), by rw [← HN.out]; exact hcp1, hcp2⟩, HB.out⟩
        rw [← HN.out]
        rfl
  · have h0 : n = 0 := by omega
    subst h0
    have HB1 := Lib.hid hb
    have hl0 : l = [] := List.eq_nil_of_length_eq_zero (by have := HN.out; omega)
    have HE : Hid (∃ A c, v = .slice A 0 c ∧ c ≤ 9223372036854775807) := Lib.hid (by
      rcases ho.2 with ⟨rfl, h0⟩ | ⟨g, cap, cur, rfl, _, _, _, hmx, _⟩
      · exact ⟨none, 0, rfl, by decide⟩
      · exact ⟨_, _, rfl, Nat.le_trans hmx (by unfold maxLen; omega)⟩)
    obtain ⟨A9, c9, rfl, hc9⟩ := HE.out
    clear ho hv hb HC
    go_wp2
    go_loopw [8] (fun i wr => i = .int .i64 0 ∧ wr = w1) (fun _ _ => 0)
    case atStart => exact ⟨rfl, rfl⟩
    case round =>
      obtain ⟨rfl, rfl⟩ := hrel
      go_wp2
      go_ret
      subst hl0
      exact ⟨_, _, rfl, ⟨fun h => absurd h (by simp), fun r hr => absurd hr (by simp), Nat.zero_le _, hc9⟩, HB1.out⟩
end Go.Proofs.YtkenaccnmmmooaaDoor
