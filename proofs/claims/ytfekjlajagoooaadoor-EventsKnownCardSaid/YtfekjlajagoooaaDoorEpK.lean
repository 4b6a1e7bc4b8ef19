/- Layer 8: apart: parameters in memory of their own. -/
import Derived.Test.YtfekjlajagoooaaDoorEpJ
namespace Go.Proofs.YtfekjlajagoooaaDoor
open Go.RowKit Ev

theorem spot_none {w : World} {p : Addr} {v : Value} (h : w.cell? (p.add 0) = some v) : p = ⟨p.block, p.off, none⟩ := by
  obtain ⟨b, o, s⟩ := p
  cases s with
  | none => rfl
  | some s =>
    exfalso
    unfold Addr.add at h
    rw [if_pos rfl] at h
    unfold World.cell? at h
    split at h <;> simp at h

/-- slices.Clone of a row. -/
theorem pclone_any (a o c : Nat) (xs : List Nat) (w : World) (hl : xs.length ≤ 1000000) (hc : ∀ j, j < xs.length → w.cell? ⟨a, o + j, none⟩ = some (.int .i64 (xs.getD j 0 : Nat))) (ha : a < w.heap.size) :
    Calls Tryd.prog 84 #[.slice (some ⟨a, o, none⟩) xs.length c] w (P7.RowPost w xs) := by
  suffices hs : Calls Tryd.prog 84 #[.slice (some ⟨a, o, none⟩) xs.length c] w fun e w' => ∃ v, e = .returned v ∧ w'.ownsRow w.heap.size 3 1 v xs.length (P7.intV xs) ∧ Below w.heap.size w w' by
    refine hs.mono ?_
    rintro e w' ⟨v, rfl, ho, hb⟩
    rcases ho.2 with ⟨rfl, h0⟩ | ⟨g, cap, cur, rfl, _⟩
    · exact ⟨none, 0, by rw [h0], hb, fun k hk => by omega, fun a ha => by cases ha⟩
    · exact ⟨_, cap, rfl, hb, P7.own_rowI ho⟩
  obtain ⟨i0, hi, hz0, hz1, hz2⟩ := info_parts P7.info_int
  have HI := Lib.hid hi; have HZ0 := Lib.hid hz0; have HZ1 := Lib.hid hz1; have HZ2 := Lib.hid hz2
  obtain ⟨n, hn⟩ : ∃ n, n = xs.length := ⟨_, rfl⟩
  have HC := Lib.hid hc
  have HN := Lib.hid hn
  have hq := P7.not_nil a o n c
  rw [← hn] at hl ⊢
  clear hi hz0 hz1 hz2 hc hn
  go_enter Tryd.func84, Tryd.ntmps84
  have HA := Lib.hid ha
  have h0 : Hid ((w.alloc (.cells #[] 3)).ownsRow w.heap.size 3 1 (.slice (some ⟨w.heap.size, 0, none⟩) 0 0) 0 []) := Lib.hid (P7.own_empty w 3)
  clear ha
  go_wp2_with (at_builtin; refine wpList_append_own _ rfl (.tmp 5) (.tmp 6) 47 rfl w.heap.size 3 i0 (.int .i64 0) 1 8 Tryd.underlying47 HI.out HZ0.out HZ1.out HZ2.out rfl (by decide) _ _ _ rfl h0.out ⟨a, o, none⟩ n c (P7.intV xs) rfl ?c0 ?c1 ?c2 ?c3 ?c4 ?c5 ?_)
  case c0 => rw [HN.out]; simp [P7.intV]
  case c1 =>
    intro j u hu
    have hj : j < xs.length := by
      have := (List.getElem?_eq_some_iff.1 hu).1
      simpa [P7.intV] using this
    rw [P7.add_off, World.cell?_alloc_lt _ _ _ (by exact HA.out), HC.out j hj, ← hu]
    simp [P7.intV, hj]
  case c2 =>
    intro u hu
    simp only [P7.intV, List.mem_map] at hu
    obtain ⟨r, _, rfl⟩ := hu
    rfl
  case c3 => unfold maxLen; omega
  case c4 => omega
  case c5 => simp
  intro v' w1 hown hg _
  have HO : Hid (w1.ownsRow w.heap.size 3 1 v' n (P7.intV xs)) := Lib.hid (by simpa using hown)
  have HB : Hid (Below w.heap.size w w1) := Lib.hid (((Below.refl _ _).alloc (Nat.le_refl _) _).grown hg (by simp) (fun g h => by simp [Value.ownBlock] at h; omega))
  clear hown hg h0
  go_wp2
  go_ret
  exact ⟨_, rfl, HO.out, HB.out⟩

theorem info_rowT : (Tryd.prog.info? 47).map (fun i => (i.zero, i.size, i.bytes)) = some (some (.slice none 0 0), 1, 24) := by kernel_rfl
theorem not_nil2 (g n c : Nat) (W : World) : (binOp .eql 29 (.slice (some ⟨g, 0, none⟩) n c) (.slice none 0 0)).run Tryd.prog W = .ok (.bool false) W := by kernel_rfl

/-- The rows of a table, as values. -/
def RowsV (w : World) (l : List (List Nat)) (vs : List Value) : Prop := vs.length = l.length ∧ ∀ r, r < l.length → ∃ A c, vs[r]? = some (.slice A (l.getD r []).length c) ∧ P7.RowI w w.heap.size A (l.getD r [])
/-- slices.Clone of a table: its rows are shared. -/
theorem pclone_tab (g c : Nat) (l : List (List Nat)) (w : World) (hl : l.length ≤ 1000000) (hT : P7.TabT w (some ⟨g, 0, none⟩) l) :
    Calls Tryd.prog 83 #[.slice (some ⟨g, 0, none⟩) l.length c] w fun e w' => ∃ v vs, e = .returned v ∧ w'.ownsRow w.heap.size 47 1 v l.length vs ∧ RowsV w' l vs ∧ Below w.heap.size w w' := by
  obtain ⟨i0, hi, hz0, hz1, hz2⟩ := info_parts info_rowT
  have HI := Lib.hid hi; have HZ0 := Lib.hid hz0; have HZ1 := Lib.hid hz1; have HZ2 := Lib.hid hz2
  have HV : Hid (∃ vs, RowsV w l vs ∧ (∀ j u, vs[j]? = some u → w.cell? ⟨g, j, none⟩ = some u ∧ u.oneCell' = true) ∧ (0 < l.length → g < w.heap.size)) := Lib.hid (by
    by_cases hp : 0 < l.length
    · obtain ⟨g', e, ⟨cur, hc⟩, hr⟩ := hT hp
      cases e
      refine ⟨(List.range l.length).map fun r => (w.cell? ⟨g, r, none⟩).getD undef, ⟨by simp, fun r hr' => ?_⟩, fun j u hu => ?_, fun _ => (Array.getElem?_eq_some_iff.1 hc).1⟩
      · obtain ⟨A, c, e1, e2⟩ := hr r hr'
        exact ⟨A, c, by simp [hr', e1], e2⟩
      · have hj : j < l.length := by
          have := (List.getElem?_eq_some_iff.1 hu).1
          simpa using this
        obtain ⟨A, c, e1, e2⟩ := hr j hj
        have hu2 : (w.cell? ⟨g, j, none⟩).getD undef = u := by
          rw [List.getElem?_map, List.getElem?_range hj] at hu
          exact Option.some.inj hu
        rw [e1] at hu2
        have hu3 : Value.slice A (l.getD j []).length c = u := hu2
        subst hu3
        exact ⟨e1, rfl⟩
    · have : l = [] := List.eq_nil_of_length_eq_zero (by omega)
      subst this
      exact ⟨[], ⟨rfl, fun r hr => absurd hr (by simp)⟩, fun j u hu => by simp at hu, fun h => absurd h (by simp)⟩)
  obtain ⟨vs, hvs, hcell, hgl⟩ := HV.out
  have HVS := Lib.hid hvs
  have HCe := Lib.hid hcell
  have HG := Lib.hid hgl
  obtain ⟨n, hn⟩ : ∃ n, n = l.length := ⟨_, rfl⟩
  have HN := Lib.hid hn
  have hq := not_nil2 g n c
  rw [← hn] at hl ⊢
  clear hi hz0 hz1 hz2 hn HV hvs hcell hgl hT
  go_enter Tryd.func83, Tryd.ntmps83
  have h0 : Hid ((w.alloc (.cells #[] 47)).ownsRow w.heap.size 47 1 (.slice (some ⟨w.heap.size, 0, none⟩) 0 0) 0 []) := Lib.hid (P7.own_empty w 47)
  go_wp2_with (at_builtin; refine wpList_append_own _ rfl (.tmp 5) (.tmp 6) 29 rfl w.heap.size 47 i0 (.slice none 0 0) 1 24 Tryd.underlying29 HI.out HZ0.out HZ1.out HZ2.out rfl (by decide) _ _ _ rfl h0.out ⟨g, 0, none⟩ n c vs rfl ?c0 ?c1 ?c2 ?c3 ?c4 ?c5 ?_)
  case c0 => have := HVS.out.1; have := HN.out; omega
  case c1 =>
    intro j u hu
    have hj : j < vs.length := (List.getElem?_eq_some_iff.1 hu).1
    have hg : g < w.heap.size := HG.out (by have := HVS.out.1; omega)
    rw [P7.add_zero, World.cell?_alloc_lt _ _ _ (by exact hg)]
    exact (HCe.out j u hu).1
  case c2 =>
    intro u hu
    obtain ⟨j, hj, e⟩ := List.getElem_of_mem hu
    exact (HCe.out j u (by rw [List.getElem?_eq_getElem hj, e])).2
  case c3 => unfold maxLen; omega
  case c4 => omega
  case c5 => simp
  intro v' w1 hown hg _
  have HO : Hid (w1.ownsRow w.heap.size 47 1 v' n vs) := Lib.hid (by simpa using hown)
  have HB : Hid (Below w.heap.size w w1) := Lib.hid (((Below.refl _ _).alloc (Nat.le_refl _) _).grown hg (by simp) (fun g h => by simp [Value.ownBlock] at h; omega))
  clear hown hg h0
  go_wp2
  go_ret
  refine ⟨_, vs, rfl, HO.out, ⟨HVS.out.1, fun r hr => ?_⟩, HB.out⟩
  obtain ⟨A, c, e1, e2⟩ := HVS.out.2 r hr
  exact ⟨A, c, e1, e2.block (fun a ha => HB.out.block _ (e2.typ a ha).1) HB.out.size⟩
end Go.Proofs.YtfekjlajagoooaaDoor
