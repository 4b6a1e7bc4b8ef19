/- Layer 9: what the rows' list of package variables gives: the program's table as the walks read it; a start's memory that meets the list. -/
import Derived.Test.YtablkipcngbkjaaDoorRows
import Derived.Test.YtablkipcngbkjaaDoorWdA
import Derived.Lib.LaidU8
import Derived.Lay
import Derived.LaidMore
import Derived.Stop.Joined
import Derived.ProofKit
namespace Go.Proofs.YtablkipcngbkjaaDoor
open Go.RowKit Go.Lib Wid

def rowData (x : Int × Int × Int) : DataW Unit := .agg [.lit (.int .i32 x.1), .lit (.int .i32 x.2.1), .lit (.int .i64 x.2.2)]
theorem tab_data : (Rows.laid_jalousie_width_bounds : DataW Unit) = .slice (proT.map rowData) [] := by kernel_rfl

/-- A struct of integers, kind by kind, that reads as these numbers holds them. -/
theorem kinds_of_struct {H : Type} {enc : TypeId × Value → H} {P : Program} {w : World} {base : Nat} {sp : Nat → Bool} {held : Bool} {fuel : Nat} {t : TypeId} {fs : Array Field} {cs : List Value} {zs : List (IntKind × Int)} {p : List MemPlace} (ht : P.underlying t = some (.struct fs))
    (hf : ∀ (i : Nat) (f : Field) (z : IntKind × Int), fs[i]? = some f → zs[i]? = some z → P.underlying f.type = some (.int z.1) ∧ f.offset = i ∧ P.cellsOf f.type = 1) (hct : P.cellsOf t = fs.size)
    (h : DataW.trod enc P w base sp held fuel t cs = some (.agg (zs.map fun z => .lit (.int z.1 z.2)), p)) : cs = zs.map fun z => Value.int z.1 z.2 := by
  obtain ⟨xs, n, rfl, hx, hl, hxl, hall⟩ := DataW.trod_struct ht h
  have hxs : xs.map (·.1) = zs.map fun z => (DataW.lit (.int z.1 z.2) : DataW H) := by
    have := congrArg Prod.fst hx
    simpa using this.symm
  have hzl : zs.length = fs.size := by
    have := congrArg List.length hxs
    simp at this
    omega
  apply List.ext_getElem?
  intro i
  by_cases hi : i < fs.size
  · have hzi : zs[i]? = some zs[i] := List.getElem?_eq_getElem (by omega)
    obtain ⟨hu, ho, hc⟩ := hf i fs[i] zs[i] (by simp [hi]) hzi
    have h1 := hall i fs[i] (by simp [hi])
    obtain ⟨b, hb⟩ : ∃ b, xs[i]? = some b := ⟨xs[i]'(by omega), List.getElem?_eq_getElem (by omega)⟩
    rw [hb, ho, hc] at h1
    obtain ⟨z, hcz, hz, _⟩ := DataW.trod_int hu h1
    have h2 : cs[i]? = some (.int zs[i].1 z) := by
      have := congrArg (·[0]?) hcz
      simpa [List.getElem?_take, List.getElem?_drop] using this
    have h3 : (xs.map (·.1))[i]? = some (DataW.lit (.int zs[i].1 z) : DataW H) := by simp [hb, hz]
    rw [hxs, List.getElem?_map, hzi] at h3
    simp only [Option.map_some, Option.some.injEq, DataW.lit.injEq, Lit.int.injEq, true_and] at h3
    rw [h2, List.getElem?_map, hzi, Option.map_some, h3]
  · rw [List.getElem?_eq_none (by omega), List.getElem?_eq_none (by simp; omega)]

theorem row_kinds {W : World} {fuel : Nat} {cs : List Value} {x : Int × Int × Int} {p : List MemPlace} (h : DataW.trod (fun _ => ()) Tryd.prog W 0 (fun _ => true) false fuel 34 cs = some (rowData x, p)) : cs = [.int .i32 x.1, .int .i32 x.2.1, .int .i64 x.2.2] := by
  refine kinds_of_struct (zs := [(.i32, x.1), (.i32, x.2.1), (.i64, x.2.2)]) (p := p) Tryd.underlying34 (fun i f z hi hz => ?_) (by kernel_rfl) h
  match i, hi, hz with
  | 0, hi, hz => simp at hi hz; subst hi hz; exact ⟨Tryd.underlying21, rfl, by kernel_rfl⟩
  | 1, hi, hz => simp at hi hz; subst hi hz; exact ⟨Tryd.underlying21, rfl, by kernel_rfl⟩
  | 2, hi, hz => simp at hi hz; subst hi hz; exact ⟨Tryd.underlying3, rfl, by kernel_rfl⟩
  | i + 3, hi, hz => simp at hz

theorem cells_row : Tryd.prog.cellsOf 34 = 3 := by kernel_rfl

theorem spot_no {w : World} {a : Addr} {v : Value} (h : w.cell? a = some v) : a = ⟨a.block, a.off, none⟩ ∧ a.block < w.heap.size := by
  have hs := World.cell?_spot h
  obtain ⟨b, o, s⟩ := a
  dsimp only at hs
  subst hs
  refine ⟨rfl, ?_⟩
  rcases Nat.lt_or_ge b w.heap.size with hl | hg
  · exact hl
  · simp [World.cell?, Array.getElem?_eq_none hg] at h

theorem vars_of {W : World} (h : laidMetH Tryd.prog Rows.widthTellsRow.laid W) : WTab W := by
  rw [MakeChecks.laidMetH_plain _ _ _ (by kernel_rfl)] at h
  obtain ⟨g, t, cs, fuel, p, hg, hty, hvar, hd⟩ := laidMet.reads h (n := "jalousie/width.bounds") (d := Rows.laid_jalousie_width_bounds) (by simp [Rows.widthTellsRow])
  obtain rfl := Option.some.inj ((show Tryd.prog.globalNamed "jalousie/width.bounds" = some 0 by kernel_rfl).symm.trans hg)
  obtain rfl := Option.some.inj ((show (Tryd.prog.globals[0]?).map (·.type) = some 33 by kernel_rfl).symm.trans hty)
  rw [tab_data] at hd
  rcases DataW.trod_slice Tryd.underlying33 hd with ⟨_, hx'⟩ | ⟨a, len, cap, el, rs, m, rfl, hcs, hx', _, _, _, hel, helem, _, _⟩
  · cases hx'
  · have eE : proT.map rowData = el.map (·.1) := by
      have := congrArg Prod.fst hx'
      simp only [DataW.slice.injEq] at this
      exact this.1
    have hlen : len = 26 := by
      have := congrArg List.length eE
      rw [List.length_map, List.length_map, show proT.length = 26 by kernel_rfl] at this
      omega
    subst hlen
    have each : ∀ k (hk : k < proT.length) j, j < 3 → W.cell? ((a.add (k * 3)).add j) = ([.int .i32 proT[k].1, .int .i32 proT[k].2.1, .int .i64 proT[k].2.2] : List Value)[j]? := by
      intro k hk j hj
      have hk' : k < 26 := by rwa [show proT.length = 26 by kernel_rfl] at hk
      have h1 := helem k hk'
      rw [cells_row] at h1
      obtain ⟨b, hb⟩ : ∃ b, el[k]? = some b := ⟨el[k]'(by omega), List.getElem?_eq_getElem (by omega)⟩
      rw [hb] at h1
      obtain ⟨ce, hce, hte⟩ := Option.bind_eq_some_iff.1 h1
      have hb1 : b.1 = rowData proT[k] := by
        have h2 : (proT.map rowData)[k]? = (el.map (·.1))[k]? := by rw [eE]
        rw [List.getElem?_map, List.getElem?_map, hb, List.getElem?_eq_getElem hk] at h2
        exact (Option.some.inj h2).symm
      obtain ⟨_, _, hcc⟩ := World.cells?_some hce
      have e := row_kinds (cs := ce) (x := proT[k]) (p := b.2) (by rw [← hb1]; exact hte)
      exact (hcc j hj).trans (congrArg (fun l : List Value => l[j]?) e)
    have h0 := each 0 (by rw [show proT.length = 26 by kernel_rfl]; omega) 0 (by omega)
    obtain ⟨hs, hlt⟩ := spot_no (v := .int .i32 proT[0].1) (a := (a.add (0 * 3)).add 0) h0
    have ha : a = ⟨a.block, a.off, none⟩ := by
      obtain ⟨b, o, s⟩ := a
      cases s with
      | none => rfl
      | some q => simp [Addr.add] at hs
    obtain ⟨R, o, s⟩ := a
    obtain rfl : s = none := by simpa using ha
    have hgl : W.cell? ⟨0, 0, none⟩ = some (.slice (some ⟨R, o, none⟩) 26 cap) := by
      rw [World.var?_cell hg hvar 0, ← Array.getElem?_toList, hcs]
      rfl
    refine ⟨(spot_no hgl).2, R, o, cap, by simpa [Addr.add] using hlt, hgl, fun k hk => ?_⟩
    · have k0 := each k hk 0 (by omega)
      have k1 := each k hk 1 (by omega)
      have k2 := each k hk 2 (by omega)
      rw [add_off, add_off] at k0 k1 k2
      exact ⟨by simpa using k0, by simpa using k1, by simpa using k2⟩

theorem door_met (os : Os) (args : Array Value) : laidMetH Tryd.prog Rows.widthTellsRow.laid ((World.doorLaid Tryd.prog 200 os).forCall (fun _ _ => 0) ⟨#[], args, []⟩).memory :=
  laidMetH_of_parts3 (fuel := 8) (laidMet_of_run' 8 (by kernel_rfl) (by kernel_rfl)) (by kernel_rfl) (by kernel_rfl)

end Go.Proofs.YtablkipcngbkjaaDoor
