/- Layer 10: what a row's list of package variables gives: the library's table as Itoa reads it, the program's numbers; the start's memory meets the list. -/
import Derived.Test.YtjmojhohecbipaaDoorRows
import Derived.Test.YtjmojhohecbipaaDoorAtU
import Derived.Lib.ConvBytes
import Derived.Lib.LaidTab
import Derived.LaidMore
import Derived.Lib.LaidU8
import Derived.Stop.Joined
import Derived.ProofKit
namespace Go.Proofs.YtjmojhohecbipaaDoor
open Go.RowKit

def AtVars (w : World) : Prop := A10.Vars w ∧ A10.Nums w
theorem pow_data : (Rows.laid_internal_strconv_uint64pow10 : DataW Unit) = Lib.tabData .u64 Lib.pow10Tab := by kernel_rfl
theorem num_data : (Rows.laid_jalousie_attr_numbers : DataW Unit) = Lib.tabData .i64 A10.numL := by kernel_rfl
theorem vars_of {W : World} (h : laidMetH Tryd.prog Rows.attrBetweenRow.laid W) : AtVars W := by
  rw [MakeChecks.laidMetH_plain _ _ _ (by kernel_rfl)] at h
  constructor
  · obtain ⟨g2, t2, cs2, f2, p2, hg2, ht2, hv2, hd2⟩ := Lib.laidMet.reads h (n := "internal/strconv.uint64pow10") (d := Rows.laid_internal_strconv_uint64pow10) (by simp [Rows.attrBetweenRow])
    obtain rfl := Option.some.inj ((show Tryd.prog.globalNamed "internal/strconv.uint64pow10" = some 1 by kernel_rfl).symm.trans hg2)
    obtain rfl := Option.some.inj ((show (Tryd.prog.globals[1]?).map (·.type) = some 71 by kernel_rfl).symm.trans ht2)
    unfold A10.Vars Lib.TabIs
    rw [hv2, ← Lib.cells_of_tab Tryd.underlying71 Tryd.underlying65 (by kernel_rfl) (by kernel_rfl) (hd2.trans (congrArg (fun d => some (d, p2)) pow_data))]
  · obtain ⟨g2, t2, cs2, f2, p2, hg2, ht2, hv2, hd2⟩ := Lib.laidMet.reads h (n := "jalousie/attr.numbers") (d := Rows.laid_jalousie_attr_numbers) (by simp [Rows.attrBetweenRow])
    obtain rfl := Option.some.inj ((show Tryd.prog.globalNamed "jalousie/attr.numbers" = some 0 by kernel_rfl).symm.trans hg2)
    obtain rfl := Option.some.inj ((show (Tryd.prog.globals[0]?).map (·.type) = some 45 by kernel_rfl).symm.trans ht2)
    have e := Lib.cells_of_tab Tryd.underlying45 Tryd.underlying3 (by kernel_rfl) (by kernel_rfl) (hd2.trans (congrArg (fun d => some (d, p2)) num_data))
    intro i hi
    rw [World.var?_cell hg2 hv2 i, ← Array.getElem?_toList, e, List.getElem?_map]
    have hl : i < A10.numL.length := hi
    rw [List.getElem?_eq_getElem hl]
    unfold A10.numA
    rw [List.getD_eq_getElem?_getD, List.getElem?_eq_getElem hl]
    rfl
theorem door_met (os : Os) (args : Array Value) : laidMetH Tryd.prog Rows.attrBetweenRow.laid ((World.doorLaid Tryd.prog 200 os).forCall (fun _ _ => 0) ⟨#[], args, []⟩).memory :=
  laidMetH_of_parts3 (fuel := 8) (laidMet_of_run' 8 (by kernel_rfl) (by kernel_rfl)) (by kernel_rfl) (by kernel_rfl)
end Go.Proofs.YtjmojhohecbipaaDoor
