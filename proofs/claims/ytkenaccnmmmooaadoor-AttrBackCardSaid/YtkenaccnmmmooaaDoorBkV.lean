/- Layer 10: what AttrBack's row's list of package variables gives: the library's table as Itoa reads it, the program's numbers, unicode/utf8's two tables. -/
import Derived.Test.YtkenaccnmmmooaaDoorRows
import Derived.Test.YtkenaccnmmmooaaDoorAtU
import Derived.Test.YtkenaccnmmmooaaDoorF5DcA
import Derived.Lib.LaidU8T
import Derived.PinnedBridge
import Derived.Lay
import Derived.Lib.ConvBytes
import Derived.Lib.LaidTab
import Derived.LaidMore
import Derived.Stop.Joined
import Derived.ProofKit
namespace Go.Proofs.YtkenaccnmmmooaaDoor
open Go.RowKit

def tabRen : Go.Shelf.Ren := ⟨fun n => n, fun | 5 => 5 | 119 => 118 | 138 => 120 | 139 => 121 | n => n, fun | 3 => 2 | 4 => 3 | n => n⟩

theorem tabTypes : U8Types Tryd.prog tabRen := ⟨Tryd.underlying5, Tryd.underlying118, Tryd.underlying120, Tryd.underlying121⟩
theorem tabExtra : U8Extra Tryd.prog tabRen := ⟨by kernel_rfl, by kernel_rfl, by kernel_rfl, by kernel_rfl, by kernel_rfl, by kernel_rfl, by kernel_rfl⟩
theorem acc_data : (Rows.laid_unicode_utf8_acceptRanges : DataW Unit) = Lib.acceptData := by kernel_rfl
theorem pow_data : (Rows.laid_internal_strconv_uint64pow10 : DataW Unit) = Lib.tabData .u64 Lib.pow10Tab := by kernel_rfl
theorem num_data : (Rows.laid_jalousie_attr_numbers : DataW Unit) = Lib.tabData .i64 A10.numL := by kernel_rfl

def BkVars (w : World) : Prop := A10.Vars w ∧ A10.Nums w ∧ D5.Tabs w
theorem vars_of {W : World} (h : laidMetH Tryd.prog Rows.attrBackRow.laid W) : BkVars W := by
  rw [MakeChecks.laidMetH_plain _ _ _ (by kernel_rfl)] at h
  refine ⟨?_, ?_, ?_⟩
  · obtain ⟨g2, t2, cs2, f2, p2, hg2, ht2, hv2, hd2⟩ := Lib.laidMet.reads h (n := "internal/strconv.uint64pow10") (d := Rows.laid_internal_strconv_uint64pow10) (by simp [Rows.attrBackRow])
    obtain rfl := Option.some.inj ((show Tryd.prog.globalNamed "internal/strconv.uint64pow10" = some 1 by kernel_rfl).symm.trans hg2)
    obtain rfl := Option.some.inj ((show (Tryd.prog.globals[1]?).map (·.type) = some 106 by kernel_rfl).symm.trans ht2)
    unfold A10.Vars Lib.TabIs
    rw [hv2, ← Lib.cells_of_tab Tryd.underlying106 Tryd.underlying87 (by kernel_rfl) (by kernel_rfl) (hd2.trans (congrArg (fun d => some (d, p2)) pow_data))]
  · obtain ⟨g2, t2, cs2, f2, p2, hg2, ht2, hv2, hd2⟩ := Lib.laidMet.reads h (n := "jalousie/attr.numbers") (d := Rows.laid_jalousie_attr_numbers) (by simp [Rows.attrBackRow])
    obtain rfl := Option.some.inj ((show Tryd.prog.globalNamed "jalousie/attr.numbers" = some 0 by kernel_rfl).symm.trans hg2)
    obtain rfl := Option.some.inj ((show (Tryd.prog.globals[0]?).map (·.type) = some 37 by kernel_rfl).symm.trans ht2)
    have e := Lib.cells_of_tab Tryd.underlying37 Tryd.underlying3 (by kernel_rfl) (by kernel_rfl) (hd2.trans (congrArg (fun d => some (d, p2)) num_data))
    intro i hi
    rw [World.var?_cell hg2 hv2 i, ← Array.getElem?_toList, e, List.getElem?_map]
    have hl : i < A10.numL.length := hi
    rw [List.getElem?_eq_getElem hl]
    unfold A10.numA
    rw [List.getD_eq_getElem?_getD, List.getElem?_eq_getElem hl]
    rfl
  · have h1 := Lib.laidMet.reads h (n := "unicode/utf8.first") (d := Rows.laid_unicode_utf8_first) (by simp [Rows.attrBackRow])
    have h2 := Lib.laidMet.reads h (n := "unicode/utf8.acceptRanges") (d := Rows.laid_unicode_utf8_acceptRanges) (by simp [Rows.attrBackRow])
    rw [acc_data] at h2
    rw [show (Rows.laid_unicode_utf8_first : DataW Unit) = Lib.firstData from Pinned.utf8First_eq] at h1
    exact utf8Tabs_of_readsT tabTypes tabExtra h1 h2

end Go.Proofs.YtkenaccnmmmooaaDoor
