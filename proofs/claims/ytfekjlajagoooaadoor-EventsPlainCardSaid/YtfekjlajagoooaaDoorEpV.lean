/- Layer 8: what the rows' list of package variables gives: unicode/utf8's two tables as the walks read them; a start's memory that meets the list. -/
import Derived.Test.YtfekjlajagoooaaDoorRows
import Derived.Test.YtfekjlajagoooaaDoorF5DcA
import Derived.Lib.LaidU8T
import Derived.PinnedBridge
import Derived.Lay
import Derived.LaidMore
import Derived.Stop.Joined
import Derived.ProofKit
namespace Go.Proofs.YtfekjlajagoooaaDoor
open Go.RowKit Go.Lib

def tabRen : Go.Shelf.Ren := ⟨fun n => n, fun | 5 => 5 | 119 => 134 | 138 => 136 | 139 => 137 | n => n, fun | 3 => 1 | 4 => 2 | n => n⟩

theorem tabTypes : U8Types Tryd.prog tabRen := ⟨Tryd.underlying5, Tryd.underlying134, Tryd.underlying136, Tryd.underlying137⟩
theorem tabExtra : U8Extra Tryd.prog tabRen := ⟨by kernel_rfl, by kernel_rfl, by kernel_rfl, by kernel_rfl, by kernel_rfl, by kernel_rfl, by kernel_rfl⟩

theorem acc_data : (Rows.laid_unicode_utf8_acceptRanges : DataW Unit) = acceptData := by kernel_rfl

theorem vars_of {W : World} (h : laidMetH Tryd.prog Rows.eventsSameRow.laid W) : D5.Tabs W := by
  rw [MakeChecks.laidMetH_plain _ _ _ (by kernel_rfl)] at h
  have h1 := laidMet.reads h (n := "unicode/utf8.first") (d := Rows.laid_unicode_utf8_first) (by simp [Rows.eventsSameRow])
  have h2 := laidMet.reads h (n := "unicode/utf8.acceptRanges") (d := Rows.laid_unicode_utf8_acceptRanges) (by simp [Rows.eventsSameRow])
  rw [acc_data] at h2
  rw [show (Rows.laid_unicode_utf8_first : DataW Unit) = firstData from Pinned.utf8First_eq] at h1
  exact utf8Tabs_of_readsT tabTypes tabExtra h1 h2

end Go.Proofs.YtfekjlajagoooaaDoor
