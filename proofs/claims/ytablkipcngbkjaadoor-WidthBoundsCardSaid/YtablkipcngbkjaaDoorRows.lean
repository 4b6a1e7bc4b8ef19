/-
  NARROWER THAN 'FOR EVERY INPUT', by the rows' own cells (each row's printed sentence says how): WidthBounds: laid · WidthTells: laid · WidthTexts: laid · WidthCuts: laid.
  DERIVED. THE GIVEN ROWS OF THIS SEAT. 4 by the template 'for every input the law returns true; each argument reads behind the call as it read before'; 0 by the template 'total and deterministic' (their statements: YtablkipcngbkjaaDoorTotals.lean).
  GIVEN WITH THE SEED: the statements are not yours to turn. If you find one false, say at which input.
  Laid BY PROGRAM, IN A SANDBOX (cutbox-rows.mjs): the forced cells as the released guide's own fill.sh prints them over the translation b399e210f02c621e… (all of the seat's roots in one cut). By AI agents, Wed Nov 11 2026. No macro, syntax, notation, axiom, sorry.
-/
import Derived.Test.YtablkipcngbkjaaDoorChecked
import GoSem.Claim
import GoSem.ClaimJoined
import GoSem.ClaimMapViews
import Derived.JoinedTies
import Derived.KernelRfl
namespace Go.Proofs.YtablkipcngbkjaaDoor
/- THE CELL 'sum', in the pinned program and in every row, IS THE sha256 OF THE DUMP (.gsa) THAT YtablkipcngbkjaaDoorProg.lean LOADS. Nothing in Lean hashes anything: it is a label: what it is worth is what the hold of that sum in a sandbox is worth. -/
noncomputable def Tryd.pinned : Pinned := { name := "ytablkipcngbkjaadoor", sum := "b399e210f02c621e4e990f63514cd166949c4c9f916893581be59181e03972e0", checked := Tryd.checked }
namespace Rows
def none {H : Type} : Left H := { results := [], args := [] }

/- WHAT THE LISTED PACKAGE-LEVEL VARIABLES READ AS WHEN THE CALL BEGINS. Each datum BY PROGRAM (the guide's laid-datum.mjs) off the statement by which the dump's own 'gosem.cut.vars' lays the variable. In a bare row this is a premise. The card (YtablkipcngbkjaaDoorCards.lean) ties it to the program's text. -/
def laid_jalousie_width_bounds {H : Type} : DataW H := .slice [.agg [.lit (.int .i32 0), .lit (.int .i32 31), .lit (.int .i64 0)], .agg [.lit (.int .i32 127), .lit (.int .i32 159), .lit (.int .i64 0)], .agg [.lit (.int .i32 768), .lit (.int .i32 879), .lit (.int .i64 0)], .agg [.lit (.int .i32 1155), .lit (.int .i32 1161), .lit (.int .i64 0)], .agg [.lit (.int .i32 1425), .lit (.int .i32 1469), .lit (.int .i64 0)], .agg [.lit (.int .i32 1552), .lit (.int .i32 1562), .lit (.int .i64 0)], .agg [.lit (.int .i32 1611), .lit (.int .i32 1631), .lit (.int .i64 0)], .agg [.lit (.int .i32 4352), .lit (.int .i32 4447), .lit (.int .i64 2)], .agg [.lit (.int .i32 8203), .lit (.int .i32 8207), .lit (.int .i64 0)], .agg [.lit (.int .i32 8400), .lit (.int .i32 8447), .lit (.int .i64 0)], .agg [.lit (.int .i32 11904), .lit (.int .i32 12350), .lit (.int .i64 2)], .agg [.lit (.int .i32 12353), .lit (.int .i32 13311), .lit (.int .i64 2)], .agg [.lit (.int .i32 13312), .lit (.int .i32 19903), .lit (.int .i64 2)], .agg [.lit (.int .i32 19968), .lit (.int .i32 40959), .lit (.int .i64 2)], .agg [.lit (.int .i32 40960), .lit (.int .i32 42191), .lit (.int .i64 2)], .agg [.lit (.int .i32 44032), .lit (.int .i32 55203), .lit (.int .i64 2)], .agg [.lit (.int .i32 63744), .lit (.int .i32 64255), .lit (.int .i64 2)], .agg [.lit (.int .i32 65024), .lit (.int .i32 65039), .lit (.int .i64 0)], .agg [.lit (.int .i32 65056), .lit (.int .i32 65071), .lit (.int .i64 0)], .agg [.lit (.int .i32 65072), .lit (.int .i32 65135), .lit (.int .i64 2)], .agg [.lit (.int .i32 65280), .lit (.int .i32 65376), .lit (.int .i64 2)], .agg [.lit (.int .i32 65504), .lit (.int .i32 65510), .lit (.int .i64 2)], .agg [.lit (.int .i32 127744), .lit (.int .i32 128591), .lit (.int .i64 2)], .agg [.lit (.int .i32 129280), .lit (.int .i32 129535), .lit (.int .i64 2)], .agg [.lit (.int .i32 131072), .lit (.int .i32 262141), .lit (.int .i64 2)], .agg [.lit (.int .i32 917760), .lit (.int .i32 917999), .lit (.int .i64 0)]] []

/-- 'jalousielaw09.WidthBounds': WHATEVER THE INPUT: true; the input reads as it did. -/
def widthBoundsSpec : ChangeSpec := { name := "widthBounds", fn := fun _ => fun
  | [] => { results := [.lit (.bool true)], args := [] }
  | _ => none }
def widthBoundsRow : OpenClaim := { program := "ytablkipcngbkjaadoor", sum := "b399e210f02c621e4e990f63514cd166949c4c9f916893581be59181e03972e0", func := "jalousie/jalousielaw09.WidthBounds", spec := "widthBounds", named := ["jalousie/width.bounds"], apart := false, laid := [("jalousie/width.bounds", laid_jalousie_width_bounds)] }
def WidthBoundsSaid : Prop := widthBoundsRow.holds Tryd.pinned (OpenSpec.ofChange widthBoundsSpec)

/-- ITS FALSE NEIGHBOUR: 'it returns false'. Refute it at one input. -/
def widthBoundsWrong : ChangeSpec := { name := "widthBounds", fn := fun _ => fun
  | [] => { results := [.lit (.bool false)], args := [] }
  | _ => none }
def WidthBoundsWrongFalsely : Prop := widthBoundsRow.holds Tryd.pinned (OpenSpec.ofChange widthBoundsWrong)

/-- 'jalousielaw09.WidthTells': WHATEVER THE INPUT: true; the input reads as it did. -/
def widthTellsSpec : ChangeSpec := { name := "widthTells", fn := fun _ => fun
  | [d] => { results := [.lit (.bool true)], args := [d] }
  | _ => none }
def widthTellsRow : OpenClaim := { program := "ytablkipcngbkjaadoor", sum := "b399e210f02c621e4e990f63514cd166949c4c9f916893581be59181e03972e0", func := "jalousie/jalousielaw09.WidthTells", spec := "widthTells", named := ["jalousie/width.bounds"], apart := false, laid := [("jalousie/width.bounds", laid_jalousie_width_bounds)] }
def WidthTellsSaid : Prop := widthTellsRow.holds Tryd.pinned (OpenSpec.ofChange widthTellsSpec)

/-- ITS FALSE NEIGHBOUR: 'it returns false'. Refute it at one input. -/
def widthTellsWrong : ChangeSpec := { name := "widthTells", fn := fun _ => fun
  | [d] => { results := [.lit (.bool false)], args := [d] }
  | _ => none }
def WidthTellsWrongFalsely : Prop := widthTellsRow.holds Tryd.pinned (OpenSpec.ofChange widthTellsWrong)

/-- 'jalousielaw09.WidthTexts': WHATEVER THE INPUT: true; the input reads as it did. -/
def widthTextsSpec : ChangeSpec := { name := "widthTexts", fn := fun _ => fun
  | [d1, d2] => { results := [.lit (.bool true)], args := [d1, d2] }
  | _ => none }
def widthTextsRow : OpenClaim := { program := "ytablkipcngbkjaadoor", sum := "b399e210f02c621e4e990f63514cd166949c4c9f916893581be59181e03972e0", func := "jalousie/jalousielaw09.WidthTexts", spec := "widthTexts", named := ["jalousie/width.bounds"], apart := false, laid := [("jalousie/width.bounds", laid_jalousie_width_bounds)] }
def WidthTextsSaid : Prop := widthTextsRow.holds Tryd.pinned (OpenSpec.ofChange widthTextsSpec)

/-- ITS FALSE NEIGHBOUR: 'it returns false'. Refute it at one input. -/
def widthTextsWrong : ChangeSpec := { name := "widthTexts", fn := fun _ => fun
  | [d1, d2] => { results := [.lit (.bool false)], args := [d1, d2] }
  | _ => none }
def WidthTextsWrongFalsely : Prop := widthTextsRow.holds Tryd.pinned (OpenSpec.ofChange widthTextsWrong)

/-- 'jalousielaw09.WidthCuts': WHATEVER THE INPUT: true; the input reads as it did. -/
def widthCutsSpec : ChangeSpec := { name := "widthCuts", fn := fun _ => fun
  | [d1, d2, d3] => { results := [.lit (.bool true)], args := [d1, d2, d3] }
  | _ => none }
def widthCutsRow : OpenClaim := { program := "ytablkipcngbkjaadoor", sum := "b399e210f02c621e4e990f63514cd166949c4c9f916893581be59181e03972e0", func := "jalousie/jalousielaw09.WidthCuts", spec := "widthCuts", named := ["jalousie/width.bounds"], apart := false, laid := [("jalousie/width.bounds", laid_jalousie_width_bounds)] }
def WidthCutsSaid : Prop := widthCutsRow.holds Tryd.pinned (OpenSpec.ofChange widthCutsSpec)

/-- ITS FALSE NEIGHBOUR: 'it returns false'. Refute it at one input. -/
def widthCutsWrong : ChangeSpec := { name := "widthCuts", fn := fun _ => fun
  | [d1, d2, d3] => { results := [.lit (.bool false)], args := [d1, d2, d3] }
  | _ => none }
def WidthCutsWrongFalsely : Prop := widthCutsRow.holds Tryd.pinned (OpenSpec.ofChange widthCutsWrong)

/- THE SECOND FORM. 'bulk': how many values and letters a reading holds, each counted each time it is reached (what is shared counts as often as it is met; a slice's spare places count too). A statement '..UptoSaid' is the law's where the arguments, and the package variables that the reading takes, are together of bulk at most 1048576: NARROWER than '..Said'. Prove '..Said' where nothing that the law and all that it calls make is longer than what came in: it says more and counts as full. Else prove '..UptoSaid'. A law counts once. -/
mutual
def uptoBulk {H : Type} : DataW H → Nat
  | .lit (.string bytes) => bytes.length + 1
  | .lit _ => 1
  | .nil => 1
  | .ptr d => uptoBulk d + 1
  | .slice elems spare => uptoBulkAll elems + uptoBulkAll spare + 1
  | .agg parts => uptoBulkAll parts + 1
  | .iface _ d => uptoBulk d + 1
  | .map entries => uptoBulkEntries entries + 1
  | .held _ => 1
def uptoBulkAll {H : Type} : List (DataW H) → Nat
  | [] => 0
  | d :: r => uptoBulk d + uptoBulkAll r
def uptoBulkEntries {H : Type} : List (Lit × DataW H) → Nat
  | [] => 0
  | x :: r => uptoBulkEntry x + uptoBulkEntries r
def uptoBulkEntry {H : Type} : Lit × DataW H → Nat
  | (.string bytes, d) => bytes.length + uptoBulk d + 1
  | (_, d) => uptoBulk d + 1
 end
def uptoSmall : (H : Type) → List (DataW H) → Bool := fun _ ds => decide (uptoBulkAll ds ≤ 1048576)
def OpenSpec.upto (s : _root_.Go.ChangeSpec) : _root_.Go.OpenSpec := { _root_.Go.OpenSpec.ofChange s with cond := some uptoSmall }

/-- 'jalousielaw09.WidthBounds', WHERE WHAT IT READS IS OF BULK AT MOST 1048576: true; the input reads as it did. -/
def widthBoundsUptoRow : OpenClaim := { program := "ytablkipcngbkjaadoor", sum := "b399e210f02c621e4e990f63514cd166949c4c9f916893581be59181e03972e0", func := "jalousie/jalousielaw09.WidthBounds", spec := "widthBounds", named := ["jalousie/width.bounds"], apart := false, laid := [("jalousie/width.bounds", laid_jalousie_width_bounds)], narrowed := true }
def WidthBoundsUptoSaid : Prop := widthBoundsUptoRow.holds Tryd.pinned (OpenSpec.upto widthBoundsSpec)

/-- 'jalousielaw09.WidthTells', WHERE WHAT IT READS IS OF BULK AT MOST 1048576: true; the input reads as it did. -/
def widthTellsUptoRow : OpenClaim := { program := "ytablkipcngbkjaadoor", sum := "b399e210f02c621e4e990f63514cd166949c4c9f916893581be59181e03972e0", func := "jalousie/jalousielaw09.WidthTells", spec := "widthTells", named := ["jalousie/width.bounds"], apart := false, laid := [("jalousie/width.bounds", laid_jalousie_width_bounds)], narrowed := true }
def WidthTellsUptoSaid : Prop := widthTellsUptoRow.holds Tryd.pinned (OpenSpec.upto widthTellsSpec)

/-- 'jalousielaw09.WidthTexts', WHERE WHAT IT READS IS OF BULK AT MOST 1048576: true; the input reads as it did. -/
def widthTextsUptoRow : OpenClaim := { program := "ytablkipcngbkjaadoor", sum := "b399e210f02c621e4e990f63514cd166949c4c9f916893581be59181e03972e0", func := "jalousie/jalousielaw09.WidthTexts", spec := "widthTexts", named := ["jalousie/width.bounds"], apart := false, laid := [("jalousie/width.bounds", laid_jalousie_width_bounds)], narrowed := true }
def WidthTextsUptoSaid : Prop := widthTextsUptoRow.holds Tryd.pinned (OpenSpec.upto widthTextsSpec)

/-- 'jalousielaw09.WidthCuts', WHERE WHAT IT READS IS OF BULK AT MOST 1048576: true; the input reads as it did. -/
def widthCutsUptoRow : OpenClaim := { program := "ytablkipcngbkjaadoor", sum := "b399e210f02c621e4e990f63514cd166949c4c9f916893581be59181e03972e0", func := "jalousie/jalousielaw09.WidthCuts", spec := "widthCuts", named := ["jalousie/width.bounds"], apart := false, laid := [("jalousie/width.bounds", laid_jalousie_width_bounds)], narrowed := true }
def WidthCutsUptoSaid : Prop := widthCutsUptoRow.holds Tryd.pinned (OpenSpec.upto widthCutsSpec)

end Rows
end Go.Proofs.YtablkipcngbkjaaDoor
