/-
  NARROWER THAN 'FOR EVERY INPUT', by the rows' own cells (each row's printed sentence says how): DecodeKnown: laid · DecodeTells: laid · DecodeFew: laid · DecodeNobody: laid · DecodeGo: laid · DecodeJoins: laid.
  DERIVED. THE GIVEN ROWS OF THIS SEAT. 6 by the template 'for every input the law returns true; each argument reads behind the call as it read before'; 0 by the template 'total and deterministic' (their statements: YtbnclfelkdbbcaaDoorTotals.lean).
  GIVEN WITH THE SEED: the statements are not yours to turn. If you find one false, say at which input.
  Laid BY PROGRAM, IN A SANDBOX (cutbox-rows.mjs): the forced cells as the released guide's own fill.sh prints them over the translation 73de2f7b3261af3b… (all of the seat's roots in one cut). By AI agents, Wed Nov 11 2026. No macro, syntax, notation, axiom, sorry.
-/
import Derived.Test.YtbnclfelkdbbcaaDoorChecked
import GoSem.PinnedTables
import GoSem.Claim
import GoSem.ClaimJoined
import GoSem.ClaimMapViews
import Derived.JoinedTies
import Derived.KernelRfl
namespace Go.Proofs.YtbnclfelkdbbcaaDoor
/- THE CELL 'sum', in the pinned program and in every row, IS THE sha256 OF THE DUMP (.gsa) THAT YtbnclfelkdbbcaaDoorProg.lean LOADS. Nothing in Lean hashes anything: it is a label: what it is worth is what the hold of that sum in a sandbox is worth. -/
noncomputable def Tryd.pinned : Pinned := { name := "ytbnclfelkdbbcaadoor", sum := "73de2f7b3261af3bec173bb6a9975a92f076120535609055d3caf962ea0f7059", checked := Tryd.checked }
namespace Rows
def none {H : Type} : Left H := { results := [], args := [] }

/- WHAT THE LISTED PACKAGE-LEVEL VARIABLES READ AS WHEN THE CALL BEGINS. Each datum BY PROGRAM (the guide's laid-datum.mjs) off the statement by which the dump's own 'gosem.cut.vars' lays the variable. In a bare row this is a premise. The card (YtbnclfelkdbbcaaDoorCards.lean) ties it to the program's text. -/
def laid_unicode_utf8_acceptRanges {H : Type} : DataW H := .agg [.agg [.lit (.int .u8 128), .lit (.int .u8 191)], .agg [.lit (.int .u8 160), .lit (.int .u8 191)], .agg [.lit (.int .u8 128), .lit (.int .u8 159)], .agg [.lit (.int .u8 144), .lit (.int .u8 191)], .agg [.lit (.int .u8 128), .lit (.int .u8 143)], .agg [.lit (.int .u8 0), .lit (.int .u8 0)], .agg [.lit (.int .u8 0), .lit (.int .u8 0)], .agg [.lit (.int .u8 0), .lit (.int .u8 0)], .agg [.lit (.int .u8 0), .lit (.int .u8 0)], .agg [.lit (.int .u8 0), .lit (.int .u8 0)], .agg [.lit (.int .u8 0), .lit (.int .u8 0)], .agg [.lit (.int .u8 0), .lit (.int .u8 0)], .agg [.lit (.int .u8 0), .lit (.int .u8 0)], .agg [.lit (.int .u8 0), .lit (.int .u8 0)], .agg [.lit (.int .u8 0), .lit (.int .u8 0)], .agg [.lit (.int .u8 0), .lit (.int .u8 0)]]
/-- One of Go's own tables, pinned by name: the form's constant. -/
def laid_unicode_utf8_first : DataW Unit := Go.Pinned.utf8First

/-- 'jalousielaw05.DecodeKnown': WHATEVER THE INPUT: true; the input reads as it did. -/
def decodeKnownSpec : ChangeSpec := { name := "decodeKnown", fn := fun _ => fun
  | [] => { results := [.lit (.bool true)], args := [] }
  | _ => none }
def decodeKnownRow : OpenClaim := { program := "ytbnclfelkdbbcaadoor", sum := "73de2f7b3261af3bec173bb6a9975a92f076120535609055d3caf962ea0f7059", func := "jalousie/jalousielaw05.DecodeKnown", spec := "decodeKnown", recurses := true, named := ["unicode/utf8.first", "unicode/utf8.acceptRanges"], apart := false, laid := [("unicode/utf8.acceptRanges", laid_unicode_utf8_acceptRanges), ("unicode/utf8.first", laid_unicode_utf8_first)] }
def DecodeKnownSaid : Prop := decodeKnownRow.holds Tryd.pinned (OpenSpec.ofChange decodeKnownSpec)

/-- ITS FALSE NEIGHBOUR: 'it returns false'. Refute it at one input. -/
def decodeKnownWrong : ChangeSpec := { name := "decodeKnown", fn := fun _ => fun
  | [] => { results := [.lit (.bool false)], args := [] }
  | _ => none }
def DecodeKnownWrongFalsely : Prop := decodeKnownRow.holds Tryd.pinned (OpenSpec.ofChange decodeKnownWrong)

/-- 'jalousielaw05.DecodeTells': WHATEVER THE INPUT: true; the input reads as it did. -/
def decodeTellsSpec : ChangeSpec := { name := "decodeTells", fn := fun _ => fun
  | [d] => { results := [.lit (.bool true)], args := [d] }
  | _ => none }
def decodeTellsRow : OpenClaim := { program := "ytbnclfelkdbbcaadoor", sum := "73de2f7b3261af3bec173bb6a9975a92f076120535609055d3caf962ea0f7059", func := "jalousie/jalousielaw05.DecodeTells", spec := "decodeTells", recurses := true, named := ["unicode/utf8.first", "unicode/utf8.acceptRanges"], apart := false, laid := [("unicode/utf8.acceptRanges", laid_unicode_utf8_acceptRanges), ("unicode/utf8.first", laid_unicode_utf8_first)] }
def DecodeTellsSaid : Prop := decodeTellsRow.holds Tryd.pinned (OpenSpec.ofChange decodeTellsSpec)

/-- ITS FALSE NEIGHBOUR: 'it returns false'. Refute it at one input. -/
def decodeTellsWrong : ChangeSpec := { name := "decodeTells", fn := fun _ => fun
  | [d] => { results := [.lit (.bool false)], args := [d] }
  | _ => none }
def DecodeTellsWrongFalsely : Prop := decodeTellsRow.holds Tryd.pinned (OpenSpec.ofChange decodeTellsWrong)

/-- 'jalousielaw05.DecodeFew': WHATEVER THE INPUT: true; the input reads as it did. -/
def decodeFewSpec : ChangeSpec := { name := "decodeFew", fn := fun _ => fun
  | [d1, d2, d3, d4] => { results := [.lit (.bool true)], args := [d1, d2, d3, d4] }
  | _ => none }
def decodeFewRow : OpenClaim := { program := "ytbnclfelkdbbcaadoor", sum := "73de2f7b3261af3bec173bb6a9975a92f076120535609055d3caf962ea0f7059", func := "jalousie/jalousielaw05.DecodeFew", spec := "decodeFew", recurses := true, named := ["unicode/utf8.first", "unicode/utf8.acceptRanges"], apart := false, laid := [("unicode/utf8.acceptRanges", laid_unicode_utf8_acceptRanges), ("unicode/utf8.first", laid_unicode_utf8_first)] }
def DecodeFewSaid : Prop := decodeFewRow.holds Tryd.pinned (OpenSpec.ofChange decodeFewSpec)

/-- ITS FALSE NEIGHBOUR: 'it returns false'. Refute it at one input. -/
def decodeFewWrong : ChangeSpec := { name := "decodeFew", fn := fun _ => fun
  | [d1, d2, d3, d4] => { results := [.lit (.bool false)], args := [d1, d2, d3, d4] }
  | _ => none }
def DecodeFewWrongFalsely : Prop := decodeFewRow.holds Tryd.pinned (OpenSpec.ofChange decodeFewWrong)

/-- 'jalousielaw05.DecodeNobody': WHATEVER THE INPUT: true; the input reads as it did. -/
def decodeNobodySpec : ChangeSpec := { name := "decodeNobody", fn := fun _ => fun
  | [d] => { results := [.lit (.bool true)], args := [d] }
  | _ => none }
def decodeNobodyRow : OpenClaim := { program := "ytbnclfelkdbbcaadoor", sum := "73de2f7b3261af3bec173bb6a9975a92f076120535609055d3caf962ea0f7059", func := "jalousie/jalousielaw05.DecodeNobody", spec := "decodeNobody", recurses := true, named := ["unicode/utf8.first", "unicode/utf8.acceptRanges"], apart := false, laid := [("unicode/utf8.acceptRanges", laid_unicode_utf8_acceptRanges), ("unicode/utf8.first", laid_unicode_utf8_first)] }
def DecodeNobodySaid : Prop := decodeNobodyRow.holds Tryd.pinned (OpenSpec.ofChange decodeNobodySpec)

/-- ITS FALSE NEIGHBOUR: 'it returns false'. Refute it at one input. -/
def decodeNobodyWrong : ChangeSpec := { name := "decodeNobody", fn := fun _ => fun
  | [d] => { results := [.lit (.bool false)], args := [d] }
  | _ => none }
def DecodeNobodyWrongFalsely : Prop := decodeNobodyRow.holds Tryd.pinned (OpenSpec.ofChange decodeNobodyWrong)

/-- 'jalousielaw05.DecodeGo': WHATEVER THE INPUT: true; the input reads as it did. -/
def decodeGoSpec : ChangeSpec := { name := "decodeGo", fn := fun _ => fun
  | [d] => { results := [.lit (.bool true)], args := [d] }
  | _ => none }
def decodeGoRow : OpenClaim := { program := "ytbnclfelkdbbcaadoor", sum := "73de2f7b3261af3bec173bb6a9975a92f076120535609055d3caf962ea0f7059", func := "jalousie/jalousielaw05.DecodeGo", spec := "decodeGo", recurses := true, named := ["unicode/utf8.first", "unicode/utf8.acceptRanges"], apart := false, laid := [("unicode/utf8.acceptRanges", laid_unicode_utf8_acceptRanges), ("unicode/utf8.first", laid_unicode_utf8_first)] }
def DecodeGoSaid : Prop := decodeGoRow.holds Tryd.pinned (OpenSpec.ofChange decodeGoSpec)

/-- ITS FALSE NEIGHBOUR: 'it returns false'. Refute it at one input. -/
def decodeGoWrong : ChangeSpec := { name := "decodeGo", fn := fun _ => fun
  | [d] => { results := [.lit (.bool false)], args := [d] }
  | _ => none }
def DecodeGoWrongFalsely : Prop := decodeGoRow.holds Tryd.pinned (OpenSpec.ofChange decodeGoWrong)

/-- 'jalousielaw05.DecodeJoins': WHATEVER THE INPUT: true; the input reads as it did. -/
def decodeJoinsSpec : ChangeSpec := { name := "decodeJoins", fn := fun _ => fun
  | [d1, d2] => { results := [.lit (.bool true)], args := [d1, d2] }
  | _ => none }
def decodeJoinsRow : OpenClaim := { program := "ytbnclfelkdbbcaadoor", sum := "73de2f7b3261af3bec173bb6a9975a92f076120535609055d3caf962ea0f7059", func := "jalousie/jalousielaw05.DecodeJoins", spec := "decodeJoins", recurses := true, named := ["unicode/utf8.first", "unicode/utf8.acceptRanges"], apart := false, laid := [("unicode/utf8.acceptRanges", laid_unicode_utf8_acceptRanges), ("unicode/utf8.first", laid_unicode_utf8_first)] }
def DecodeJoinsSaid : Prop := decodeJoinsRow.holds Tryd.pinned (OpenSpec.ofChange decodeJoinsSpec)

/-- ITS FALSE NEIGHBOUR: 'it returns false'. Refute it at one input. -/
def decodeJoinsWrong : ChangeSpec := { name := "decodeJoins", fn := fun _ => fun
  | [d1, d2] => { results := [.lit (.bool false)], args := [d1, d2] }
  | _ => none }
def DecodeJoinsWrongFalsely : Prop := decodeJoinsRow.holds Tryd.pinned (OpenSpec.ofChange decodeJoinsWrong)

/- THE SECOND FORM. 'bulk': how many values and letters a reading holds, each counted each time it is reached (what is shared counts as often as it is met; a slice's spare places count too). A statement '..UptoSaid' is the law's where the arguments, and the package variables that the reading takes, are together of bulk at most 1048576: NARROWER than '..Said'. Prove '..Said' where nothing that the law and all that it calls make is longer than what came in: it says more and counts as full. Else prove '..UptoSaid'. A law counts once. -/
mutual
def uptoBulk {H : Type} : DataW H → Nat
  | .lit (.string bytes) => bytes.length + 1
  | .lit _ => 1
  | .nil => 1
  | .ptr d => uptoBulk d + 1
  | .slice elems spare => uptoBulkAll elems + uptoBulkAll spare + 1
  | .agg parts => uptoBulkAll parts + 1
  | .iface _ d => uptoBulk d + 1
  | .map entries => uptoBulkEntries entries + 1
  | .held _ => 1
def uptoBulkAll {H : Type} : List (DataW H) → Nat
  | [] => 0
  | d :: r => uptoBulk d + uptoBulkAll r
def uptoBulkEntries {H : Type} : List (Lit × DataW H) → Nat
  | [] => 0
  | x :: r => uptoBulkEntry x + uptoBulkEntries r
def uptoBulkEntry {H : Type} : Lit × DataW H → Nat
  | (.string bytes, d) => bytes.length + uptoBulk d + 1
  | (_, d) => uptoBulk d + 1
 end
def uptoSmall : (H : Type) → List (DataW H) → Bool := fun _ ds => decide (uptoBulkAll ds ≤ 1048576)
def OpenSpec.upto (s : _root_.Go.ChangeSpec) : _root_.Go.OpenSpec := { _root_.Go.OpenSpec.ofChange s with cond := some uptoSmall }

/-- 'jalousielaw05.DecodeKnown', WHERE WHAT IT READS IS OF BULK AT MOST 1048576: true; the input reads as it did. -/
def decodeKnownUptoRow : OpenClaim := { program := "ytbnclfelkdbbcaadoor", sum := "73de2f7b3261af3bec173bb6a9975a92f076120535609055d3caf962ea0f7059", func := "jalousie/jalousielaw05.DecodeKnown", spec := "decodeKnown", recurses := true, named := ["unicode/utf8.first", "unicode/utf8.acceptRanges"], apart := false, laid := [("unicode/utf8.acceptRanges", laid_unicode_utf8_acceptRanges), ("unicode/utf8.first", laid_unicode_utf8_first)], narrowed := true }
def DecodeKnownUptoSaid : Prop := decodeKnownUptoRow.holds Tryd.pinned (OpenSpec.upto decodeKnownSpec)

/-- 'jalousielaw05.DecodeTells', WHERE WHAT IT READS IS OF BULK AT MOST 1048576: true; the input reads as it did. -/
def decodeTellsUptoRow : OpenClaim := { program := "ytbnclfelkdbbcaadoor", sum := "73de2f7b3261af3bec173bb6a9975a92f076120535609055d3caf962ea0f7059", func := "jalousie/jalousielaw05.DecodeTells", spec := "decodeTells", recurses := true, named := ["unicode/utf8.first", "unicode/utf8.acceptRanges"], apart := false, laid := [("unicode/utf8.acceptRanges", laid_unicode_utf8_acceptRanges), ("unicode/utf8.first", laid_unicode_utf8_first)], narrowed := true }
def DecodeTellsUptoSaid : Prop := decodeTellsUptoRow.holds Tryd.pinned (OpenSpec.upto decodeTellsSpec)

/-- 'jalousielaw05.DecodeFew', WHERE WHAT IT READS IS OF BULK AT MOST 1048576: true; the input reads as it did. -/
def decodeFewUptoRow : OpenClaim := { program := "ytbnclfelkdbbcaadoor", sum := "73de2f7b3261af3bec173bb6a9975a92f076120535609055d3caf962ea0f7059", func := "jalousie/jalousielaw05.DecodeFew", spec := "decodeFew", recurses := true, named := ["unicode/utf8.first", "unicode/utf8.acceptRanges"], apart := false, laid := [("unicode/utf8.acceptRanges", laid_unicode_utf8_acceptRanges), ("unicode/utf8.first", laid_unicode_utf8_first)], narrowed := true }
def DecodeFewUptoSaid : Prop := decodeFewUptoRow.holds Tryd.pinned (OpenSpec.upto decodeFewSpec)

/-- 'jalousielaw05.DecodeNobody', WHERE WHAT IT READS IS OF BULK AT MOST 1048576: true; the input reads as it did. -/
def decodeNobodyUptoRow : OpenClaim := { program := "ytbnclfelkdbbcaadoor", sum := "73de2f7b3261af3bec173bb6a9975a92f076120535609055d3caf962ea0f7059", func := "jalousie/jalousielaw05.DecodeNobody", spec := "decodeNobody", recurses := true, named := ["unicode/utf8.first", "unicode/utf8.acceptRanges"], apart := false, laid := [("unicode/utf8.acceptRanges", laid_unicode_utf8_acceptRanges), ("unicode/utf8.first", laid_unicode_utf8_first)], narrowed := true }
def DecodeNobodyUptoSaid : Prop := decodeNobodyUptoRow.holds Tryd.pinned (OpenSpec.upto decodeNobodySpec)

/-- 'jalousielaw05.DecodeGo', WHERE WHAT IT READS IS OF BULK AT MOST 1048576: true; the input reads as it did. -/
def decodeGoUptoRow : OpenClaim := { program := "ytbnclfelkdbbcaadoor", sum := "73de2f7b3261af3bec173bb6a9975a92f076120535609055d3caf962ea0f7059", func := "jalousie/jalousielaw05.DecodeGo", spec := "decodeGo", recurses := true, named := ["unicode/utf8.first", "unicode/utf8.acceptRanges"], apart := false, laid := [("unicode/utf8.acceptRanges", laid_unicode_utf8_acceptRanges), ("unicode/utf8.first", laid_unicode_utf8_first)], narrowed := true }
def DecodeGoUptoSaid : Prop := decodeGoUptoRow.holds Tryd.pinned (OpenSpec.upto decodeGoSpec)

/-- 'jalousielaw05.DecodeJoins', WHERE WHAT IT READS IS OF BULK AT MOST 1048576: true; the input reads as it did. -/
def decodeJoinsUptoRow : OpenClaim := { program := "ytbnclfelkdbbcaadoor", sum := "73de2f7b3261af3bec173bb6a9975a92f076120535609055d3caf962ea0f7059", func := "jalousie/jalousielaw05.DecodeJoins", spec := "decodeJoins", recurses := true, named := ["unicode/utf8.first", "unicode/utf8.acceptRanges"], apart := false, laid := [("unicode/utf8.acceptRanges", laid_unicode_utf8_acceptRanges), ("unicode/utf8.first", laid_unicode_utf8_first)], narrowed := true }
def DecodeJoinsUptoSaid : Prop := decodeJoinsUptoRow.holds Tryd.pinned (OpenSpec.upto decodeJoinsSpec)

end Rows
end Go.Proofs.YtbnclfelkdbbcaaDoor
