/-
  NARROWER THAN 'FOR EVERY INPUT', by the rows' own cells (each row's printed sentence says how): EventsKnown: laid · EventsTell: laid · EventsLong: laid · EventsSame: laid · EventsNobody: laid · EventsPieces: laid · EventsCancel: laid · EventsPlain: laid.
  DERIVED. THE GIVEN ROWS OF THIS SEAT. 8 by the template 'for every input the law returns true; each argument reads behind the call as it read before'; 0 by the template 'total and deterministic' (their statements: YtfekjlajagoooaaDoorTotals.lean).
  GIVEN WITH THE SEED: the statements are not yours to turn. If you find one false, say at which input.
  Laid BY PROGRAM, IN A SANDBOX (cutbox-rows.mjs): the forced cells as the released guide's own fill.sh prints them over the translation 957079d708268c72… (all of the seat's roots in one cut). By AI agents, Wed Nov 11 2026. No macro, syntax, notation, axiom, sorry.
-/
import Derived.Test.YtfekjlajagoooaaDoorChecked
import GoSem.PinnedTables
import GoSem.Claim
import GoSem.ClaimJoined
import GoSem.ClaimMapViews
import Derived.JoinedTies
import Derived.KernelRfl
namespace Go.Proofs.YtfekjlajagoooaaDoor
/- THE CELL 'sum', in the pinned program and in every row, IS THE sha256 OF THE DUMP (.gsa) THAT YtfekjlajagoooaaDoorProg.lean LOADS. Nothing in Lean hashes anything: it is a label: what it is worth is what the hold of that sum in a sandbox is worth. -/
noncomputable def Tryd.pinned : Pinned := { name := "ytfekjlajagoooaadoor", sum := "957079d708268c72cfd23927bf59f5a44e60a120b66ed2e579f1a926152a2cba", checked := Tryd.checked }
namespace Rows
def none {H : Type} : Left H := { results := [], args := [] }

/- WHAT THE LISTED PACKAGE-LEVEL VARIABLES READ AS WHEN THE CALL BEGINS. Each datum BY PROGRAM (the guide's laid-datum.mjs) off the statement by which the dump's own 'gosem.cut.vars' lays the variable. In a bare row this is a premise. The card (YtfekjlajagoooaaDoorCards.lean) ties it to the program's text. -/
def laid_unicode_utf8_acceptRanges {H : Type} : DataW H := .agg [.agg [.lit (.int .u8 128), .lit (.int .u8 191)], .agg [.lit (.int .u8 160), .lit (.int .u8 191)], .agg [.lit (.int .u8 128), .lit (.int .u8 159)], .agg [.lit (.int .u8 144), .lit (.int .u8 191)], .agg [.lit (.int .u8 128), .lit (.int .u8 143)], .agg [.lit (.int .u8 0), .lit (.int .u8 0)], .agg [.lit (.int .u8 0), .lit (.int .u8 0)], .agg [.lit (.int .u8 0), .lit (.int .u8 0)], .agg [.lit (.int .u8 0), .lit (.int .u8 0)], .agg [.lit (.int .u8 0), .lit (.int .u8 0)], .agg [.lit (.int .u8 0), .lit (.int .u8 0)], .agg [.lit (.int .u8 0), .lit (.int .u8 0)], .agg [.lit (.int .u8 0), .lit (.int .u8 0)], .agg [.lit (.int .u8 0), .lit (.int .u8 0)], .agg [.lit (.int .u8 0), .lit (.int .u8 0)], .agg [.lit (.int .u8 0), .lit (.int .u8 0)]]
/-- One of Go's own tables, pinned by name: the form's constant. -/
def laid_unicode_utf8_first : DataW Unit := Go.Pinned.utf8First

/-- 'jalousielaw08.EventsKnown': WHATEVER THE INPUT: true; the input reads as it did. -/
def eventsKnownSpec : ChangeSpec := { name := "eventsKnown", fn := fun _ => fun
  | [] => { results := [.lit (.bool true)], args := [] }
  | _ => none }
def eventsKnownRow : OpenClaim := { program := "ytfekjlajagoooaadoor", sum := "957079d708268c72cfd23927bf59f5a44e60a120b66ed2e579f1a926152a2cba", func := "jalousie/jalousielaw08.EventsKnown", spec := "eventsKnown", inPlace := ["internal/abi.NoEscape", "internal/bytealg.MakeNoZero"], unfollowed := true, recurses := true, named := ["unicode/utf8.first", "unicode/utf8.acceptRanges"], apart := false, laid := [("unicode/utf8.acceptRanges", laid_unicode_utf8_acceptRanges), ("unicode/utf8.first", laid_unicode_utf8_first)] }
def EventsKnownSaid : Prop := eventsKnownRow.holds Tryd.pinned (OpenSpec.ofChange eventsKnownSpec)

/-- ITS FALSE NEIGHBOUR: 'it returns false'. Refute it at one input. -/
def eventsKnownWrong : ChangeSpec := { name := "eventsKnown", fn := fun _ => fun
  | [] => { results := [.lit (.bool false)], args := [] }
  | _ => none }
def EventsKnownWrongFalsely : Prop := eventsKnownRow.holds Tryd.pinned (OpenSpec.ofChange eventsKnownWrong)

/-- 'jalousielaw08.EventsTell': WHATEVER THE INPUT: true; the input reads as it did. -/
def eventsTellSpec : ChangeSpec := { name := "eventsTell", fn := fun _ => fun
  | [d] => { results := [.lit (.bool true)], args := [d] }
  | _ => none }
def eventsTellRow : OpenClaim := { program := "ytfekjlajagoooaadoor", sum := "957079d708268c72cfd23927bf59f5a44e60a120b66ed2e579f1a926152a2cba", func := "jalousie/jalousielaw08.EventsTell", spec := "eventsTell", unfollowed := true, recurses := true, named := ["unicode/utf8.first", "unicode/utf8.acceptRanges"], apart := false, laid := [("unicode/utf8.acceptRanges", laid_unicode_utf8_acceptRanges), ("unicode/utf8.first", laid_unicode_utf8_first)] }
def EventsTellSaid : Prop := eventsTellRow.holds Tryd.pinned (OpenSpec.ofChange eventsTellSpec)

/-- ITS FALSE NEIGHBOUR: 'it returns false'. Refute it at one input. -/
def eventsTellWrong : ChangeSpec := { name := "eventsTell", fn := fun _ => fun
  | [d] => { results := [.lit (.bool false)], args := [d] }
  | _ => none }
def EventsTellWrongFalsely : Prop := eventsTellRow.holds Tryd.pinned (OpenSpec.ofChange eventsTellWrong)

/-- 'jalousielaw08.EventsLong': WHATEVER THE INPUT: true; the input reads as it did. -/
def eventsLongSpec : ChangeSpec := { name := "eventsLong", fn := fun _ => fun
  | [d1, d2, d3, d4] => { results := [.lit (.bool true)], args := [d1, d2, d3, d4] }
  | _ => none }
def eventsLongRow : OpenClaim := { program := "ytfekjlajagoooaadoor", sum := "957079d708268c72cfd23927bf59f5a44e60a120b66ed2e579f1a926152a2cba", func := "jalousie/jalousielaw08.EventsLong", spec := "eventsLong", inPlace := ["internal/abi.NoEscape", "internal/bytealg.MakeNoZero"], unfollowed := true, recurses := true, named := ["unicode/utf8.first", "unicode/utf8.acceptRanges"], apart := false, laid := [("unicode/utf8.acceptRanges", laid_unicode_utf8_acceptRanges), ("unicode/utf8.first", laid_unicode_utf8_first)] }
def EventsLongSaid : Prop := eventsLongRow.holds Tryd.pinned (OpenSpec.ofChange eventsLongSpec)

/-- ITS FALSE NEIGHBOUR: 'it returns false'. Refute it at one input. -/
def eventsLongWrong : ChangeSpec := { name := "eventsLong", fn := fun _ => fun
  | [d1, d2, d3, d4] => { results := [.lit (.bool false)], args := [d1, d2, d3, d4] }
  | _ => none }
def EventsLongWrongFalsely : Prop := eventsLongRow.holds Tryd.pinned (OpenSpec.ofChange eventsLongWrong)

/-- 'jalousielaw08.EventsSame': WHATEVER THE INPUT: true; the input reads as it did. -/
def eventsSameSpec : ChangeSpec := { name := "eventsSame", fn := fun _ => fun
  | [d1, d2] => { results := [.lit (.bool true)], args := [d1, d2] }
  | _ => none }
def eventsSameRow : OpenClaim := { program := "ytfekjlajagoooaadoor", sum := "957079d708268c72cfd23927bf59f5a44e60a120b66ed2e579f1a926152a2cba", func := "jalousie/jalousielaw08.EventsSame", spec := "eventsSame", unfollowed := true, recurses := true, named := ["unicode/utf8.first", "unicode/utf8.acceptRanges"], apart := false, laid := [("unicode/utf8.acceptRanges", laid_unicode_utf8_acceptRanges), ("unicode/utf8.first", laid_unicode_utf8_first)] }
def EventsSameSaid : Prop := eventsSameRow.holds Tryd.pinned (OpenSpec.ofChange eventsSameSpec)

/-- ITS FALSE NEIGHBOUR: 'it returns false'. Refute it at one input. -/
def eventsSameWrong : ChangeSpec := { name := "eventsSame", fn := fun _ => fun
  | [d1, d2] => { results := [.lit (.bool false)], args := [d1, d2] }
  | _ => none }
def EventsSameWrongFalsely : Prop := eventsSameRow.holds Tryd.pinned (OpenSpec.ofChange eventsSameWrong)

/-- 'jalousielaw08.EventsNobody': WHATEVER THE INPUT: true; the input reads as it did. -/
def eventsNobodySpec : ChangeSpec := { name := "eventsNobody", fn := fun _ => fun
  | [d] => { results := [.lit (.bool true)], args := [d] }
  | _ => none }
def eventsNobodyRow : OpenClaim := { program := "ytfekjlajagoooaadoor", sum := "957079d708268c72cfd23927bf59f5a44e60a120b66ed2e579f1a926152a2cba", func := "jalousie/jalousielaw08.EventsNobody", spec := "eventsNobody", unfollowed := true, recurses := true, named := ["unicode/utf8.first", "unicode/utf8.acceptRanges"], apart := false, laid := [("unicode/utf8.acceptRanges", laid_unicode_utf8_acceptRanges), ("unicode/utf8.first", laid_unicode_utf8_first)] }
def EventsNobodySaid : Prop := eventsNobodyRow.holds Tryd.pinned (OpenSpec.ofChange eventsNobodySpec)

/-- ITS FALSE NEIGHBOUR: 'it returns false'. Refute it at one input. -/
def eventsNobodyWrong : ChangeSpec := { name := "eventsNobody", fn := fun _ => fun
  | [d] => { results := [.lit (.bool false)], args := [d] }
  | _ => none }
def EventsNobodyWrongFalsely : Prop := eventsNobodyRow.holds Tryd.pinned (OpenSpec.ofChange eventsNobodyWrong)

/-- 'jalousielaw08.EventsPieces': WHATEVER THE INPUT: true; the input reads as it did. -/
def eventsPiecesSpec : ChangeSpec := { name := "eventsPieces", fn := fun _ => fun
  | [d1, d2] => { results := [.lit (.bool true)], args := [d1, d2] }
  | _ => none }
def eventsPiecesRow : OpenClaim := { program := "ytfekjlajagoooaadoor", sum := "957079d708268c72cfd23927bf59f5a44e60a120b66ed2e579f1a926152a2cba", func := "jalousie/jalousielaw08.EventsPieces", spec := "eventsPieces", unfollowed := true, recurses := true, named := ["unicode/utf8.first", "unicode/utf8.acceptRanges"], apart := false, laid := [("unicode/utf8.acceptRanges", laid_unicode_utf8_acceptRanges), ("unicode/utf8.first", laid_unicode_utf8_first)] }
def EventsPiecesSaid : Prop := eventsPiecesRow.holds Tryd.pinned (OpenSpec.ofChange eventsPiecesSpec)

/-- ITS FALSE NEIGHBOUR: 'it returns false'. Refute it at one input. -/
def eventsPiecesWrong : ChangeSpec := { name := "eventsPieces", fn := fun _ => fun
  | [d1, d2] => { results := [.lit (.bool false)], args := [d1, d2] }
  | _ => none }
def EventsPiecesWrongFalsely : Prop := eventsPiecesRow.holds Tryd.pinned (OpenSpec.ofChange eventsPiecesWrong)

/-- 'jalousielaw08.EventsCancel': WHATEVER THE INPUT: true; the input reads as it did. -/
def eventsCancelSpec : ChangeSpec := { name := "eventsCancel", fn := fun _ => fun
  | [d1, d2] => { results := [.lit (.bool true)], args := [d1, d2] }
  | _ => none }
def eventsCancelRow : OpenClaim := { program := "ytfekjlajagoooaadoor", sum := "957079d708268c72cfd23927bf59f5a44e60a120b66ed2e579f1a926152a2cba", func := "jalousie/jalousielaw08.EventsCancel", spec := "eventsCancel", unfollowed := true, recurses := true, named := ["unicode/utf8.first", "unicode/utf8.acceptRanges"], apart := false, laid := [("unicode/utf8.acceptRanges", laid_unicode_utf8_acceptRanges), ("unicode/utf8.first", laid_unicode_utf8_first)] }
def EventsCancelSaid : Prop := eventsCancelRow.holds Tryd.pinned (OpenSpec.ofChange eventsCancelSpec)

/-- ITS FALSE NEIGHBOUR: 'it returns false'. Refute it at one input. -/
def eventsCancelWrong : ChangeSpec := { name := "eventsCancel", fn := fun _ => fun
  | [d1, d2] => { results := [.lit (.bool false)], args := [d1, d2] }
  | _ => none }
def EventsCancelWrongFalsely : Prop := eventsCancelRow.holds Tryd.pinned (OpenSpec.ofChange eventsCancelWrong)

/-- 'jalousielaw08.EventsPlain': WHATEVER THE INPUT: true; the input reads as it did. -/
def eventsPlainSpec : ChangeSpec := { name := "eventsPlain", fn := fun _ => fun
  | [d] => { results := [.lit (.bool true)], args := [d] }
  | _ => none }
def eventsPlainRow : OpenClaim := { program := "ytfekjlajagoooaadoor", sum := "957079d708268c72cfd23927bf59f5a44e60a120b66ed2e579f1a926152a2cba", func := "jalousie/jalousielaw08.EventsPlain", spec := "eventsPlain", unfollowed := true, recurses := true, named := ["unicode/utf8.first", "unicode/utf8.acceptRanges"], apart := false, laid := [("unicode/utf8.acceptRanges", laid_unicode_utf8_acceptRanges), ("unicode/utf8.first", laid_unicode_utf8_first)] }
def EventsPlainSaid : Prop := eventsPlainRow.holds Tryd.pinned (OpenSpec.ofChange eventsPlainSpec)

/-- ITS FALSE NEIGHBOUR: 'it returns false'. Refute it at one input. -/
def eventsPlainWrong : ChangeSpec := { name := "eventsPlain", fn := fun _ => fun
  | [d] => { results := [.lit (.bool false)], args := [d] }
  | _ => none }
def EventsPlainWrongFalsely : Prop := eventsPlainRow.holds Tryd.pinned (OpenSpec.ofChange eventsPlainWrong)

/- THE SECOND FORM. 'bulk': how many values and letters a reading holds, each counted each time it is reached (what is shared counts as often as it is met; a slice's spare places count too). A statement '..UptoSaid' is the law's where the arguments, and the package variables that the reading takes, are together of bulk at most 1048576: NARROWER than '..Said'. Prove '..Said' where nothing that the law and all that it calls make is longer than what came in: it says more and counts as full. Else prove '..UptoSaid'. A law counts once. -/
mutual
def uptoBulk {H : Type} : DataW H → Nat
  | .lit (.string bytes) => bytes.length + 1
  | .lit _ => 1
  | .nil => 1
  | .ptr d => uptoBulk d + 1
  | .slice elems spare => uptoBulkAll elems + uptoBulkAll spare + 1
  | .agg parts => uptoBulkAll parts + 1
  | .iface _ d => uptoBulk d + 1
  | .map entries => uptoBulkEntries entries + 1
  | .held _ => 1
def uptoBulkAll {H : Type} : List (DataW H) → Nat
  | [] => 0
  | d :: r => uptoBulk d + uptoBulkAll r
def uptoBulkEntries {H : Type} : List (Lit × DataW H) → Nat
  | [] => 0
  | x :: r => uptoBulkEntry x + uptoBulkEntries r
def uptoBulkEntry {H : Type} : Lit × DataW H → Nat
  | (.string bytes, d) => bytes.length + uptoBulk d + 1
  | (_, d) => uptoBulk d + 1
 end
def uptoSmall : (H : Type) → List (DataW H) → Bool := fun _ ds => decide (uptoBulkAll ds ≤ 1048576)
def OpenSpec.upto (s : _root_.Go.ChangeSpec) : _root_.Go.OpenSpec := { _root_.Go.OpenSpec.ofChange s with cond := some uptoSmall }

/-- 'jalousielaw08.EventsKnown', WHERE WHAT IT READS IS OF BULK AT MOST 1048576: true; the input reads as it did. -/
def eventsKnownUptoRow : OpenClaim := { program := "ytfekjlajagoooaadoor", sum := "957079d708268c72cfd23927bf59f5a44e60a120b66ed2e579f1a926152a2cba", func := "jalousie/jalousielaw08.EventsKnown", spec := "eventsKnown", inPlace := ["internal/abi.NoEscape", "internal/bytealg.MakeNoZero"], unfollowed := true, recurses := true, named := ["unicode/utf8.first", "unicode/utf8.acceptRanges"], apart := false, laid := [("unicode/utf8.acceptRanges", laid_unicode_utf8_acceptRanges), ("unicode/utf8.first", laid_unicode_utf8_first)], narrowed := true }
def EventsKnownUptoSaid : Prop := eventsKnownUptoRow.holds Tryd.pinned (OpenSpec.upto eventsKnownSpec)

/-- 'jalousielaw08.EventsTell', WHERE WHAT IT READS IS OF BULK AT MOST 1048576: true; the input reads as it did. -/
def eventsTellUptoRow : OpenClaim := { program := "ytfekjlajagoooaadoor", sum := "957079d708268c72cfd23927bf59f5a44e60a120b66ed2e579f1a926152a2cba", func := "jalousie/jalousielaw08.EventsTell", spec := "eventsTell", unfollowed := true, recurses := true, named := ["unicode/utf8.first", "unicode/utf8.acceptRanges"], apart := false, laid := [("unicode/utf8.acceptRanges", laid_unicode_utf8_acceptRanges), ("unicode/utf8.first", laid_unicode_utf8_first)], narrowed := true }
def EventsTellUptoSaid : Prop := eventsTellUptoRow.holds Tryd.pinned (OpenSpec.upto eventsTellSpec)

/-- 'jalousielaw08.EventsLong', WHERE WHAT IT READS IS OF BULK AT MOST 1048576: true; the input reads as it did. -/
def eventsLongUptoRow : OpenClaim := { program := "ytfekjlajagoooaadoor", sum := "957079d708268c72cfd23927bf59f5a44e60a120b66ed2e579f1a926152a2cba", func := "jalousie/jalousielaw08.EventsLong", spec := "eventsLong", inPlace := ["internal/abi.NoEscape", "internal/bytealg.MakeNoZero"], unfollowed := true, recurses := true, named := ["unicode/utf8.first", "unicode/utf8.acceptRanges"], apart := false, laid := [("unicode/utf8.acceptRanges", laid_unicode_utf8_acceptRanges), ("unicode/utf8.first", laid_unicode_utf8_first)], narrowed := true }
def EventsLongUptoSaid : Prop := eventsLongUptoRow.holds Tryd.pinned (OpenSpec.upto eventsLongSpec)

/-- 'jalousielaw08.EventsSame', WHERE WHAT IT READS IS OF BULK AT MOST 1048576: true; the input reads as it did. -/
def eventsSameUptoRow : OpenClaim := { program := "ytfekjlajagoooaadoor", sum := "957079d708268c72cfd23927bf59f5a44e60a120b66ed2e579f1a926152a2cba", func := "jalousie/jalousielaw08.EventsSame", spec := "eventsSame", unfollowed := true, recurses := true, named := ["unicode/utf8.first", "unicode/utf8.acceptRanges"], apart := false, laid := [("unicode/utf8.acceptRanges", laid_unicode_utf8_acceptRanges), ("unicode/utf8.first", laid_unicode_utf8_first)], narrowed := true }
def EventsSameUptoSaid : Prop := eventsSameUptoRow.holds Tryd.pinned (OpenSpec.upto eventsSameSpec)

/-- 'jalousielaw08.EventsNobody', WHERE WHAT IT READS IS OF BULK AT MOST 1048576: true; the input reads as it did. -/
def eventsNobodyUptoRow : OpenClaim := { program := "ytfekjlajagoooaadoor", sum := "957079d708268c72cfd23927bf59f5a44e60a120b66ed2e579f1a926152a2cba", func := "jalousie/jalousielaw08.EventsNobody", spec := "eventsNobody", unfollowed := true, recurses := true, named := ["unicode/utf8.first", "unicode/utf8.acceptRanges"], apart := false, laid := [("unicode/utf8.acceptRanges", laid_unicode_utf8_acceptRanges), ("unicode/utf8.first", laid_unicode_utf8_first)], narrowed := true }
def EventsNobodyUptoSaid : Prop := eventsNobodyUptoRow.holds Tryd.pinned (OpenSpec.upto eventsNobodySpec)

/-- 'jalousielaw08.EventsPieces', WHERE WHAT IT READS IS OF BULK AT MOST 1048576: true; the input reads as it did. -/
def eventsPiecesUptoRow : OpenClaim := { program := "ytfekjlajagoooaadoor", sum := "957079d708268c72cfd23927bf59f5a44e60a120b66ed2e579f1a926152a2cba", func := "jalousie/jalousielaw08.EventsPieces", spec := "eventsPieces", unfollowed := true, recurses := true, named := ["unicode/utf8.first", "unicode/utf8.acceptRanges"], apart := false, laid := [("unicode/utf8.acceptRanges", laid_unicode_utf8_acceptRanges), ("unicode/utf8.first", laid_unicode_utf8_first)], narrowed := true }
def EventsPiecesUptoSaid : Prop := eventsPiecesUptoRow.holds Tryd.pinned (OpenSpec.upto eventsPiecesSpec)

/-- 'jalousielaw08.EventsCancel', WHERE WHAT IT READS IS OF BULK AT MOST 1048576: true; the input reads as it did. -/
def eventsCancelUptoRow : OpenClaim := { program := "ytfekjlajagoooaadoor", sum := "957079d708268c72cfd23927bf59f5a44e60a120b66ed2e579f1a926152a2cba", func := "jalousie/jalousielaw08.EventsCancel", spec := "eventsCancel", unfollowed := true, recurses := true, named := ["unicode/utf8.first", "unicode/utf8.acceptRanges"], apart := false, laid := [("unicode/utf8.acceptRanges", laid_unicode_utf8_acceptRanges), ("unicode/utf8.first", laid_unicode_utf8_first)], narrowed := true }
def EventsCancelUptoSaid : Prop := eventsCancelUptoRow.holds Tryd.pinned (OpenSpec.upto eventsCancelSpec)

/-- 'jalousielaw08.EventsPlain', WHERE WHAT IT READS IS OF BULK AT MOST 1048576: true; the input reads as it did. -/
def eventsPlainUptoRow : OpenClaim := { program := "ytfekjlajagoooaadoor", sum := "957079d708268c72cfd23927bf59f5a44e60a120b66ed2e579f1a926152a2cba", func := "jalousie/jalousielaw08.EventsPlain", spec := "eventsPlain", unfollowed := true, recurses := true, named := ["unicode/utf8.first", "unicode/utf8.acceptRanges"], apart := false, laid := [("unicode/utf8.acceptRanges", laid_unicode_utf8_acceptRanges), ("unicode/utf8.first", laid_unicode_utf8_first)], narrowed := true }
def EventsPlainUptoSaid : Prop := eventsPlainUptoRow.holds Tryd.pinned (OpenSpec.upto eventsPlainSpec)

end Rows
end Go.Proofs.YtfekjlajagoooaaDoor
