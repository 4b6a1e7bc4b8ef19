/-
  No cell of these rows narrows 'for every input' (looked for: loops, veiled, ifaces, maps, wideKeys, modest, calm, conditions, laid).
  DERIVED. THE GIVEN ROWS OF THIS SEAT. 5 by the template 'for every input the law returns true; each argument reads behind the call as it read before'; 0 by the template 'total and deterministic' (their statements: YtpanhkhiomgclaaTotals.lean).
  GIVEN WITH THE SEED: the statements are not yours to turn. If you find one false, say at which input.
  Laid BY PROGRAM, IN A SANDBOX (cutbox-rows.mjs): the forced cells as the released guide's own fill.sh prints them over the translation a4511326c1247c71… (all of the seat's roots in one cut). By AI agents, Wed Nov 11 2026. No macro, syntax, notation, axiom, sorry.
-/
import Derived.Test.YtpanhkhiomgclaaChecked
import GoSem.Claim
import GoSem.ClaimJoined
import GoSem.ClaimMapViews
import Derived.JoinedTies
import Derived.KernelRfl
namespace Go.Proofs.Ytpanhkhiomgclaa
/- THE CELL 'sum', in the pinned program and in every row, IS THE sha256 OF THE DUMP (.gsa) THAT YtpanhkhiomgclaaProg.lean LOADS. Nothing in Lean hashes anything: it is a label: what it is worth is what the hold of that sum in a sandbox is worth. -/
noncomputable def Try.pinned : Pinned := { name := "ytpanhkhiomgclaa", sum := "a4511326c1247c71185c7a1a56b792a4baf5817e0c6b468a246c99aa31d7a52f", checked := Try.checked }
namespace Rows
def none {H : Type} : Left H := { results := [], args := [] }

/-- 'jalousielaw14.BackPlays': WHATEVER THE INPUT: true; the input reads as it did. -/
def backPlaysSpec : ChangeSpec := { name := "backPlays", fn := fun _ => fun
  | [d1, d2, d3] => { results := [.lit (.bool true)], args := [d1, d2, d3] }
  | _ => none }
def backPlaysRow : OpenClaim := { program := "ytpanhkhiomgclaa", sum := "a4511326c1247c71185c7a1a56b792a4baf5817e0c6b468a246c99aa31d7a52f", func := "jalousie/jalousielaw14.BackPlays", spec := "backPlays", unfollowed := true, recurses := true, apart := false }
def BackPlaysSaid : Prop := backPlaysRow.holds Try.pinned (OpenSpec.ofChange backPlaysSpec)

/-- ITS FALSE NEIGHBOUR: 'it returns false'. Refute it at one input. -/
def backPlaysWrong : ChangeSpec := { name := "backPlays", fn := fun _ => fun
  | [d1, d2, d3] => { results := [.lit (.bool false)], args := [d1, d2, d3] }
  | _ => none }
def BackPlaysWrongFalsely : Prop := backPlaysRow.holds Try.pinned (OpenSpec.ofChange backPlaysWrong)

/-- 'jalousielaw14.BackNobody': WHATEVER THE INPUT: true; the input reads as it did. -/
def backNobodySpec : ChangeSpec := { name := "backNobody", fn := fun _ => fun
  | [d1, d2] => { results := [.lit (.bool true)], args := [d1, d2] }
  | _ => none }
def backNobodyRow : OpenClaim := { program := "ytpanhkhiomgclaa", sum := "a4511326c1247c71185c7a1a56b792a4baf5817e0c6b468a246c99aa31d7a52f", func := "jalousie/jalousielaw14.BackNobody", spec := "backNobody", unfollowed := true, recurses := true, apart := false }
def BackNobodySaid : Prop := backNobodyRow.holds Try.pinned (OpenSpec.ofChange backNobodySpec)

/-- ITS FALSE NEIGHBOUR: 'it returns false'. Refute it at one input. -/
def backNobodyWrong : ChangeSpec := { name := "backNobody", fn := fun _ => fun
  | [d1, d2] => { results := [.lit (.bool false)], args := [d1, d2] }
  | _ => none }
def BackNobodyWrongFalsely : Prop := backNobodyRow.holds Try.pinned (OpenSpec.ofChange backNobodyWrong)

/-- 'jalousielaw14.BackLast': WHATEVER THE INPUT: true; the input reads as it did. -/
def backLastSpec : ChangeSpec := { name := "backLast", fn := fun _ => fun
  | [d1, d2, d3] => { results := [.lit (.bool true)], args := [d1, d2, d3] }
  | _ => none }
def backLastRow : OpenClaim := { program := "ytpanhkhiomgclaa", sum := "a4511326c1247c71185c7a1a56b792a4baf5817e0c6b468a246c99aa31d7a52f", func := "jalousie/jalousielaw14.BackLast", spec := "backLast", unfollowed := true, recurses := true, apart := false }
def BackLastSaid : Prop := backLastRow.holds Try.pinned (OpenSpec.ofChange backLastSpec)

/-- ITS FALSE NEIGHBOUR: 'it returns false'. Refute it at one input. -/
def backLastWrong : ChangeSpec := { name := "backLast", fn := fun _ => fun
  | [d1, d2, d3] => { results := [.lit (.bool false)], args := [d1, d2, d3] }
  | _ => none }
def BackLastWrongFalsely : Prop := backLastRow.holds Try.pinned (OpenSpec.ofChange backLastWrong)

/-- 'jalousielaw14.BackStill': WHATEVER THE INPUT: true; the input reads as it did. -/
def backStillSpec : ChangeSpec := { name := "backStill", fn := fun _ => fun
  | [d1, d2, d3, d4, d5, d6] => { results := [.lit (.bool true)], args := [d1, d2, d3, d4, d5, d6] }
  | _ => none }
def backStillRow : OpenClaim := { program := "ytpanhkhiomgclaa", sum := "a4511326c1247c71185c7a1a56b792a4baf5817e0c6b468a246c99aa31d7a52f", func := "jalousie/jalousielaw14.BackStill", spec := "backStill", unfollowed := true, recurses := true, apart := false }
def BackStillSaid : Prop := backStillRow.holds Try.pinned (OpenSpec.ofChange backStillSpec)

/-- ITS FALSE NEIGHBOUR: 'it returns false'. Refute it at one input. -/
def backStillWrong : ChangeSpec := { name := "backStill", fn := fun _ => fun
  | [d1, d2, d3, d4, d5, d6] => { results := [.lit (.bool false)], args := [d1, d2, d3, d4, d5, d6] }
  | _ => none }
def BackStillWrongFalsely : Prop := backStillRow.holds Try.pinned (OpenSpec.ofChange backStillWrong)

/-- 'jalousielaw14.BackKnown': WHATEVER THE INPUT: true; the input reads as it did. -/
def backKnownSpec : ChangeSpec := { name := "backKnown", fn := fun _ => fun
  | [] => { results := [.lit (.bool true)], args := [] }
  | _ => none }
def backKnownRow : OpenClaim := { program := "ytpanhkhiomgclaa", sum := "a4511326c1247c71185c7a1a56b792a4baf5817e0c6b468a246c99aa31d7a52f", func := "jalousie/jalousielaw14.BackKnown", spec := "backKnown", unfollowed := true, recurses := true, apart := false }
def BackKnownSaid : Prop := backKnownRow.holds Try.pinned (OpenSpec.ofChange backKnownSpec)

/-- ITS FALSE NEIGHBOUR: 'it returns false'. Refute it at one input. -/
def backKnownWrong : ChangeSpec := { name := "backKnown", fn := fun _ => fun
  | [] => { results := [.lit (.bool false)], args := [] }
  | _ => none }
def BackKnownWrongFalsely : Prop := backKnownRow.holds Try.pinned (OpenSpec.ofChange backKnownWrong)

/- THE SECOND FORM. 'bulk': how many values and letters a reading holds, each counted each time it is reached (what is shared counts as often as it is met; a slice's spare places count too). A statement '..UptoSaid' is the law's where the arguments, and the package variables that the reading takes, are together of bulk at most 1048576: NARROWER than '..Said'. Prove '..Said' where nothing that the law and all that it calls make is longer than what came in: it says more and counts as full. Else prove '..UptoSaid'. A law counts once. -/
mutual
def uptoBulk {H : Type} : DataW H → Nat
  | .lit (.string bytes) => bytes.length + 1
  | .lit _ => 1
  | .nil => 1
  | .ptr d => uptoBulk d + 1
  | .slice elems spare => uptoBulkAll elems + uptoBulkAll spare + 1
  | .agg parts => uptoBulkAll parts + 1
  | .iface _ d => uptoBulk d + 1
  | .map entries => uptoBulkEntries entries + 1
  | .held _ => 1
def uptoBulkAll {H : Type} : List (DataW H) → Nat
  | [] => 0
  | d :: r => uptoBulk d + uptoBulkAll r
def uptoBulkEntries {H : Type} : List (Lit × DataW H) → Nat
  | [] => 0
  | x :: r => uptoBulkEntry x + uptoBulkEntries r
def uptoBulkEntry {H : Type} : Lit × DataW H → Nat
  | (.string bytes, d) => bytes.length + uptoBulk d + 1
  | (_, d) => uptoBulk d + 1
 end
def uptoSmall : (H : Type) → List (DataW H) → Bool := fun _ ds => decide (uptoBulkAll ds ≤ 1048576)
def OpenSpec.upto (s : _root_.Go.ChangeSpec) : _root_.Go.OpenSpec := { _root_.Go.OpenSpec.ofChange s with cond := some uptoSmall }

/-- 'jalousielaw14.BackPlays', WHERE WHAT IT READS IS OF BULK AT MOST 1048576: true; the input reads as it did. -/
def backPlaysUptoRow : OpenClaim := { program := "ytpanhkhiomgclaa", sum := "a4511326c1247c71185c7a1a56b792a4baf5817e0c6b468a246c99aa31d7a52f", func := "jalousie/jalousielaw14.BackPlays", spec := "backPlays", unfollowed := true, recurses := true, apart := false, narrowed := true }
def BackPlaysUptoSaid : Prop := backPlaysUptoRow.holds Try.pinned (OpenSpec.upto backPlaysSpec)

/-- 'jalousielaw14.BackNobody', WHERE WHAT IT READS IS OF BULK AT MOST 1048576: true; the input reads as it did. -/
def backNobodyUptoRow : OpenClaim := { program := "ytpanhkhiomgclaa", sum := "a4511326c1247c71185c7a1a56b792a4baf5817e0c6b468a246c99aa31d7a52f", func := "jalousie/jalousielaw14.BackNobody", spec := "backNobody", unfollowed := true, recurses := true, apart := false, narrowed := true }
def BackNobodyUptoSaid : Prop := backNobodyUptoRow.holds Try.pinned (OpenSpec.upto backNobodySpec)

/-- 'jalousielaw14.BackLast', WHERE WHAT IT READS IS OF BULK AT MOST 1048576: true; the input reads as it did. -/
def backLastUptoRow : OpenClaim := { program := "ytpanhkhiomgclaa", sum := "a4511326c1247c71185c7a1a56b792a4baf5817e0c6b468a246c99aa31d7a52f", func := "jalousie/jalousielaw14.BackLast", spec := "backLast", unfollowed := true, recurses := true, apart := false, narrowed := true }
def BackLastUptoSaid : Prop := backLastUptoRow.holds Try.pinned (OpenSpec.upto backLastSpec)

/-- 'jalousielaw14.BackStill', WHERE WHAT IT READS IS OF BULK AT MOST 1048576: true; the input reads as it did. -/
def backStillUptoRow : OpenClaim := { program := "ytpanhkhiomgclaa", sum := "a4511326c1247c71185c7a1a56b792a4baf5817e0c6b468a246c99aa31d7a52f", func := "jalousie/jalousielaw14.BackStill", spec := "backStill", unfollowed := true, recurses := true, apart := false, narrowed := true }
def BackStillUptoSaid : Prop := backStillUptoRow.holds Try.pinned (OpenSpec.upto backStillSpec)

/-- 'jalousielaw14.BackKnown', WHERE WHAT IT READS IS OF BULK AT MOST 1048576: true; the input reads as it did. -/
def backKnownUptoRow : OpenClaim := { program := "ytpanhkhiomgclaa", sum := "a4511326c1247c71185c7a1a56b792a4baf5817e0c6b468a246c99aa31d7a52f", func := "jalousie/jalousielaw14.BackKnown", spec := "backKnown", unfollowed := true, recurses := true, apart := false, narrowed := true }
def BackKnownUptoSaid : Prop := backKnownUptoRow.holds Try.pinned (OpenSpec.upto backKnownSpec)

end Rows
end Go.Proofs.Ytpanhkhiomgclaa
