/-
  No cell of these rows narrows 'for every input' (looked for: loops, veiled, ifaces, maps, wideKeys, modest, calm, conditions, laid).
  DERIVED. THE GIVEN ROWS OF THIS SEAT. 6 by the template 'for every input the law returns true; each argument reads behind the call as it read before'; 0 by the template 'total and deterministic' (their statements: YtfkiihddcinckaaTotals.lean).
  GIVEN WITH THE SEED: the statements are not yours to turn. If you find one false, say at which input.
  Laid BY PROGRAM, IN A SANDBOX (cutbox-rows.mjs): the forced cells as the released guide's own fill.sh prints them over the translation 6fee4609c56a3a71… (all of the seat's roots in one cut). By AI agents, Wed Nov 11 2026. No macro, syntax, notation, axiom, sorry.
-/
import Derived.Test.YtfkiihddcinckaaChecked
import GoSem.Claim
import GoSem.ClaimJoined
import GoSem.ClaimMapViews
import Derived.JoinedTies
import Derived.KernelRfl
namespace Go.Proofs.Ytfkiihddcinckaa
/- THE CELL 'sum', in the pinned program and in every row, IS THE sha256 OF THE DUMP (.gsa) THAT YtfkiihddcinckaaProg.lean LOADS. Nothing in Lean hashes anything: it is a label: what it is worth is what the hold of that sum in a sandbox is worth. -/
noncomputable def Try.pinned : Pinned := { name := "ytfkiihddcinckaa", sum := "6fee4609c56a3a7192bd20a130e5aed3d2073e186bca03cd7231a2eb0bf05716", checked := Try.checked }
namespace Rows
def none {H : Type} : Left H := { results := [], args := [] }

/-- 'jalousielaw12.TabsPlay': WHATEVER THE INPUT: true; the input reads as it did. -/
def tabsPlaySpec : ChangeSpec := { name := "tabsPlay", fn := fun _ => fun
  | [d1, d2] => { results := [.lit (.bool true)], args := [d1, d2] }
  | _ => none }
def tabsPlayRow : OpenClaim := { program := "ytfkiihddcinckaa", sum := "6fee4609c56a3a7192bd20a130e5aed3d2073e186bca03cd7231a2eb0bf05716", func := "jalousie/jalousielaw12.TabsPlay", spec := "tabsPlay", unfollowed := true, recurses := true, apart := false }
def TabsPlaySaid : Prop := tabsPlayRow.holds Try.pinned (OpenSpec.ofChange tabsPlaySpec)

/-- ITS FALSE NEIGHBOUR: 'it returns false'. Refute it at one input. -/
def tabsPlayWrong : ChangeSpec := { name := "tabsPlay", fn := fun _ => fun
  | [d1, d2] => { results := [.lit (.bool false)], args := [d1, d2] }
  | _ => none }
def TabsPlayWrongFalsely : Prop := tabsPlayRow.holds Try.pinned (OpenSpec.ofChange tabsPlayWrong)

/-- 'jalousielaw12.TabsMoves': WHATEVER THE INPUT: true; the input reads as it did. -/
def tabsMovesSpec : ChangeSpec := { name := "tabsMoves", fn := fun _ => fun
  | [d1, d2, d3, d4, d5] => { results := [.lit (.bool true)], args := [d1, d2, d3, d4, d5] }
  | _ => none }
def tabsMovesRow : OpenClaim := { program := "ytfkiihddcinckaa", sum := "6fee4609c56a3a7192bd20a130e5aed3d2073e186bca03cd7231a2eb0bf05716", func := "jalousie/jalousielaw12.TabsMoves", spec := "tabsMoves", unfollowed := true, recurses := true, apart := false }
def TabsMovesSaid : Prop := tabsMovesRow.holds Try.pinned (OpenSpec.ofChange tabsMovesSpec)

/-- ITS FALSE NEIGHBOUR: 'it returns false'. Refute it at one input. -/
def tabsMovesWrong : ChangeSpec := { name := "tabsMoves", fn := fun _ => fun
  | [d1, d2, d3, d4, d5] => { results := [.lit (.bool false)], args := [d1, d2, d3, d4, d5] }
  | _ => none }
def TabsMovesWrongFalsely : Prop := tabsMovesRow.holds Try.pinned (OpenSpec.ofChange tabsMovesWrong)

/-- 'jalousielaw12.TabsNobody': WHATEVER THE INPUT: true; the input reads as it did. -/
def tabsNobodySpec : ChangeSpec := { name := "tabsNobody", fn := fun _ => fun
  | [d1, d2] => { results := [.lit (.bool true)], args := [d1, d2] }
  | _ => none }
def tabsNobodyRow : OpenClaim := { program := "ytfkiihddcinckaa", sum := "6fee4609c56a3a7192bd20a130e5aed3d2073e186bca03cd7231a2eb0bf05716", func := "jalousie/jalousielaw12.TabsNobody", spec := "tabsNobody", unfollowed := true, recurses := true, apart := false }
def TabsNobodySaid : Prop := tabsNobodyRow.holds Try.pinned (OpenSpec.ofChange tabsNobodySpec)

/-- ITS FALSE NEIGHBOUR: 'it returns false'. Refute it at one input. -/
def tabsNobodyWrong : ChangeSpec := { name := "tabsNobody", fn := fun _ => fun
  | [d1, d2] => { results := [.lit (.bool false)], args := [d1, d2] }
  | _ => none }
def TabsNobodyWrongFalsely : Prop := tabsNobodyRow.holds Try.pinned (OpenSpec.ofChange tabsNobodyWrong)

/-- 'jalousielaw12.TabsBack': WHATEVER THE INPUT: true; the input reads as it did. -/
def tabsBackSpec : ChangeSpec := { name := "tabsBack", fn := fun _ => fun
  | [d1, d2, d3, d4] => { results := [.lit (.bool true)], args := [d1, d2, d3, d4] }
  | _ => none }
def tabsBackRow : OpenClaim := { program := "ytfkiihddcinckaa", sum := "6fee4609c56a3a7192bd20a130e5aed3d2073e186bca03cd7231a2eb0bf05716", func := "jalousie/jalousielaw12.TabsBack", spec := "tabsBack", unfollowed := true, recurses := true, apart := false }
def TabsBackSaid : Prop := tabsBackRow.holds Try.pinned (OpenSpec.ofChange tabsBackSpec)

/-- ITS FALSE NEIGHBOUR: 'it returns false'. Refute it at one input. -/
def tabsBackWrong : ChangeSpec := { name := "tabsBack", fn := fun _ => fun
  | [d1, d2, d3, d4] => { results := [.lit (.bool false)], args := [d1, d2, d3, d4] }
  | _ => none }
def TabsBackWrongFalsely : Prop := tabsBackRow.holds Try.pinned (OpenSpec.ofChange tabsBackWrong)

/-- 'jalousielaw12.TabsStays': WHATEVER THE INPUT: true; the input reads as it did. -/
def tabsStaysSpec : ChangeSpec := { name := "tabsStays", fn := fun _ => fun
  | [d1, d2, d3, d4] => { results := [.lit (.bool true)], args := [d1, d2, d3, d4] }
  | _ => none }
def tabsStaysRow : OpenClaim := { program := "ytfkiihddcinckaa", sum := "6fee4609c56a3a7192bd20a130e5aed3d2073e186bca03cd7231a2eb0bf05716", func := "jalousie/jalousielaw12.TabsStays", spec := "tabsStays", unfollowed := true, recurses := true, apart := false }
def TabsStaysSaid : Prop := tabsStaysRow.holds Try.pinned (OpenSpec.ofChange tabsStaysSpec)

/-- ITS FALSE NEIGHBOUR: 'it returns false'. Refute it at one input. -/
def tabsStaysWrong : ChangeSpec := { name := "tabsStays", fn := fun _ => fun
  | [d1, d2, d3, d4] => { results := [.lit (.bool false)], args := [d1, d2, d3, d4] }
  | _ => none }
def TabsStaysWrongFalsely : Prop := tabsStaysRow.holds Try.pinned (OpenSpec.ofChange tabsStaysWrong)

/-- 'jalousielaw12.TabsKnown': WHATEVER THE INPUT: true; the input reads as it did. -/
def tabsKnownSpec : ChangeSpec := { name := "tabsKnown", fn := fun _ => fun
  | [] => { results := [.lit (.bool true)], args := [] }
  | _ => none }
def tabsKnownRow : OpenClaim := { program := "ytfkiihddcinckaa", sum := "6fee4609c56a3a7192bd20a130e5aed3d2073e186bca03cd7231a2eb0bf05716", func := "jalousie/jalousielaw12.TabsKnown", spec := "tabsKnown", unfollowed := true, recurses := true, apart := false }
def TabsKnownSaid : Prop := tabsKnownRow.holds Try.pinned (OpenSpec.ofChange tabsKnownSpec)

/-- ITS FALSE NEIGHBOUR: 'it returns false'. Refute it at one input. -/
def tabsKnownWrong : ChangeSpec := { name := "tabsKnown", fn := fun _ => fun
  | [] => { results := [.lit (.bool false)], args := [] }
  | _ => none }
def TabsKnownWrongFalsely : Prop := tabsKnownRow.holds Try.pinned (OpenSpec.ofChange tabsKnownWrong)

/- THE SECOND FORM. 'bulk': how many values and letters a reading holds, each counted each time it is reached (what is shared counts as often as it is met; a slice's spare places count too). A statement '..UptoSaid' is the law's where the arguments, and the package variables that the reading takes, are together of bulk at most 1048576: NARROWER than '..Said'. Prove '..Said' where nothing that the law and all that it calls make is longer than what came in: it says more and counts as full. Else prove '..UptoSaid'. A law counts once. -/
mutual
def uptoBulk {H : Type} : DataW H → Nat
  | .lit (.string bytes) => bytes.length + 1
  | .lit _ => 1
  | .nil => 1
  | .ptr d => uptoBulk d + 1
  | .slice elems spare => uptoBulkAll elems + uptoBulkAll spare + 1
  | .agg parts => uptoBulkAll parts + 1
  | .iface _ d => uptoBulk d + 1
  | .map entries => uptoBulkEntries entries + 1
  | .held _ => 1
def uptoBulkAll {H : Type} : List (DataW H) → Nat
  | [] => 0
  | d :: r => uptoBulk d + uptoBulkAll r
def uptoBulkEntries {H : Type} : List (Lit × DataW H) → Nat
  | [] => 0
  | x :: r => uptoBulkEntry x + uptoBulkEntries r
def uptoBulkEntry {H : Type} : Lit × DataW H → Nat
  | (.string bytes, d) => bytes.length + uptoBulk d + 1
  | (_, d) => uptoBulk d + 1
 end
def uptoSmall : (H : Type) → List (DataW H) → Bool := fun _ ds => decide (uptoBulkAll ds ≤ 1048576)
def OpenSpec.upto (s : _root_.Go.ChangeSpec) : _root_.Go.OpenSpec := { _root_.Go.OpenSpec.ofChange s with cond := some uptoSmall }

/-- 'jalousielaw12.TabsPlay', WHERE WHAT IT READS IS OF BULK AT MOST 1048576: true; the input reads as it did. -/
def tabsPlayUptoRow : OpenClaim := { program := "ytfkiihddcinckaa", sum := "6fee4609c56a3a7192bd20a130e5aed3d2073e186bca03cd7231a2eb0bf05716", func := "jalousie/jalousielaw12.TabsPlay", spec := "tabsPlay", unfollowed := true, recurses := true, apart := false, narrowed := true }
def TabsPlayUptoSaid : Prop := tabsPlayUptoRow.holds Try.pinned (OpenSpec.upto tabsPlaySpec)

/-- 'jalousielaw12.TabsMoves', WHERE WHAT IT READS IS OF BULK AT MOST 1048576: true; the input reads as it did. -/
def tabsMovesUptoRow : OpenClaim := { program := "ytfkiihddcinckaa", sum := "6fee4609c56a3a7192bd20a130e5aed3d2073e186bca03cd7231a2eb0bf05716", func := "jalousie/jalousielaw12.TabsMoves", spec := "tabsMoves", unfollowed := true, recurses := true, apart := false, narrowed := true }
def TabsMovesUptoSaid : Prop := tabsMovesUptoRow.holds Try.pinned (OpenSpec.upto tabsMovesSpec)

/-- 'jalousielaw12.TabsNobody', WHERE WHAT IT READS IS OF BULK AT MOST 1048576: true; the input reads as it did. -/
def tabsNobodyUptoRow : OpenClaim := { program := "ytfkiihddcinckaa", sum := "6fee4609c56a3a7192bd20a130e5aed3d2073e186bca03cd7231a2eb0bf05716", func := "jalousie/jalousielaw12.TabsNobody", spec := "tabsNobody", unfollowed := true, recurses := true, apart := false, narrowed := true }
def TabsNobodyUptoSaid : Prop := tabsNobodyUptoRow.holds Try.pinned (OpenSpec.upto tabsNobodySpec)

/-- 'jalousielaw12.TabsBack', WHERE WHAT IT READS IS OF BULK AT MOST 1048576: true; the input reads as it did. -/
def tabsBackUptoRow : OpenClaim := { program := "ytfkiihddcinckaa", sum := "6fee4609c56a3a7192bd20a130e5aed3d2073e186bca03cd7231a2eb0bf05716", func := "jalousie/jalousielaw12.TabsBack", spec := "tabsBack", unfollowed := true, recurses := true, apart := false, narrowed := true }
def TabsBackUptoSaid : Prop := tabsBackUptoRow.holds Try.pinned (OpenSpec.upto tabsBackSpec)

/-- 'jalousielaw12.TabsStays', WHERE WHAT IT READS IS OF BULK AT MOST 1048576: true; the input reads as it did. -/
def tabsStaysUptoRow : OpenClaim := { program := "ytfkiihddcinckaa", sum := "6fee4609c56a3a7192bd20a130e5aed3d2073e186bca03cd7231a2eb0bf05716", func := "jalousie/jalousielaw12.TabsStays", spec := "tabsStays", unfollowed := true, recurses := true, apart := false, narrowed := true }
def TabsStaysUptoSaid : Prop := tabsStaysUptoRow.holds Try.pinned (OpenSpec.upto tabsStaysSpec)

/-- 'jalousielaw12.TabsKnown', WHERE WHAT IT READS IS OF BULK AT MOST 1048576: true; the input reads as it did. -/
def tabsKnownUptoRow : OpenClaim := { program := "ytfkiihddcinckaa", sum := "6fee4609c56a3a7192bd20a130e5aed3d2073e186bca03cd7231a2eb0bf05716", func := "jalousie/jalousielaw12.TabsKnown", spec := "tabsKnown", unfollowed := true, recurses := true, apart := false, narrowed := true }
def TabsKnownUptoSaid : Prop := tabsKnownUptoRow.holds Try.pinned (OpenSpec.upto tabsKnownSpec)

end Rows
end Go.Proofs.Ytfkiihddcinckaa
