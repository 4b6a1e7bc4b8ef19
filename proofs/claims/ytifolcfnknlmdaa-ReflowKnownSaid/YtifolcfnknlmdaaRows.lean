/-
  No cell of these rows narrows 'for every input' (looked for: loops, veiled, ifaces, maps, wideKeys, modest, calm, conditions, laid).
  DERIVED. THE GIVEN ROWS OF THIS SEAT. 5 by the template 'for every input the law returns true; each argument reads behind the call as it read before'; 0 by the template 'total and deterministic' (their statements: YtifolcfnknlmdaaTotals.lean).
  GIVEN WITH THE SEED: the statements are not yours to turn. If you find one false, say at which input.
  Laid BY PROGRAM, IN A SANDBOX (cutbox-rows.mjs): the forced cells as the released guide's own fill.sh prints them over the translation 057e147a1e9371be… (all of the seat's roots in one cut). By AI agents, Wed Nov 11 2026. No macro, syntax, notation, axiom, sorry.
-/
import Derived.Test.YtifolcfnknlmdaaChecked
import GoSem.Claim
import GoSem.ClaimJoined
import GoSem.ClaimMapViews
import Derived.JoinedTies
import Derived.KernelRfl
namespace Go.Proofs.Ytifolcfnknlmdaa
/- THE CELL 'sum', in the pinned program and in every row, IS THE sha256 OF THE DUMP (.gsa) THAT YtifolcfnknlmdaaProg.lean LOADS. Nothing in Lean hashes anything: it is a label: what it is worth is what the hold of that sum in a sandbox is worth. -/
noncomputable def Try.pinned : Pinned := { name := "ytifolcfnknlmdaa", sum := "057e147a1e9371be61821b713c56d5b1667c15c89e86a42d63d6c227c3653c6c", checked := Try.checked }
namespace Rows
def none {H : Type} : Left H := { results := [], args := [] }

/-- 'jalousielaw15.ReflowKeeps': WHATEVER THE INPUT: true; the input reads as it did. -/
def reflowKeepsSpec : ChangeSpec := { name := "reflowKeeps", fn := fun _ => fun
  | [d1, d2, d3, d4] => { results := [.lit (.bool true)], args := [d1, d2, d3, d4] }
  | _ => none }
def reflowKeepsRow : OpenClaim := { program := "ytifolcfnknlmdaa", sum := "057e147a1e9371be61821b713c56d5b1667c15c89e86a42d63d6c227c3653c6c", func := "jalousie/jalousielaw15.ReflowKeeps", spec := "reflowKeeps", apart := false }
def ReflowKeepsSaid : Prop := reflowKeepsRow.holds Try.pinned (OpenSpec.ofChange reflowKeepsSpec)

/-- ITS FALSE NEIGHBOUR: 'it returns false'. Refute it at one input. -/
def reflowKeepsWrong : ChangeSpec := { name := "reflowKeeps", fn := fun _ => fun
  | [d1, d2, d3, d4] => { results := [.lit (.bool false)], args := [d1, d2, d3, d4] }
  | _ => none }
def ReflowKeepsWrongFalsely : Prop := reflowKeepsRow.holds Try.pinned (OpenSpec.ofChange reflowKeepsWrong)

/-- 'jalousielaw15.ReflowKnown': WHATEVER THE INPUT: true; the input reads as it did. -/
def reflowKnownSpec : ChangeSpec := { name := "reflowKnown", fn := fun _ => fun
  | [] => { results := [.lit (.bool true)], args := [] }
  | _ => none }
def reflowKnownRow : OpenClaim := { program := "ytifolcfnknlmdaa", sum := "057e147a1e9371be61821b713c56d5b1667c15c89e86a42d63d6c227c3653c6c", func := "jalousie/jalousielaw15.ReflowKnown", spec := "reflowKnown", apart := false }
def ReflowKnownSaid : Prop := reflowKnownRow.holds Try.pinned (OpenSpec.ofChange reflowKnownSpec)

/-- ITS FALSE NEIGHBOUR: 'it returns false'. Refute it at one input. -/
def reflowKnownWrong : ChangeSpec := { name := "reflowKnown", fn := fun _ => fun
  | [] => { results := [.lit (.bool false)], args := [] }
  | _ => none }
def ReflowKnownWrongFalsely : Prop := reflowKnownRow.holds Try.pinned (OpenSpec.ofChange reflowKnownWrong)

/-- 'jalousielaw15.ReflowPlaces': WHATEVER THE INPUT: true; the input reads as it did. -/
def reflowPlacesSpec : ChangeSpec := { name := "reflowPlaces", fn := fun _ => fun
  | [d1, d2, d3, d4] => { results := [.lit (.bool true)], args := [d1, d2, d3, d4] }
  | _ => none }
def reflowPlacesRow : OpenClaim := { program := "ytifolcfnknlmdaa", sum := "057e147a1e9371be61821b713c56d5b1667c15c89e86a42d63d6c227c3653c6c", func := "jalousie/jalousielaw15.ReflowPlaces", spec := "reflowPlaces", apart := false }
def ReflowPlacesSaid : Prop := reflowPlacesRow.holds Try.pinned (OpenSpec.ofChange reflowPlacesSpec)

/-- ITS FALSE NEIGHBOUR: 'it returns false'. Refute it at one input. -/
def reflowPlacesWrong : ChangeSpec := { name := "reflowPlaces", fn := fun _ => fun
  | [d1, d2, d3, d4] => { results := [.lit (.bool false)], args := [d1, d2, d3, d4] }
  | _ => none }
def ReflowPlacesWrongFalsely : Prop := reflowPlacesRow.holds Try.pinned (OpenSpec.ofChange reflowPlacesWrong)

/-- 'jalousielaw15.ReflowTwice': WHATEVER THE INPUT: true; the input reads as it did. -/
def reflowTwiceSpec : ChangeSpec := { name := "reflowTwice", fn := fun _ => fun
  | [d1, d2, d3] => { results := [.lit (.bool true)], args := [d1, d2, d3] }
  | _ => none }
def reflowTwiceRow : OpenClaim := { program := "ytifolcfnknlmdaa", sum := "057e147a1e9371be61821b713c56d5b1667c15c89e86a42d63d6c227c3653c6c", func := "jalousie/jalousielaw15.ReflowTwice", spec := "reflowTwice", apart := false }
def ReflowTwiceSaid : Prop := reflowTwiceRow.holds Try.pinned (OpenSpec.ofChange reflowTwiceSpec)

/-- ITS FALSE NEIGHBOUR: 'it returns false'. Refute it at one input. -/
def reflowTwiceWrong : ChangeSpec := { name := "reflowTwice", fn := fun _ => fun
  | [d1, d2, d3] => { results := [.lit (.bool false)], args := [d1, d2, d3] }
  | _ => none }
def ReflowTwiceWrongFalsely : Prop := reflowTwiceRow.holds Try.pinned (OpenSpec.ofChange reflowTwiceWrong)

/-- 'jalousielaw15.ReflowWidth': WHATEVER THE INPUT: true; the input reads as it did. -/
def reflowWidthSpec : ChangeSpec := { name := "reflowWidth", fn := fun _ => fun
  | [d1, d2] => { results := [.lit (.bool true)], args := [d1, d2] }
  | _ => none }
def reflowWidthRow : OpenClaim := { program := "ytifolcfnknlmdaa", sum := "057e147a1e9371be61821b713c56d5b1667c15c89e86a42d63d6c227c3653c6c", func := "jalousie/jalousielaw15.ReflowWidth", spec := "reflowWidth", apart := false }
def ReflowWidthSaid : Prop := reflowWidthRow.holds Try.pinned (OpenSpec.ofChange reflowWidthSpec)

/-- ITS FALSE NEIGHBOUR: 'it returns false'. Refute it at one input. -/
def reflowWidthWrong : ChangeSpec := { name := "reflowWidth", fn := fun _ => fun
  | [d1, d2] => { results := [.lit (.bool false)], args := [d1, d2] }
  | _ => none }
def ReflowWidthWrongFalsely : Prop := reflowWidthRow.holds Try.pinned (OpenSpec.ofChange reflowWidthWrong)

/- THE SECOND FORM. 'bulk': how many values and letters a reading holds, each counted each time it is reached (what is shared counts as often as it is met; a slice's spare places count too). A statement '..UptoSaid' is the law's where the arguments, and the package variables that the reading takes, are together of bulk at most 1048576: NARROWER than '..Said'. Prove '..Said' where nothing that the law and all that it calls make is longer than what came in: it says more and counts as full. Else prove '..UptoSaid'. A law counts once. -/
mutual
def uptoBulk {H : Type} : DataW H → Nat
  | .lit (.string bytes) => bytes.length + 1
  | .lit _ => 1
  | .nil => 1
  | .ptr d => uptoBulk d + 1
  | .slice elems spare => uptoBulkAll elems + uptoBulkAll spare + 1
  | .agg parts => uptoBulkAll parts + 1
  | .iface _ d => uptoBulk d + 1
  | .map entries => uptoBulkEntries entries + 1
  | .held _ => 1
def uptoBulkAll {H : Type} : List (DataW H) → Nat
  | [] => 0
  | d :: r => uptoBulk d + uptoBulkAll r
def uptoBulkEntries {H : Type} : List (Lit × DataW H) → Nat
  | [] => 0
  | x :: r => uptoBulkEntry x + uptoBulkEntries r
def uptoBulkEntry {H : Type} : Lit × DataW H → Nat
  | (.string bytes, d) => bytes.length + uptoBulk d + 1
  | (_, d) => uptoBulk d + 1
 end
def uptoSmall : (H : Type) → List (DataW H) → Bool := fun _ ds => decide (uptoBulkAll ds ≤ 1048576)
def OpenSpec.upto (s : _root_.Go.ChangeSpec) : _root_.Go.OpenSpec := { _root_.Go.OpenSpec.ofChange s with cond := some uptoSmall }

/-- 'jalousielaw15.ReflowKeeps', WHERE WHAT IT READS IS OF BULK AT MOST 1048576: true; the input reads as it did. -/
def reflowKeepsUptoRow : OpenClaim := { program := "ytifolcfnknlmdaa", sum := "057e147a1e9371be61821b713c56d5b1667c15c89e86a42d63d6c227c3653c6c", func := "jalousie/jalousielaw15.ReflowKeeps", spec := "reflowKeeps", apart := false, narrowed := true }
def ReflowKeepsUptoSaid : Prop := reflowKeepsUptoRow.holds Try.pinned (OpenSpec.upto reflowKeepsSpec)

/-- 'jalousielaw15.ReflowKnown', WHERE WHAT IT READS IS OF BULK AT MOST 1048576: true; the input reads as it did. -/
def reflowKnownUptoRow : OpenClaim := { program := "ytifolcfnknlmdaa", sum := "057e147a1e9371be61821b713c56d5b1667c15c89e86a42d63d6c227c3653c6c", func := "jalousie/jalousielaw15.ReflowKnown", spec := "reflowKnown", apart := false, narrowed := true }
def ReflowKnownUptoSaid : Prop := reflowKnownUptoRow.holds Try.pinned (OpenSpec.upto reflowKnownSpec)

/-- 'jalousielaw15.ReflowPlaces', WHERE WHAT IT READS IS OF BULK AT MOST 1048576: true; the input reads as it did. -/
def reflowPlacesUptoRow : OpenClaim := { program := "ytifolcfnknlmdaa", sum := "057e147a1e9371be61821b713c56d5b1667c15c89e86a42d63d6c227c3653c6c", func := "jalousie/jalousielaw15.ReflowPlaces", spec := "reflowPlaces", apart := false, narrowed := true }
def ReflowPlacesUptoSaid : Prop := reflowPlacesUptoRow.holds Try.pinned (OpenSpec.upto reflowPlacesSpec)

/-- 'jalousielaw15.ReflowTwice', WHERE WHAT IT READS IS OF BULK AT MOST 1048576: true; the input reads as it did. -/
def reflowTwiceUptoRow : OpenClaim := { program := "ytifolcfnknlmdaa", sum := "057e147a1e9371be61821b713c56d5b1667c15c89e86a42d63d6c227c3653c6c", func := "jalousie/jalousielaw15.ReflowTwice", spec := "reflowTwice", apart := false, narrowed := true }
def ReflowTwiceUptoSaid : Prop := reflowTwiceUptoRow.holds Try.pinned (OpenSpec.upto reflowTwiceSpec)

/-- 'jalousielaw15.ReflowWidth', WHERE WHAT IT READS IS OF BULK AT MOST 1048576: true; the input reads as it did. -/
def reflowWidthUptoRow : OpenClaim := { program := "ytifolcfnknlmdaa", sum := "057e147a1e9371be61821b713c56d5b1667c15c89e86a42d63d6c227c3653c6c", func := "jalousie/jalousielaw15.ReflowWidth", spec := "reflowWidth", apart := false, narrowed := true }
def ReflowWidthUptoSaid : Prop := reflowWidthUptoRow.holds Try.pinned (OpenSpec.upto reflowWidthSpec)

end Rows
end Go.Proofs.Ytifolcfnknlmdaa
