/-
  No cell of these rows narrows 'for every input' (looked for: loops, veiled, ifaces, maps, wideKeys, modest, calm, conditions, laid).
  DERIVED. THE GIVEN ROWS OF THIS SEAT. 5 by the template 'for every input the law returns true; each argument reads behind the call as it read before'; 0 by the template 'total and deterministic' (their statements: YthflnllmenapkaaTotals.lean).
  GIVEN WITH THE SEED: the statements are not yours to turn. If you find one false, say at which input.
  Laid BY PROGRAM, IN A SANDBOX (cutbox-rows.mjs): the forced cells as the released guide's own fill.sh prints them over the translation 70c6492734680860… (all of the seat's roots in one cut). By AI agents, Wed Nov 11 2026. No macro, syntax, notation, axiom, sorry.
-/
import Derived.Test.YthflnllmenapkaaChecked
import GoSem.Claim
import GoSem.ClaimJoined
import GoSem.ClaimMapViews
import Derived.JoinedTies
import Derived.KernelRfl
namespace Go.Proofs.Ythflnllmenapkaa
/- THE CELL 'sum', in the pinned program and in every row, IS THE sha256 OF THE DUMP (.gsa) THAT YthflnllmenapkaaProg.lean LOADS. Nothing in Lean hashes anything: it is a label: what it is worth is what the hold of that sum in a sandbox is worth. -/
noncomputable def Try.pinned : Pinned := { name := "ythflnllmenapkaa", sum := "70c649273468086095f5f561917b5233b528b816b1ca9a47272b63fdb48bbc07", checked := Try.checked }
namespace Rows
def none {H : Type} : Left H := { results := [], args := [] }

/-- 'jalousielaw06.StatesAll': WHATEVER THE INPUT: true; the input reads as it did. -/
def statesAllSpec : ChangeSpec := { name := "statesAll", fn := fun _ => fun
  | [] => { results := [.lit (.bool true)], args := [] }
  | _ => none }
def statesAllRow : OpenClaim := { program := "ythflnllmenapkaa", sum := "70c649273468086095f5f561917b5233b528b816b1ca9a47272b63fdb48bbc07", func := "jalousie/jalousielaw06.StatesAll", spec := "statesAll", apart := false }
def StatesAllSaid : Prop := statesAllRow.holds Try.pinned (OpenSpec.ofChange statesAllSpec)

/-- ITS FALSE NEIGHBOUR: 'it returns false'. Refute it at one input. -/
def statesAllWrong : ChangeSpec := { name := "statesAll", fn := fun _ => fun
  | [] => { results := [.lit (.bool false)], args := [] }
  | _ => none }
def StatesAllWrongFalsely : Prop := statesAllRow.holds Try.pinned (OpenSpec.ofChange statesAllWrong)

/-- 'jalousielaw06.StatesNames': WHATEVER THE INPUT: true; the input reads as it did. -/
def statesNamesSpec : ChangeSpec := { name := "statesNames", fn := fun _ => fun
  | [] => { results := [.lit (.bool true)], args := [] }
  | _ => none }
def statesNamesRow : OpenClaim := { program := "ythflnllmenapkaa", sum := "70c649273468086095f5f561917b5233b528b816b1ca9a47272b63fdb48bbc07", func := "jalousie/jalousielaw06.StatesNames", spec := "statesNames", apart := false }
def StatesNamesSaid : Prop := statesNamesRow.holds Try.pinned (OpenSpec.ofChange statesNamesSpec)

/-- ITS FALSE NEIGHBOUR: 'it returns false'. Refute it at one input. -/
def statesNamesWrong : ChangeSpec := { name := "statesNames", fn := fun _ => fun
  | [] => { results := [.lit (.bool false)], args := [] }
  | _ => none }
def StatesNamesWrongFalsely : Prop := statesNamesRow.holds Try.pinned (OpenSpec.ofChange statesNamesWrong)

/-- 'jalousielaw06.StatesTell': WHATEVER THE INPUT: true; the input reads as it did. -/
def statesTellSpec : ChangeSpec := { name := "statesTell", fn := fun _ => fun
  | [d1, d2] => { results := [.lit (.bool true)], args := [d1, d2] }
  | _ => none }
def statesTellRow : OpenClaim := { program := "ythflnllmenapkaa", sum := "70c649273468086095f5f561917b5233b528b816b1ca9a47272b63fdb48bbc07", func := "jalousie/jalousielaw06.StatesTell", spec := "statesTell", apart := false }
def StatesTellSaid : Prop := statesTellRow.holds Try.pinned (OpenSpec.ofChange statesTellSpec)

/-- ITS FALSE NEIGHBOUR: 'it returns false'. Refute it at one input. -/
def statesTellWrong : ChangeSpec := { name := "statesTell", fn := fun _ => fun
  | [d1, d2] => { results := [.lit (.bool false)], args := [d1, d2] }
  | _ => none }
def StatesTellWrongFalsely : Prop := statesTellRow.holds Try.pinned (OpenSpec.ofChange statesTellWrong)

/-- 'jalousielaw06.StatesCalm': WHATEVER THE INPUT: true; the input reads as it did. -/
def statesCalmSpec : ChangeSpec := { name := "statesCalm", fn := fun _ => fun
  | [d1, d2, d3] => { results := [.lit (.bool true)], args := [d1, d2, d3] }
  | _ => none }
def statesCalmRow : OpenClaim := { program := "ythflnllmenapkaa", sum := "70c649273468086095f5f561917b5233b528b816b1ca9a47272b63fdb48bbc07", func := "jalousie/jalousielaw06.StatesCalm", spec := "statesCalm", apart := false }
def StatesCalmSaid : Prop := statesCalmRow.holds Try.pinned (OpenSpec.ofChange statesCalmSpec)

/-- ITS FALSE NEIGHBOUR: 'it returns false'. Refute it at one input. -/
def statesCalmWrong : ChangeSpec := { name := "statesCalm", fn := fun _ => fun
  | [d1, d2, d3] => { results := [.lit (.bool false)], args := [d1, d2, d3] }
  | _ => none }
def StatesCalmWrongFalsely : Prop := statesCalmRow.holds Try.pinned (OpenSpec.ofChange statesCalmWrong)

/-- 'jalousielaw06.StatesOver': WHATEVER THE INPUT: true; the input reads as it did. -/
def statesOverSpec : ChangeSpec := { name := "statesOver", fn := fun _ => fun
  | [d1, d2, d3] => { results := [.lit (.bool true)], args := [d1, d2, d3] }
  | _ => none }
def statesOverRow : OpenClaim := { program := "ythflnllmenapkaa", sum := "70c649273468086095f5f561917b5233b528b816b1ca9a47272b63fdb48bbc07", func := "jalousie/jalousielaw06.StatesOver", spec := "statesOver", apart := false }
def StatesOverSaid : Prop := statesOverRow.holds Try.pinned (OpenSpec.ofChange statesOverSpec)

/-- ITS FALSE NEIGHBOUR: 'it returns false'. Refute it at one input. -/
def statesOverWrong : ChangeSpec := { name := "statesOver", fn := fun _ => fun
  | [d1, d2, d3] => { results := [.lit (.bool false)], args := [d1, d2, d3] }
  | _ => none }
def StatesOverWrongFalsely : Prop := statesOverRow.holds Try.pinned (OpenSpec.ofChange statesOverWrong)

/- THE SECOND FORM. 'bulk': how many values and letters a reading holds, each counted each time it is reached (what is shared counts as often as it is met; a slice's spare places count too). A statement '..UptoSaid' is the law's where the arguments, and the package variables that the reading takes, are together of bulk at most 1048576: NARROWER than '..Said'. Prove '..Said' where nothing that the law and all that it calls make is longer than what came in: it says more and counts as full. Else prove '..UptoSaid'. A law counts once. -/
mutual
def uptoBulk {H : Type} : DataW H → Nat
  | .lit (.string bytes) => bytes.length + 1
  | .lit _ => 1
  | .nil => 1
  | .ptr d => uptoBulk d + 1
  | .slice elems spare => uptoBulkAll elems + uptoBulkAll spare + 1
  | .agg parts => uptoBulkAll parts + 1
  | .iface _ d => uptoBulk d + 1
  | .map entries => uptoBulkEntries entries + 1
  | .held _ => 1
def uptoBulkAll {H : Type} : List (DataW H) → Nat
  | [] => 0
  | d :: r => uptoBulk d + uptoBulkAll r
def uptoBulkEntries {H : Type} : List (Lit × DataW H) → Nat
  | [] => 0
  | x :: r => uptoBulkEntry x + uptoBulkEntries r
def uptoBulkEntry {H : Type} : Lit × DataW H → Nat
  | (.string bytes, d) => bytes.length + uptoBulk d + 1
  | (_, d) => uptoBulk d + 1
 end
def uptoSmall : (H : Type) → List (DataW H) → Bool := fun _ ds => decide (uptoBulkAll ds ≤ 1048576)
def OpenSpec.upto (s : _root_.Go.ChangeSpec) : _root_.Go.OpenSpec := { _root_.Go.OpenSpec.ofChange s with cond := some uptoSmall }

/-- 'jalousielaw06.StatesAll', WHERE WHAT IT READS IS OF BULK AT MOST 1048576: true; the input reads as it did. -/
def statesAllUptoRow : OpenClaim := { program := "ythflnllmenapkaa", sum := "70c649273468086095f5f561917b5233b528b816b1ca9a47272b63fdb48bbc07", func := "jalousie/jalousielaw06.StatesAll", spec := "statesAll", apart := false, narrowed := true }
def StatesAllUptoSaid : Prop := statesAllUptoRow.holds Try.pinned (OpenSpec.upto statesAllSpec)

/-- 'jalousielaw06.StatesNames', WHERE WHAT IT READS IS OF BULK AT MOST 1048576: true; the input reads as it did. -/
def statesNamesUptoRow : OpenClaim := { program := "ythflnllmenapkaa", sum := "70c649273468086095f5f561917b5233b528b816b1ca9a47272b63fdb48bbc07", func := "jalousie/jalousielaw06.StatesNames", spec := "statesNames", apart := false, narrowed := true }
def StatesNamesUptoSaid : Prop := statesNamesUptoRow.holds Try.pinned (OpenSpec.upto statesNamesSpec)

/-- 'jalousielaw06.StatesTell', WHERE WHAT IT READS IS OF BULK AT MOST 1048576: true; the input reads as it did. -/
def statesTellUptoRow : OpenClaim := { program := "ythflnllmenapkaa", sum := "70c649273468086095f5f561917b5233b528b816b1ca9a47272b63fdb48bbc07", func := "jalousie/jalousielaw06.StatesTell", spec := "statesTell", apart := false, narrowed := true }
def StatesTellUptoSaid : Prop := statesTellUptoRow.holds Try.pinned (OpenSpec.upto statesTellSpec)

/-- 'jalousielaw06.StatesCalm', WHERE WHAT IT READS IS OF BULK AT MOST 1048576: true; the input reads as it did. -/
def statesCalmUptoRow : OpenClaim := { program := "ythflnllmenapkaa", sum := "70c649273468086095f5f561917b5233b528b816b1ca9a47272b63fdb48bbc07", func := "jalousie/jalousielaw06.StatesCalm", spec := "statesCalm", apart := false, narrowed := true }
def StatesCalmUptoSaid : Prop := statesCalmUptoRow.holds Try.pinned (OpenSpec.upto statesCalmSpec)

/-- 'jalousielaw06.StatesOver', WHERE WHAT IT READS IS OF BULK AT MOST 1048576: true; the input reads as it did. -/
def statesOverUptoRow : OpenClaim := { program := "ythflnllmenapkaa", sum := "70c649273468086095f5f561917b5233b528b816b1ca9a47272b63fdb48bbc07", func := "jalousie/jalousielaw06.StatesOver", spec := "statesOver", apart := false, narrowed := true }
def StatesOverUptoSaid : Prop := statesOverUptoRow.holds Try.pinned (OpenSpec.upto statesOverSpec)

end Rows
end Go.Proofs.Ythflnllmenapkaa
