/-
  No cell of these rows narrows 'for every input' (looked for: loops, veiled, ifaces, maps, wideKeys, modest, calm, conditions, laid).
  DERIVED. THE GIVEN ROWS OF THIS SEAT. 5 by the template 'for every input the law returns true; each argument reads behind the call as it read before'; 0 by the template 'total and deterministic' (their statements: YtjeonnlcajlghaaTotals.lean).
  GIVEN WITH THE SEED: the statements are not yours to turn. If you find one false, say at which input.
  Laid BY PROGRAM, IN A SANDBOX (cutbox-rows.mjs): the forced cells as the released guide's own fill.sh prints them over the translation fe7ad799bcbcb528… (all of the seat's roots in one cut). By AI agents, Wed Nov 11 2026. No macro, syntax, notation, axiom, sorry.
-/
import Derived.Test.YtjeonnlcajlghaaChecked
import GoSem.Claim
import GoSem.ClaimJoined
import GoSem.ClaimMapViews
import Derived.JoinedTies
import Derived.KernelRfl
namespace Go.Proofs.Ytjeonnlcajlghaa
/- THE CELL 'sum', in the pinned program and in every row, IS THE sha256 OF THE DUMP (.gsa) THAT YtjeonnlcajlghaaProg.lean LOADS. Nothing in Lean hashes anything: it is a label: what it is worth is what the hold of that sum in a sandbox is worth. -/
noncomputable def Try.pinned : Pinned := { name := "ytjeonnlcajlghaa", sum := "fe7ad799bcbcb5284e3150128257c7c3558672d8ab00fbf697c053420f57b8d2", checked := Try.checked }
namespace Rows
def none {H : Type} : Left H := { results := [], args := [] }

/-- 'jalousielaw07.ParamsKnown': WHATEVER THE INPUT: true; the input reads as it did. -/
def paramsKnownSpec : ChangeSpec := { name := "paramsKnown", fn := fun _ => fun
  | [] => { results := [.lit (.bool true)], args := [] }
  | _ => none }
def paramsKnownRow : OpenClaim := { program := "ytjeonnlcajlghaa", sum := "fe7ad799bcbcb5284e3150128257c7c3558672d8ab00fbf697c053420f57b8d2", func := "jalousie/jalousielaw07.ParamsKnown", spec := "paramsKnown", inPlace := ["internal/abi.NoEscape", "internal/bytealg.MakeNoZero"], apart := false }
def ParamsKnownSaid : Prop := paramsKnownRow.holds Try.pinned (OpenSpec.ofChange paramsKnownSpec)

/-- ITS FALSE NEIGHBOUR: 'it returns false'. Refute it at one input. -/
def paramsKnownWrong : ChangeSpec := { name := "paramsKnown", fn := fun _ => fun
  | [] => { results := [.lit (.bool false)], args := [] }
  | _ => none }
def ParamsKnownWrongFalsely : Prop := paramsKnownRow.holds Try.pinned (OpenSpec.ofChange paramsKnownWrong)

/-- 'jalousielaw07.ParamsRead': WHATEVER THE INPUT: true; the input reads as it did. -/
def paramsReadSpec : ChangeSpec := { name := "paramsRead", fn := fun _ => fun
  | [d] => { results := [.lit (.bool true)], args := [d] }
  | _ => none }
def paramsReadRow : OpenClaim := { program := "ytjeonnlcajlghaa", sum := "fe7ad799bcbcb5284e3150128257c7c3558672d8ab00fbf697c053420f57b8d2", func := "jalousie/jalousielaw07.ParamsRead", spec := "paramsRead", apart := false }
def ParamsReadSaid : Prop := paramsReadRow.holds Try.pinned (OpenSpec.ofChange paramsReadSpec)

/-- ITS FALSE NEIGHBOUR: 'it returns false'. Refute it at one input. -/
def paramsReadWrong : ChangeSpec := { name := "paramsRead", fn := fun _ => fun
  | [d] => { results := [.lit (.bool false)], args := [d] }
  | _ => none }
def ParamsReadWrongFalsely : Prop := paramsReadRow.holds Try.pinned (OpenSpec.ofChange paramsReadWrong)

/-- 'jalousielaw07.ParamsLong': WHATEVER THE INPUT: true; the input reads as it did. -/
def paramsLongSpec : ChangeSpec := { name := "paramsLong", fn := fun _ => fun
  | [d1, d2, d3] => { results := [.lit (.bool true)], args := [d1, d2, d3] }
  | _ => none }
def paramsLongRow : OpenClaim := { program := "ytjeonnlcajlghaa", sum := "fe7ad799bcbcb5284e3150128257c7c3558672d8ab00fbf697c053420f57b8d2", func := "jalousie/jalousielaw07.ParamsLong", spec := "paramsLong", inPlace := ["internal/abi.NoEscape", "internal/bytealg.MakeNoZero"], apart := false }
def ParamsLongSaid : Prop := paramsLongRow.holds Try.pinned (OpenSpec.ofChange paramsLongSpec)

/-- ITS FALSE NEIGHBOUR: 'it returns false'. Refute it at one input. -/
def paramsLongWrong : ChangeSpec := { name := "paramsLong", fn := fun _ => fun
  | [d1, d2, d3] => { results := [.lit (.bool false)], args := [d1, d2, d3] }
  | _ => none }
def ParamsLongWrongFalsely : Prop := paramsLongRow.holds Try.pinned (OpenSpec.ofChange paramsLongWrong)

/-- 'jalousielaw07.ParamsOne': WHATEVER THE INPUT: true; the input reads as it did. -/
def paramsOneSpec : ChangeSpec := { name := "paramsOne", fn := fun _ => fun
  | [d1, d2, d3] => { results := [.lit (.bool true)], args := [d1, d2, d3] }
  | _ => none }
def paramsOneRow : OpenClaim := { program := "ytjeonnlcajlghaa", sum := "fe7ad799bcbcb5284e3150128257c7c3558672d8ab00fbf697c053420f57b8d2", func := "jalousie/jalousielaw07.ParamsOne", spec := "paramsOne", apart := false }
def ParamsOneSaid : Prop := paramsOneRow.holds Try.pinned (OpenSpec.ofChange paramsOneSpec)

/-- ITS FALSE NEIGHBOUR: 'it returns false'. Refute it at one input. -/
def paramsOneWrong : ChangeSpec := { name := "paramsOne", fn := fun _ => fun
  | [d1, d2, d3] => { results := [.lit (.bool false)], args := [d1, d2, d3] }
  | _ => none }
def ParamsOneWrongFalsely : Prop := paramsOneRow.holds Try.pinned (OpenSpec.ofChange paramsOneWrong)

/-- 'jalousielaw07.ParamsBounds': WHATEVER THE INPUT: true; the input reads as it did. -/
def paramsBoundsSpec : ChangeSpec := { name := "paramsBounds", fn := fun _ => fun
  | [d1, d2] => { results := [.lit (.bool true)], args := [d1, d2] }
  | _ => none }
def paramsBoundsRow : OpenClaim := { program := "ytjeonnlcajlghaa", sum := "fe7ad799bcbcb5284e3150128257c7c3558672d8ab00fbf697c053420f57b8d2", func := "jalousie/jalousielaw07.ParamsBounds", spec := "paramsBounds", apart := false }
def ParamsBoundsSaid : Prop := paramsBoundsRow.holds Try.pinned (OpenSpec.ofChange paramsBoundsSpec)

/-- ITS FALSE NEIGHBOUR: 'it returns false'. Refute it at one input. -/
def paramsBoundsWrong : ChangeSpec := { name := "paramsBounds", fn := fun _ => fun
  | [d1, d2] => { results := [.lit (.bool false)], args := [d1, d2] }
  | _ => none }
def ParamsBoundsWrongFalsely : Prop := paramsBoundsRow.holds Try.pinned (OpenSpec.ofChange paramsBoundsWrong)

/- THE SECOND FORM. 'bulk': how many values and letters a reading holds, each counted each time it is reached (what is shared counts as often as it is met; a slice's spare places count too). A statement '..UptoSaid' is the law's where the arguments, and the package variables that the reading takes, are together of bulk at most 1048576: NARROWER than '..Said'. Prove '..Said' where nothing that the law and all that it calls make is longer than what came in: it says more and counts as full. Else prove '..UptoSaid'. A law counts once. -/
mutual
def uptoBulk {H : Type} : DataW H → Nat
  | .lit (.string bytes) => bytes.length + 1
  | .lit _ => 1
  | .nil => 1
  | .ptr d => uptoBulk d + 1
  | .slice elems spare => uptoBulkAll elems + uptoBulkAll spare + 1
  | .agg parts => uptoBulkAll parts + 1
  | .iface _ d => uptoBulk d + 1
  | .map entries => uptoBulkEntries entries + 1
  | .held _ => 1
def uptoBulkAll {H : Type} : List (DataW H) → Nat
  | [] => 0
  | d :: r => uptoBulk d + uptoBulkAll r
def uptoBulkEntries {H : Type} : List (Lit × DataW H) → Nat
  | [] => 0
  | x :: r => uptoBulkEntry x + uptoBulkEntries r
def uptoBulkEntry {H : Type} : Lit × DataW H → Nat
  | (.string bytes, d) => bytes.length + uptoBulk d + 1
  | (_, d) => uptoBulk d + 1
 end
def uptoSmall : (H : Type) → List (DataW H) → Bool := fun _ ds => decide (uptoBulkAll ds ≤ 1048576)
def OpenSpec.upto (s : _root_.Go.ChangeSpec) : _root_.Go.OpenSpec := { _root_.Go.OpenSpec.ofChange s with cond := some uptoSmall }

/-- 'jalousielaw07.ParamsKnown', WHERE WHAT IT READS IS OF BULK AT MOST 1048576: true; the input reads as it did. -/
def paramsKnownUptoRow : OpenClaim := { program := "ytjeonnlcajlghaa", sum := "fe7ad799bcbcb5284e3150128257c7c3558672d8ab00fbf697c053420f57b8d2", func := "jalousie/jalousielaw07.ParamsKnown", spec := "paramsKnown", inPlace := ["internal/abi.NoEscape", "internal/bytealg.MakeNoZero"], apart := false, narrowed := true }
def ParamsKnownUptoSaid : Prop := paramsKnownUptoRow.holds Try.pinned (OpenSpec.upto paramsKnownSpec)

/-- 'jalousielaw07.ParamsRead', WHERE WHAT IT READS IS OF BULK AT MOST 1048576: true; the input reads as it did. -/
def paramsReadUptoRow : OpenClaim := { program := "ytjeonnlcajlghaa", sum := "fe7ad799bcbcb5284e3150128257c7c3558672d8ab00fbf697c053420f57b8d2", func := "jalousie/jalousielaw07.ParamsRead", spec := "paramsRead", apart := false, narrowed := true }
def ParamsReadUptoSaid : Prop := paramsReadUptoRow.holds Try.pinned (OpenSpec.upto paramsReadSpec)

/-- 'jalousielaw07.ParamsLong', WHERE WHAT IT READS IS OF BULK AT MOST 1048576: true; the input reads as it did. -/
def paramsLongUptoRow : OpenClaim := { program := "ytjeonnlcajlghaa", sum := "fe7ad799bcbcb5284e3150128257c7c3558672d8ab00fbf697c053420f57b8d2", func := "jalousie/jalousielaw07.ParamsLong", spec := "paramsLong", inPlace := ["internal/abi.NoEscape", "internal/bytealg.MakeNoZero"], apart := false, narrowed := true }
def ParamsLongUptoSaid : Prop := paramsLongUptoRow.holds Try.pinned (OpenSpec.upto paramsLongSpec)

/-- 'jalousielaw07.ParamsOne', WHERE WHAT IT READS IS OF BULK AT MOST 1048576: true; the input reads as it did. -/
def paramsOneUptoRow : OpenClaim := { program := "ytjeonnlcajlghaa", sum := "fe7ad799bcbcb5284e3150128257c7c3558672d8ab00fbf697c053420f57b8d2", func := "jalousie/jalousielaw07.ParamsOne", spec := "paramsOne", apart := false, narrowed := true }
def ParamsOneUptoSaid : Prop := paramsOneUptoRow.holds Try.pinned (OpenSpec.upto paramsOneSpec)

/-- 'jalousielaw07.ParamsBounds', WHERE WHAT IT READS IS OF BULK AT MOST 1048576: true; the input reads as it did. -/
def paramsBoundsUptoRow : OpenClaim := { program := "ytjeonnlcajlghaa", sum := "fe7ad799bcbcb5284e3150128257c7c3558672d8ab00fbf697c053420f57b8d2", func := "jalousie/jalousielaw07.ParamsBounds", spec := "paramsBounds", apart := false, narrowed := true }
def ParamsBoundsUptoSaid : Prop := paramsBoundsUptoRow.holds Try.pinned (OpenSpec.upto paramsBoundsSpec)

end Rows
end Go.Proofs.Ytjeonnlcajlghaa
