/-
  No cell of these rows narrows 'for every input' (looked for: loops, veiled, ifaces, maps, wideKeys, modest, calm, conditions, laid).
  DERIVED. THE GIVEN ROWS OF THIS SEAT. 3 by the template 'for every input the law returns true; each argument reads behind the call as it read before'; 0 by the template 'total and deterministic' (their statements: YtomfeehebkknoaaTotals.lean).
  GIVEN WITH THE SEED: the statements are not yours to turn. If you find one false, say at which input.
  Laid BY PROGRAM, IN A SANDBOX (cutbox-rows.mjs): the forced cells as the released guide's own fill.sh prints them over the translation 0104516c2583411c… (all of the seat's roots in one cut). By AI agents, Wed Nov 11 2026. No macro, syntax, notation, axiom, sorry.
-/
import Derived.Test.YtomfeehebkknoaaChecked
import GoSem.Claim
import GoSem.ClaimJoined
import GoSem.ClaimMapViews
import Derived.JoinedTies
import Derived.KernelRfl
namespace Go.Proofs.Ytomfeehebkknoaa
/- THE CELL 'sum', in the pinned program and in every row, IS THE sha256 OF THE DUMP (.gsa) THAT YtomfeehebkknoaaProg.lean LOADS. Nothing in Lean hashes anything: it is a label: what it is worth is what the hold of that sum in a sandbox is worth. -/
noncomputable def Try.pinned : Pinned := { name := "ytomfeehebkknoaa", sum := "0104516c2583411c0f9c389ec285ba9291532685e4ab8c304d9f63fcc1110c41", checked := Try.checked }
namespace Rows
def none {H : Type} : Left H := { results := [], args := [] }

/-- 'jalousielaw13.ScrollBack': WHATEVER THE INPUT: true; the input reads as it did. -/
def scrollBackSpec : ChangeSpec := { name := "scrollBack", fn := fun _ => fun
  | [d1, d2] => { results := [.lit (.bool true)], args := [d1, d2] }
  | _ => none }
def scrollBackRow : OpenClaim := { program := "ytomfeehebkknoaa", sum := "0104516c2583411c0f9c389ec285ba9291532685e4ab8c304d9f63fcc1110c41", func := "jalousie/jalousielaw13.ScrollBack", spec := "scrollBack", unfollowed := true, recurses := true, apart := false }
def ScrollBackSaid : Prop := scrollBackRow.holds Try.pinned (OpenSpec.ofChange scrollBackSpec)

/-- ITS FALSE NEIGHBOUR: 'it returns false'. Refute it at one input. -/
def scrollBackWrong : ChangeSpec := { name := "scrollBack", fn := fun _ => fun
  | [d1, d2] => { results := [.lit (.bool false)], args := [d1, d2] }
  | _ => none }
def ScrollBackWrongFalsely : Prop := scrollBackRow.holds Try.pinned (OpenSpec.ofChange scrollBackWrong)

/-- 'jalousielaw13.ScrollApart': WHATEVER THE INPUT: true; the input reads as it did. -/
def scrollApartSpec : ChangeSpec := { name := "scrollApart", fn := fun _ => fun
  | [d1, d2] => { results := [.lit (.bool true)], args := [d1, d2] }
  | _ => none }
def scrollApartRow : OpenClaim := { program := "ytomfeehebkknoaa", sum := "0104516c2583411c0f9c389ec285ba9291532685e4ab8c304d9f63fcc1110c41", func := "jalousie/jalousielaw13.ScrollApart", spec := "scrollApart", apart := false }
def ScrollApartSaid : Prop := scrollApartRow.holds Try.pinned (OpenSpec.ofChange scrollApartSpec)

/-- ITS FALSE NEIGHBOUR: 'it returns false'. Refute it at one input. -/
def scrollApartWrong : ChangeSpec := { name := "scrollApart", fn := fun _ => fun
  | [d1, d2] => { results := [.lit (.bool false)], args := [d1, d2] }
  | _ => none }
def ScrollApartWrongFalsely : Prop := scrollApartRow.holds Try.pinned (OpenSpec.ofChange scrollApartWrong)

/-- 'jalousielaw13.ScrollKnown': WHATEVER THE INPUT: true; the input reads as it did. -/
def scrollKnownSpec : ChangeSpec := { name := "scrollKnown", fn := fun _ => fun
  | [] => { results := [.lit (.bool true)], args := [] }
  | _ => none }
def scrollKnownRow : OpenClaim := { program := "ytomfeehebkknoaa", sum := "0104516c2583411c0f9c389ec285ba9291532685e4ab8c304d9f63fcc1110c41", func := "jalousie/jalousielaw13.ScrollKnown", spec := "scrollKnown", unfollowed := true, recurses := true, apart := false }
def ScrollKnownSaid : Prop := scrollKnownRow.holds Try.pinned (OpenSpec.ofChange scrollKnownSpec)

/-- ITS FALSE NEIGHBOUR: 'it returns false'. Refute it at one input. -/
def scrollKnownWrong : ChangeSpec := { name := "scrollKnown", fn := fun _ => fun
  | [] => { results := [.lit (.bool false)], args := [] }
  | _ => none }
def ScrollKnownWrongFalsely : Prop := scrollKnownRow.holds Try.pinned (OpenSpec.ofChange scrollKnownWrong)

/- THE SECOND FORM. 'bulk': how many values and letters a reading holds, each counted each time it is reached (what is shared counts as often as it is met; a slice's spare places count too). A statement '..UptoSaid' is the law's where the arguments, and the package variables that the reading takes, are together of bulk at most 1048576: NARROWER than '..Said'. Prove '..Said' where nothing that the law and all that it calls make is longer than what came in: it says more and counts as full. Else prove '..UptoSaid'. A law counts once. -/
mutual
def uptoBulk {H : Type} : DataW H → Nat
  | .lit (.string bytes) => bytes.length + 1
  | .lit _ => 1
  | .nil => 1
  | .ptr d => uptoBulk d + 1
  | .slice elems spare => uptoBulkAll elems + uptoBulkAll spare + 1
  | .agg parts => uptoBulkAll parts + 1
  | .iface _ d => uptoBulk d + 1
  | .map entries => uptoBulkEntries entries + 1
  | .held _ => 1
def uptoBulkAll {H : Type} : List (DataW H) → Nat
  | [] => 0
  | d :: r => uptoBulk d + uptoBulkAll r
def uptoBulkEntries {H : Type} : List (Lit × DataW H) → Nat
  | [] => 0
  | x :: r => uptoBulkEntry x + uptoBulkEntries r
def uptoBulkEntry {H : Type} : Lit × DataW H → Nat
  | (.string bytes, d) => bytes.length + uptoBulk d + 1
  | (_, d) => uptoBulk d + 1
 end
def uptoSmall : (H : Type) → List (DataW H) → Bool := fun _ ds => decide (uptoBulkAll ds ≤ 1048576)
def OpenSpec.upto (s : _root_.Go.ChangeSpec) : _root_.Go.OpenSpec := { _root_.Go.OpenSpec.ofChange s with cond := some uptoSmall }

/-- 'jalousielaw13.ScrollBack', WHERE WHAT IT READS IS OF BULK AT MOST 1048576: true; the input reads as it did. -/
def scrollBackUptoRow : OpenClaim := { program := "ytomfeehebkknoaa", sum := "0104516c2583411c0f9c389ec285ba9291532685e4ab8c304d9f63fcc1110c41", func := "jalousie/jalousielaw13.ScrollBack", spec := "scrollBack", unfollowed := true, recurses := true, apart := false, narrowed := true }
def ScrollBackUptoSaid : Prop := scrollBackUptoRow.holds Try.pinned (OpenSpec.upto scrollBackSpec)

/-- 'jalousielaw13.ScrollApart', WHERE WHAT IT READS IS OF BULK AT MOST 1048576: true; the input reads as it did. -/
def scrollApartUptoRow : OpenClaim := { program := "ytomfeehebkknoaa", sum := "0104516c2583411c0f9c389ec285ba9291532685e4ab8c304d9f63fcc1110c41", func := "jalousie/jalousielaw13.ScrollApart", spec := "scrollApart", apart := false, narrowed := true }
def ScrollApartUptoSaid : Prop := scrollApartUptoRow.holds Try.pinned (OpenSpec.upto scrollApartSpec)

/-- 'jalousielaw13.ScrollKnown', WHERE WHAT IT READS IS OF BULK AT MOST 1048576: true; the input reads as it did. -/
def scrollKnownUptoRow : OpenClaim := { program := "ytomfeehebkknoaa", sum := "0104516c2583411c0f9c389ec285ba9291532685e4ab8c304d9f63fcc1110c41", func := "jalousie/jalousielaw13.ScrollKnown", spec := "scrollKnown", unfollowed := true, recurses := true, apart := false, narrowed := true }
def ScrollKnownUptoSaid : Prop := scrollKnownUptoRow.holds Try.pinned (OpenSpec.upto scrollKnownSpec)

end Rows
end Go.Proofs.Ytomfeehebkknoaa
