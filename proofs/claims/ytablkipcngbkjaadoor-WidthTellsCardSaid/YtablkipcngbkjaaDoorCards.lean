/-
  DERIVED. GIVEN WITH THE SEED: THE CARDS: each row of YtablkipcngbkjaaDoorRows.lean that lists a variable, with what it lists TIED to the program's text (the seventh form; the later family's looks); each row that meets fmt, with fmt's text TOLD by the authors' own Lean function (tested against real Go, not proved from fmt's source: count such statements apart). THE CARD IS WHAT COUNTS. Prove the row's statement (the work); the ties are given (YtablkipcngbkjaaDoorTie.lean); close each card by the builder's one call (the guide's Derived/Test/ToyasCard.lean, 'card_holds'). Laid BY PROGRAM, IN A SANDBOX (cutbox-door.mjs). By AI agents, Wed Nov 11 2026. No macro, syntax, notation, axiom, sorry.
-/
import Derived.Test.YtablkipcngbkjaaDoorRows
import GoSem.ClaimSeven
namespace Go.Proofs.YtablkipcngbkjaaDoor
namespace Rows

/-- THE TIED CARD OF 'jalousielaw09.WidthBounds'. -/
def widthBoundsCard : Claim7 := { stood := { row := widthBoundsRow, standIns := [], harness := (true, "2dd37f77ba4defd5d4e30b0409c0d58134af083314ff8a03649f26e304271f29"), looks := false }, kinds := [], alts := [], laidByText := true, laidKinds := [.data], laidTests := true, laidLooks := .later }
def WidthBoundsCardSaid : Prop := Claim7.holds Tryd.pinned (.plain (OpenSpec.ofChange widthBoundsSpec)) widthBoundsCard

/-- THE TIED CARD OF 'jalousielaw09.WidthTells'. -/
def widthTellsCard : Claim7 := { stood := { row := widthTellsRow, standIns := [], harness := (true, "2dd37f77ba4defd5d4e30b0409c0d58134af083314ff8a03649f26e304271f29"), looks := false }, kinds := [], alts := [], laidByText := true, laidKinds := [.data], laidTests := true, laidLooks := .later }
def WidthTellsCardSaid : Prop := Claim7.holds Tryd.pinned (.plain (OpenSpec.ofChange widthTellsSpec)) widthTellsCard

/-- THE TIED CARD OF 'jalousielaw09.WidthTexts'. -/
def widthTextsCard : Claim7 := { stood := { row := widthTextsRow, standIns := [], harness := (true, "2dd37f77ba4defd5d4e30b0409c0d58134af083314ff8a03649f26e304271f29"), looks := false }, kinds := [], alts := [], laidByText := true, laidKinds := [.data], laidTests := true, laidLooks := .later }
def WidthTextsCardSaid : Prop := Claim7.holds Tryd.pinned (.plain (OpenSpec.ofChange widthTextsSpec)) widthTextsCard

/-- THE TIED CARD OF 'jalousielaw09.WidthCuts'. -/
def widthCutsCard : Claim7 := { stood := { row := widthCutsRow, standIns := [], harness := (true, "2dd37f77ba4defd5d4e30b0409c0d58134af083314ff8a03649f26e304271f29"), looks := false }, kinds := [], alts := [], laidByText := true, laidKinds := [.data], laidTests := true, laidLooks := .later }
def WidthCutsCardSaid : Prop := Claim7.holds Tryd.pinned (.plain (OpenSpec.ofChange widthCutsSpec)) widthCutsCard

/-- THE SECOND FORM's CARD OF 'jalousielaw09.WidthBounds'. -/
def widthBoundsUptoCard : Claim7 := { stood := { row := widthBoundsUptoRow, standIns := [], harness := (true, "2dd37f77ba4defd5d4e30b0409c0d58134af083314ff8a03649f26e304271f29"), looks := false }, kinds := [], alts := [], laidByText := true, laidKinds := [.data], laidTests := true, laidLooks := .later }
def WidthBoundsUptoCardSaid : Prop := Claim7.holds Tryd.pinned (.plain (OpenSpec.upto widthBoundsSpec)) widthBoundsUptoCard

/-- THE SECOND FORM's CARD OF 'jalousielaw09.WidthTells'. -/
def widthTellsUptoCard : Claim7 := { stood := { row := widthTellsUptoRow, standIns := [], harness := (true, "2dd37f77ba4defd5d4e30b0409c0d58134af083314ff8a03649f26e304271f29"), looks := false }, kinds := [], alts := [], laidByText := true, laidKinds := [.data], laidTests := true, laidLooks := .later }
def WidthTellsUptoCardSaid : Prop := Claim7.holds Tryd.pinned (.plain (OpenSpec.upto widthTellsSpec)) widthTellsUptoCard

/-- THE SECOND FORM's CARD OF 'jalousielaw09.WidthTexts'. -/
def widthTextsUptoCard : Claim7 := { stood := { row := widthTextsUptoRow, standIns := [], harness := (true, "2dd37f77ba4defd5d4e30b0409c0d58134af083314ff8a03649f26e304271f29"), looks := false }, kinds := [], alts := [], laidByText := true, laidKinds := [.data], laidTests := true, laidLooks := .later }
def WidthTextsUptoCardSaid : Prop := Claim7.holds Tryd.pinned (.plain (OpenSpec.upto widthTextsSpec)) widthTextsUptoCard

/-- THE SECOND FORM's CARD OF 'jalousielaw09.WidthCuts'. -/
def widthCutsUptoCard : Claim7 := { stood := { row := widthCutsUptoRow, standIns := [], harness := (true, "2dd37f77ba4defd5d4e30b0409c0d58134af083314ff8a03649f26e304271f29"), looks := false }, kinds := [], alts := [], laidByText := true, laidKinds := [.data], laidTests := true, laidLooks := .later }
def WidthCutsUptoCardSaid : Prop := Claim7.holds Tryd.pinned (.plain (OpenSpec.upto widthCutsSpec)) widthCutsUptoCard
end Rows
end Go.Proofs.YtablkipcngbkjaaDoor
