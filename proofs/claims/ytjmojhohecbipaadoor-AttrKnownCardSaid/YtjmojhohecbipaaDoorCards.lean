/-
  DERIVED. GIVEN WITH THE SEED: THE CARDS: each row of YtjmojhohecbipaaDoorRows.lean that lists a variable, with what it lists TIED to the program's text (the seventh form; the later family's looks); each row that meets fmt, with fmt's text TOLD by the authors' own Lean function (tested against real Go, not proved from fmt's source: count such statements apart). THE CARD IS WHAT COUNTS. Prove the row's statement (the work); the ties are given (YtjmojhohecbipaaDoorTie.lean); close each card by the builder's one call (the guide's Derived/Test/ToyasCard.lean, 'card_holds'). Laid BY PROGRAM, IN A SANDBOX (cutbox-door.mjs). By AI agents, Wed Nov 11 2026. No macro, syntax, notation, axiom, sorry.
-/
import Derived.Test.YtjmojhohecbipaaDoorRows
import GoSem.ClaimSeven
namespace Go.Proofs.YtjmojhohecbipaaDoor
namespace Rows

/-- THE TIED CARD OF 'jalousielaw10.AttrKnown'. -/
def attrKnownCard : Claim7 := { stood := { row := attrKnownRow, standIns := [], harness := (true, "76b604b4265602099415fb985b23f2433556286b99919177431442e60b2b3793"), looks := false }, kinds := [], alts := [], laidByText := true, laidKinds := [.data, .data, .data, .data], laidTests := true, laidLooks := .later }
def AttrKnownCardSaid : Prop := Claim7.holds Tryd.pinned (.plain (OpenSpec.ofChange attrKnownSpec)) attrKnownCard

/-- THE TIED CARD OF 'jalousielaw10.AttrApplies'. -/
def attrAppliesCard : Claim7 := { stood := { row := attrAppliesRow, standIns := [], harness := (true, "76b604b4265602099415fb985b23f2433556286b99919177431442e60b2b3793"), looks := false }, kinds := [], alts := [], laidByText := true, laidKinds := [.data, .data, .data, .data], laidTests := true, laidLooks := .later }
def AttrAppliesCardSaid : Prop := Claim7.holds Tryd.pinned (.plain (OpenSpec.ofChange attrAppliesSpec)) attrAppliesCard

/-- THE TIED CARD OF 'jalousielaw10.AttrSingle'. -/
def attrSingleCard : Claim7 := { stood := { row := attrSingleRow, standIns := [], harness := (true, "76b604b4265602099415fb985b23f2433556286b99919177431442e60b2b3793"), looks := false }, kinds := [], alts := [], laidByText := true, laidKinds := [.data, .data, .data, .data], laidTests := true, laidLooks := .later }
def AttrSingleCardSaid : Prop := Claim7.holds Tryd.pinned (.plain (OpenSpec.ofChange attrSingleSpec)) attrSingleCard

/-- THE TIED CARD OF 'jalousielaw10.AttrBetween'. -/
def attrBetweenCard : Claim7 := { stood := { row := attrBetweenRow, standIns := [], harness := (true, "76b604b4265602099415fb985b23f2433556286b99919177431442e60b2b3793"), looks := false }, kinds := [], alts := [], laidByText := true, laidKinds := [.data, .data, .data, .data], laidTests := true, laidLooks := .later }
def AttrBetweenCardSaid : Prop := Claim7.holds Tryd.pinned (.plain (OpenSpec.ofChange attrBetweenSpec)) attrBetweenCard

/-- THE TIED CARD OF 'jalousielaw10.AttrStays'. -/
def attrStaysCard : Claim7 := { stood := { row := attrStaysRow, standIns := [], harness := (true, "76b604b4265602099415fb985b23f2433556286b99919177431442e60b2b3793"), looks := false }, kinds := [], alts := [], laidByText := true, laidKinds := [.data, .data, .data, .data], laidTests := true, laidLooks := .later }
def AttrStaysCardSaid : Prop := Claim7.holds Tryd.pinned (.plain (OpenSpec.ofChange attrStaysSpec)) attrStaysCard

/-- THE SECOND FORM's CARD OF 'jalousielaw10.AttrKnown'. -/
def attrKnownUptoCard : Claim7 := { stood := { row := attrKnownUptoRow, standIns := [], harness := (true, "76b604b4265602099415fb985b23f2433556286b99919177431442e60b2b3793"), looks := false }, kinds := [], alts := [], laidByText := true, laidKinds := [.data, .data, .data, .data], laidTests := true, laidLooks := .later }
def AttrKnownUptoCardSaid : Prop := Claim7.holds Tryd.pinned (.plain (OpenSpec.upto attrKnownSpec)) attrKnownUptoCard

/-- THE SECOND FORM's CARD OF 'jalousielaw10.AttrApplies'. -/
def attrAppliesUptoCard : Claim7 := { stood := { row := attrAppliesUptoRow, standIns := [], harness := (true, "76b604b4265602099415fb985b23f2433556286b99919177431442e60b2b3793"), looks := false }, kinds := [], alts := [], laidByText := true, laidKinds := [.data, .data, .data, .data], laidTests := true, laidLooks := .later }
def AttrAppliesUptoCardSaid : Prop := Claim7.holds Tryd.pinned (.plain (OpenSpec.upto attrAppliesSpec)) attrAppliesUptoCard

/-- THE SECOND FORM's CARD OF 'jalousielaw10.AttrSingle'. -/
def attrSingleUptoCard : Claim7 := { stood := { row := attrSingleUptoRow, standIns := [], harness := (true, "76b604b4265602099415fb985b23f2433556286b99919177431442e60b2b3793"), looks := false }, kinds := [], alts := [], laidByText := true, laidKinds := [.data, .data, .data, .data], laidTests := true, laidLooks := .later }
def AttrSingleUptoCardSaid : Prop := Claim7.holds Tryd.pinned (.plain (OpenSpec.upto attrSingleSpec)) attrSingleUptoCard

/-- THE SECOND FORM's CARD OF 'jalousielaw10.AttrBetween'. -/
def attrBetweenUptoCard : Claim7 := { stood := { row := attrBetweenUptoRow, standIns := [], harness := (true, "76b604b4265602099415fb985b23f2433556286b99919177431442e60b2b3793"), looks := false }, kinds := [], alts := [], laidByText := true, laidKinds := [.data, .data, .data, .data], laidTests := true, laidLooks := .later }
def AttrBetweenUptoCardSaid : Prop := Claim7.holds Tryd.pinned (.plain (OpenSpec.upto attrBetweenSpec)) attrBetweenUptoCard

/-- THE SECOND FORM's CARD OF 'jalousielaw10.AttrStays'. -/
def attrStaysUptoCard : Claim7 := { stood := { row := attrStaysUptoRow, standIns := [], harness := (true, "76b604b4265602099415fb985b23f2433556286b99919177431442e60b2b3793"), looks := false }, kinds := [], alts := [], laidByText := true, laidKinds := [.data, .data, .data, .data], laidTests := true, laidLooks := .later }
def AttrStaysUptoCardSaid : Prop := Claim7.holds Tryd.pinned (.plain (OpenSpec.upto attrStaysSpec)) attrStaysUptoCard
end Rows
end Go.Proofs.YtjmojhohecbipaaDoor
