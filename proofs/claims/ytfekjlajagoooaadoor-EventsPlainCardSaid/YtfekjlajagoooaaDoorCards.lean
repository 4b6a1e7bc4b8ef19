/-
  DERIVED. GIVEN WITH THE SEED: THE CARDS: each row of YtfekjlajagoooaaDoorRows.lean that lists a variable, with what it lists TIED to the program's text (the seventh form; the later family's looks); each row that meets fmt, with fmt's text TOLD by the authors' own Lean function (tested against real Go, not proved from fmt's source: count such statements apart). THE CARD IS WHAT COUNTS. Prove the row's statement (the work); the ties are given (YtfekjlajagoooaaDoorTie.lean); close each card by the builder's one call (the guide's Derived/Test/ToyasCard.lean, 'card_holds'). Laid BY PROGRAM, IN A SANDBOX (cutbox-door.mjs). By AI agents, Wed Nov 11 2026. No macro, syntax, notation, axiom, sorry.
-/
import Derived.Test.YtfekjlajagoooaaDoorRows
import GoSem.ClaimSeven
namespace Go.Proofs.YtfekjlajagoooaaDoor
namespace Rows

/-- THE TIED CARD OF 'jalousielaw08.EventsKnown'. -/
def eventsKnownCard : Claim7 := { stood := { row := eventsKnownRow, standIns := [], harness := (true, "3117bed791ec98e52484488fe34e71c5a7eab3ee29500a75c88654930e921d2a"), looks := false }, kinds := [], alts := [], laidByText := true, laidKinds := [.data, .pinned], laidTests := true, laidLooks := .later }
def EventsKnownCardSaid : Prop := Claim7.holds Tryd.pinned (.plain (OpenSpec.ofChange eventsKnownSpec)) eventsKnownCard

/-- THE TIED CARD OF 'jalousielaw08.EventsTell'. -/
def eventsTellCard : Claim7 := { stood := { row := eventsTellRow, standIns := [], harness := (true, "3117bed791ec98e52484488fe34e71c5a7eab3ee29500a75c88654930e921d2a"), looks := false }, kinds := [], alts := [], laidByText := true, laidKinds := [.data, .pinned], laidTests := true, laidLooks := .later }
def EventsTellCardSaid : Prop := Claim7.holds Tryd.pinned (.plain (OpenSpec.ofChange eventsTellSpec)) eventsTellCard

/-- THE TIED CARD OF 'jalousielaw08.EventsLong'. -/
def eventsLongCard : Claim7 := { stood := { row := eventsLongRow, standIns := [], harness := (true, "3117bed791ec98e52484488fe34e71c5a7eab3ee29500a75c88654930e921d2a"), looks := false }, kinds := [], alts := [], laidByText := true, laidKinds := [.data, .pinned], laidTests := true, laidLooks := .later }
def EventsLongCardSaid : Prop := Claim7.holds Tryd.pinned (.plain (OpenSpec.ofChange eventsLongSpec)) eventsLongCard

/-- THE TIED CARD OF 'jalousielaw08.EventsSame'. -/
def eventsSameCard : Claim7 := { stood := { row := eventsSameRow, standIns := [], harness := (true, "3117bed791ec98e52484488fe34e71c5a7eab3ee29500a75c88654930e921d2a"), looks := false }, kinds := [], alts := [], laidByText := true, laidKinds := [.data, .pinned], laidTests := true, laidLooks := .later }
def EventsSameCardSaid : Prop := Claim7.holds Tryd.pinned (.plain (OpenSpec.ofChange eventsSameSpec)) eventsSameCard

/-- THE TIED CARD OF 'jalousielaw08.EventsNobody'. -/
def eventsNobodyCard : Claim7 := { stood := { row := eventsNobodyRow, standIns := [], harness := (true, "3117bed791ec98e52484488fe34e71c5a7eab3ee29500a75c88654930e921d2a"), looks := false }, kinds := [], alts := [], laidByText := true, laidKinds := [.data, .pinned], laidTests := true, laidLooks := .later }
def EventsNobodyCardSaid : Prop := Claim7.holds Tryd.pinned (.plain (OpenSpec.ofChange eventsNobodySpec)) eventsNobodyCard

/-- THE TIED CARD OF 'jalousielaw08.EventsPieces'. -/
def eventsPiecesCard : Claim7 := { stood := { row := eventsPiecesRow, standIns := [], harness := (true, "3117bed791ec98e52484488fe34e71c5a7eab3ee29500a75c88654930e921d2a"), looks := false }, kinds := [], alts := [], laidByText := true, laidKinds := [.data, .pinned], laidTests := true, laidLooks := .later }
def EventsPiecesCardSaid : Prop := Claim7.holds Tryd.pinned (.plain (OpenSpec.ofChange eventsPiecesSpec)) eventsPiecesCard

/-- THE TIED CARD OF 'jalousielaw08.EventsCancel'. -/
def eventsCancelCard : Claim7 := { stood := { row := eventsCancelRow, standIns := [], harness := (true, "3117bed791ec98e52484488fe34e71c5a7eab3ee29500a75c88654930e921d2a"), looks := false }, kinds := [], alts := [], laidByText := true, laidKinds := [.data, .pinned], laidTests := true, laidLooks := .later }
def EventsCancelCardSaid : Prop := Claim7.holds Tryd.pinned (.plain (OpenSpec.ofChange eventsCancelSpec)) eventsCancelCard

/-- THE TIED CARD OF 'jalousielaw08.EventsPlain'. -/
def eventsPlainCard : Claim7 := { stood := { row := eventsPlainRow, standIns := [], harness := (true, "3117bed791ec98e52484488fe34e71c5a7eab3ee29500a75c88654930e921d2a"), looks := false }, kinds := [], alts := [], laidByText := true, laidKinds := [.data, .pinned], laidTests := true, laidLooks := .later }
def EventsPlainCardSaid : Prop := Claim7.holds Tryd.pinned (.plain (OpenSpec.ofChange eventsPlainSpec)) eventsPlainCard

/-- THE SECOND FORM's CARD OF 'jalousielaw08.EventsKnown'. -/
def eventsKnownUptoCard : Claim7 := { stood := { row := eventsKnownUptoRow, standIns := [], harness := (true, "3117bed791ec98e52484488fe34e71c5a7eab3ee29500a75c88654930e921d2a"), looks := false }, kinds := [], alts := [], laidByText := true, laidKinds := [.data, .pinned], laidTests := true, laidLooks := .later }
def EventsKnownUptoCardSaid : Prop := Claim7.holds Tryd.pinned (.plain (OpenSpec.upto eventsKnownSpec)) eventsKnownUptoCard

/-- THE SECOND FORM's CARD OF 'jalousielaw08.EventsTell'. -/
def eventsTellUptoCard : Claim7 := { stood := { row := eventsTellUptoRow, standIns := [], harness := (true, "3117bed791ec98e52484488fe34e71c5a7eab3ee29500a75c88654930e921d2a"), looks := false }, kinds := [], alts := [], laidByText := true, laidKinds := [.data, .pinned], laidTests := true, laidLooks := .later }
def EventsTellUptoCardSaid : Prop := Claim7.holds Tryd.pinned (.plain (OpenSpec.upto eventsTellSpec)) eventsTellUptoCard

/-- THE SECOND FORM's CARD OF 'jalousielaw08.EventsLong'. -/
def eventsLongUptoCard : Claim7 := { stood := { row := eventsLongUptoRow, standIns := [], harness := (true, "3117bed791ec98e52484488fe34e71c5a7eab3ee29500a75c88654930e921d2a"), looks := false }, kinds := [], alts := [], laidByText := true, laidKinds := [.data, .pinned], laidTests := true, laidLooks := .later }
def EventsLongUptoCardSaid : Prop := Claim7.holds Tryd.pinned (.plain (OpenSpec.upto eventsLongSpec)) eventsLongUptoCard

/-- THE SECOND FORM's CARD OF 'jalousielaw08.EventsSame'. -/
def eventsSameUptoCard : Claim7 := { stood := { row := eventsSameUptoRow, standIns := [], harness := (true, "3117bed791ec98e52484488fe34e71c5a7eab3ee29500a75c88654930e921d2a"), looks := false }, kinds := [], alts := [], laidByText := true, laidKinds := [.data, .pinned], laidTests := true, laidLooks := .later }
def EventsSameUptoCardSaid : Prop := Claim7.holds Tryd.pinned (.plain (OpenSpec.upto eventsSameSpec)) eventsSameUptoCard

/-- THE SECOND FORM's CARD OF 'jalousielaw08.EventsNobody'. -/
def eventsNobodyUptoCard : Claim7 := { stood := { row := eventsNobodyUptoRow, standIns := [], harness := (true, "3117bed791ec98e52484488fe34e71c5a7eab3ee29500a75c88654930e921d2a"), looks := false }, kinds := [], alts := [], laidByText := true, laidKinds := [.data, .pinned], laidTests := true, laidLooks := .later }
def EventsNobodyUptoCardSaid : Prop := Claim7.holds Tryd.pinned (.plain (OpenSpec.upto eventsNobodySpec)) eventsNobodyUptoCard

/-- THE SECOND FORM's CARD OF 'jalousielaw08.EventsPieces'. -/
def eventsPiecesUptoCard : Claim7 := { stood := { row := eventsPiecesUptoRow, standIns := [], harness := (true, "3117bed791ec98e52484488fe34e71c5a7eab3ee29500a75c88654930e921d2a"), looks := false }, kinds := [], alts := [], laidByText := true, laidKinds := [.data, .pinned], laidTests := true, laidLooks := .later }
def EventsPiecesUptoCardSaid : Prop := Claim7.holds Tryd.pinned (.plain (OpenSpec.upto eventsPiecesSpec)) eventsPiecesUptoCard

/-- THE SECOND FORM's CARD OF 'jalousielaw08.EventsCancel'. -/
def eventsCancelUptoCard : Claim7 := { stood := { row := eventsCancelUptoRow, standIns := [], harness := (true, "3117bed791ec98e52484488fe34e71c5a7eab3ee29500a75c88654930e921d2a"), looks := false }, kinds := [], alts := [], laidByText := true, laidKinds := [.data, .pinned], laidTests := true, laidLooks := .later }
def EventsCancelUptoCardSaid : Prop := Claim7.holds Tryd.pinned (.plain (OpenSpec.upto eventsCancelSpec)) eventsCancelUptoCard

/-- THE SECOND FORM's CARD OF 'jalousielaw08.EventsPlain'. -/
def eventsPlainUptoCard : Claim7 := { stood := { row := eventsPlainUptoRow, standIns := [], harness := (true, "3117bed791ec98e52484488fe34e71c5a7eab3ee29500a75c88654930e921d2a"), looks := false }, kinds := [], alts := [], laidByText := true, laidKinds := [.data, .pinned], laidTests := true, laidLooks := .later }
def EventsPlainUptoCardSaid : Prop := Claim7.holds Tryd.pinned (.plain (OpenSpec.upto eventsPlainSpec)) eventsPlainUptoCard
end Rows
end Go.Proofs.YtfekjlajagoooaaDoor
