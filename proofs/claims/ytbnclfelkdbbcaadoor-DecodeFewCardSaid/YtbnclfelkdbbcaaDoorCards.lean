/-
  DERIVED. GIVEN WITH THE SEED: THE CARDS: each row of YtbnclfelkdbbcaaDoorRows.lean that lists a variable, with what it lists TIED to the program's text (the seventh form; the later family's looks); each row that meets fmt, with fmt's text TOLD by the authors' own Lean function (tested against real Go, not proved from fmt's source: count such statements apart). THE CARD IS WHAT COUNTS. Prove the row's statement (the work); the ties are given (YtbnclfelkdbbcaaDoorTie.lean); close each card by the builder's one call (the guide's Derived/Test/ToyasCard.lean, 'card_holds'). Laid BY PROGRAM, IN A SANDBOX (cutbox-door.mjs). By AI agents, Wed Nov 11 2026. No macro, syntax, notation, axiom, sorry.
-/
import Derived.Test.YtbnclfelkdbbcaaDoorRows
import GoSem.ClaimSeven
namespace Go.Proofs.YtbnclfelkdbbcaaDoor
namespace Rows

/-- THE TIED CARD OF 'jalousielaw05.DecodeKnown'. -/
def decodeKnownCard : Claim7 := { stood := { row := decodeKnownRow, standIns := [], harness := (true, "8e97b1e03792c5f8a6ee6c40fbe51e5720a47aa0c1fe03d4df12bd97c6b6742b"), looks := false }, kinds := [], alts := [], laidByText := true, laidKinds := [.data, .pinned], laidTests := true, laidLooks := .later }
def DecodeKnownCardSaid : Prop := Claim7.holds Tryd.pinned (.plain (OpenSpec.ofChange decodeKnownSpec)) decodeKnownCard

/-- THE TIED CARD OF 'jalousielaw05.DecodeTells'. -/
def decodeTellsCard : Claim7 := { stood := { row := decodeTellsRow, standIns := [], harness := (true, "8e97b1e03792c5f8a6ee6c40fbe51e5720a47aa0c1fe03d4df12bd97c6b6742b"), looks := false }, kinds := [], alts := [], laidByText := true, laidKinds := [.data, .pinned], laidTests := true, laidLooks := .later }
def DecodeTellsCardSaid : Prop := Claim7.holds Tryd.pinned (.plain (OpenSpec.ofChange decodeTellsSpec)) decodeTellsCard

/-- THE TIED CARD OF 'jalousielaw05.DecodeFew'. -/
def decodeFewCard : Claim7 := { stood := { row := decodeFewRow, standIns := [], harness := (true, "8e97b1e03792c5f8a6ee6c40fbe51e5720a47aa0c1fe03d4df12bd97c6b6742b"), looks := false }, kinds := [], alts := [], laidByText := true, laidKinds := [.data, .pinned], laidTests := true, laidLooks := .later }
def DecodeFewCardSaid : Prop := Claim7.holds Tryd.pinned (.plain (OpenSpec.ofChange decodeFewSpec)) decodeFewCard

/-- THE TIED CARD OF 'jalousielaw05.DecodeNobody'. -/
def decodeNobodyCard : Claim7 := { stood := { row := decodeNobodyRow, standIns := [], harness := (true, "8e97b1e03792c5f8a6ee6c40fbe51e5720a47aa0c1fe03d4df12bd97c6b6742b"), looks := false }, kinds := [], alts := [], laidByText := true, laidKinds := [.data, .pinned], laidTests := true, laidLooks := .later }
def DecodeNobodyCardSaid : Prop := Claim7.holds Tryd.pinned (.plain (OpenSpec.ofChange decodeNobodySpec)) decodeNobodyCard

/-- THE TIED CARD OF 'jalousielaw05.DecodeGo'. -/
def decodeGoCard : Claim7 := { stood := { row := decodeGoRow, standIns := [], harness := (true, "8e97b1e03792c5f8a6ee6c40fbe51e5720a47aa0c1fe03d4df12bd97c6b6742b"), looks := false }, kinds := [], alts := [], laidByText := true, laidKinds := [.data, .pinned], laidTests := true, laidLooks := .later }
def DecodeGoCardSaid : Prop := Claim7.holds Tryd.pinned (.plain (OpenSpec.ofChange decodeGoSpec)) decodeGoCard

/-- THE TIED CARD OF 'jalousielaw05.DecodeJoins'. -/
def decodeJoinsCard : Claim7 := { stood := { row := decodeJoinsRow, standIns := [], harness := (true, "8e97b1e03792c5f8a6ee6c40fbe51e5720a47aa0c1fe03d4df12bd97c6b6742b"), looks := false }, kinds := [], alts := [], laidByText := true, laidKinds := [.data, .pinned], laidTests := true, laidLooks := .later }
def DecodeJoinsCardSaid : Prop := Claim7.holds Tryd.pinned (.plain (OpenSpec.ofChange decodeJoinsSpec)) decodeJoinsCard

/-- THE SECOND FORM's CARD OF 'jalousielaw05.DecodeKnown'. -/
def decodeKnownUptoCard : Claim7 := { stood := { row := decodeKnownUptoRow, standIns := [], harness := (true, "8e97b1e03792c5f8a6ee6c40fbe51e5720a47aa0c1fe03d4df12bd97c6b6742b"), looks := false }, kinds := [], alts := [], laidByText := true, laidKinds := [.data, .pinned], laidTests := true, laidLooks := .later }
def DecodeKnownUptoCardSaid : Prop := Claim7.holds Tryd.pinned (.plain (OpenSpec.upto decodeKnownSpec)) decodeKnownUptoCard

/-- THE SECOND FORM's CARD OF 'jalousielaw05.DecodeTells'. -/
def decodeTellsUptoCard : Claim7 := { stood := { row := decodeTellsUptoRow, standIns := [], harness := (true, "8e97b1e03792c5f8a6ee6c40fbe51e5720a47aa0c1fe03d4df12bd97c6b6742b"), looks := false }, kinds := [], alts := [], laidByText := true, laidKinds := [.data, .pinned], laidTests := true, laidLooks := .later }
def DecodeTellsUptoCardSaid : Prop := Claim7.holds Tryd.pinned (.plain (OpenSpec.upto decodeTellsSpec)) decodeTellsUptoCard

/-- THE SECOND FORM's CARD OF 'jalousielaw05.DecodeFew'. -/
def decodeFewUptoCard : Claim7 := { stood := { row := decodeFewUptoRow, standIns := [], harness := (true, "8e97b1e03792c5f8a6ee6c40fbe51e5720a47aa0c1fe03d4df12bd97c6b6742b"), looks := false }, kinds := [], alts := [], laidByText := true, laidKinds := [.data, .pinned], laidTests := true, laidLooks := .later }
def DecodeFewUptoCardSaid : Prop := Claim7.holds Tryd.pinned (.plain (OpenSpec.upto decodeFewSpec)) decodeFewUptoCard

/-- THE SECOND FORM's CARD OF 'jalousielaw05.DecodeNobody'. -/
def decodeNobodyUptoCard : Claim7 := { stood := { row := decodeNobodyUptoRow, standIns := [], harness := (true, "8e97b1e03792c5f8a6ee6c40fbe51e5720a47aa0c1fe03d4df12bd97c6b6742b"), looks := false }, kinds := [], alts := [], laidByText := true, laidKinds := [.data, .pinned], laidTests := true, laidLooks := .later }
def DecodeNobodyUptoCardSaid : Prop := Claim7.holds Tryd.pinned (.plain (OpenSpec.upto decodeNobodySpec)) decodeNobodyUptoCard

/-- THE SECOND FORM's CARD OF 'jalousielaw05.DecodeGo'. -/
def decodeGoUptoCard : Claim7 := { stood := { row := decodeGoUptoRow, standIns := [], harness := (true, "8e97b1e03792c5f8a6ee6c40fbe51e5720a47aa0c1fe03d4df12bd97c6b6742b"), looks := false }, kinds := [], alts := [], laidByText := true, laidKinds := [.data, .pinned], laidTests := true, laidLooks := .later }
def DecodeGoUptoCardSaid : Prop := Claim7.holds Tryd.pinned (.plain (OpenSpec.upto decodeGoSpec)) decodeGoUptoCard

/-- THE SECOND FORM's CARD OF 'jalousielaw05.DecodeJoins'. -/
def decodeJoinsUptoCard : Claim7 := { stood := { row := decodeJoinsUptoRow, standIns := [], harness := (true, "8e97b1e03792c5f8a6ee6c40fbe51e5720a47aa0c1fe03d4df12bd97c6b6742b"), looks := false }, kinds := [], alts := [], laidByText := true, laidKinds := [.data, .pinned], laidTests := true, laidLooks := .later }
def DecodeJoinsUptoCardSaid : Prop := Claim7.holds Tryd.pinned (.plain (OpenSpec.upto decodeJoinsSpec)) decodeJoinsUptoCard
end Rows
end Go.Proofs.YtbnclfelkdbbcaaDoor
