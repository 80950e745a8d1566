/-
  DERIVED. GIVEN WITH THE SEED: THE CARDS: each row of YtfaekckenlkhnaaDoorRows.lean that lists a variable, with what it lists TIED to the program's text (the seventh form; the later family's looks); each row that meets fmt, with fmt's text TOLD by the authors' own Lean function (tested against real Go, not proved from fmt's source: count such statements apart). THE CARD IS WHAT COUNTS. Prove the row's statement (the work); the ties are given (YtfaekckenlkhnaaDoorTie.lean); close each card by the builder's one call (the guide's Derived/Test/ToyasCard.lean, 'card_holds'). Laid BY PROGRAM, IN A SANDBOX (cutbox-door.mjs). By AI agents, Wed Nov 11 2026. No macro, syntax, notation, axiom, sorry.
-/
import Derived.Test.YtfaekckenlkhnaaDoorRows
import GoSem.ClaimSeven
namespace Go.Proofs.YtfaekckenlkhnaaDoor
namespace Rows

/-- THE TIED CARD OF 'graticulelaw8.NameParts'. -/
def namePartsCard : Claim7 := { stood := { row := namePartsRow, standIns := [], harness := (true, "3cbc8b41eb5377523784a9f31c35ce2239d16768c3dd0df8ce37aad25b1b3096"), looks := false }, kinds := [], alts := [], laidByText := true, laidKinds := [.data, .pinned], laidTests := true, laidLooks := .later }
def NamePartsCardSaid : Prop := Claim7.holds Tryd.pinned (.plain (OpenSpec.ofChange namePartsSpec)) namePartsCard

/-- THE TIED CARD OF 'graticulelaw8.NameJoins'. -/
def nameJoinsCard : Claim7 := { stood := { row := nameJoinsRow, standIns := [], harness := (true, "3cbc8b41eb5377523784a9f31c35ce2239d16768c3dd0df8ce37aad25b1b3096"), looks := false }, kinds := [], alts := [], laidByText := true, laidKinds := [.data, .pinned], laidTests := true, laidLooks := .later }
def NameJoinsCardSaid : Prop := Claim7.holds Tryd.pinned (.plain (OpenSpec.ofChange nameJoinsSpec)) nameJoinsCard

/-- THE TIED CARD OF 'graticulelaw8.NameFiles'. -/
def nameFilesCard : Claim7 := { stood := { row := nameFilesRow, standIns := [], harness := (true, "3cbc8b41eb5377523784a9f31c35ce2239d16768c3dd0df8ce37aad25b1b3096"), looks := false }, kinds := [], alts := [], laidByText := true, laidKinds := [.data, .pinned], laidTests := true, laidLooks := .later }
def NameFilesCardSaid : Prop := Claim7.holds Tryd.pinned (.plain (OpenSpec.ofChange nameFilesSpec)) nameFilesCard

/-- THE TIED CARD OF 'graticulelaw8.NameNodes'. -/
def nameNodesCard : Claim7 := { stood := { row := nameNodesRow, standIns := [], harness := (true, "3cbc8b41eb5377523784a9f31c35ce2239d16768c3dd0df8ce37aad25b1b3096"), looks := false }, kinds := [], alts := [], laidByText := true, laidKinds := [.data, .pinned], laidTests := true, laidLooks := .later }
def NameNodesCardSaid : Prop := Claim7.holds Tryd.pinned (.plain (OpenSpec.ofChange nameNodesSpec)) nameNodesCard

/-- THE SECOND FORM's CARD OF 'graticulelaw8.NameParts'. -/
def namePartsUptoCard : Claim7 := { stood := { row := namePartsUptoRow, standIns := [], harness := (true, "3cbc8b41eb5377523784a9f31c35ce2239d16768c3dd0df8ce37aad25b1b3096"), looks := false }, kinds := [], alts := [], laidByText := true, laidKinds := [.data, .pinned], laidTests := true, laidLooks := .later }
def NamePartsUptoCardSaid : Prop := Claim7.holds Tryd.pinned (.plain (OpenSpec.upto namePartsSpec)) namePartsUptoCard

/-- THE SECOND FORM's CARD OF 'graticulelaw8.NameJoins'. -/
def nameJoinsUptoCard : Claim7 := { stood := { row := nameJoinsUptoRow, standIns := [], harness := (true, "3cbc8b41eb5377523784a9f31c35ce2239d16768c3dd0df8ce37aad25b1b3096"), looks := false }, kinds := [], alts := [], laidByText := true, laidKinds := [.data, .pinned], laidTests := true, laidLooks := .later }
def NameJoinsUptoCardSaid : Prop := Claim7.holds Tryd.pinned (.plain (OpenSpec.upto nameJoinsSpec)) nameJoinsUptoCard

/-- THE SECOND FORM's CARD OF 'graticulelaw8.NameFiles'. -/
def nameFilesUptoCard : Claim7 := { stood := { row := nameFilesUptoRow, standIns := [], harness := (true, "3cbc8b41eb5377523784a9f31c35ce2239d16768c3dd0df8ce37aad25b1b3096"), looks := false }, kinds := [], alts := [], laidByText := true, laidKinds := [.data, .pinned], laidTests := true, laidLooks := .later }
def NameFilesUptoCardSaid : Prop := Claim7.holds Tryd.pinned (.plain (OpenSpec.upto nameFilesSpec)) nameFilesUptoCard

/-- THE SECOND FORM's CARD OF 'graticulelaw8.NameNodes'. -/
def nameNodesUptoCard : Claim7 := { stood := { row := nameNodesUptoRow, standIns := [], harness := (true, "3cbc8b41eb5377523784a9f31c35ce2239d16768c3dd0df8ce37aad25b1b3096"), looks := false }, kinds := [], alts := [], laidByText := true, laidKinds := [.data, .pinned], laidTests := true, laidLooks := .later }
def NameNodesUptoCardSaid : Prop := Claim7.holds Tryd.pinned (.plain (OpenSpec.upto nameNodesSpec)) nameNodesUptoCard
end Rows
end Go.Proofs.YtfaekckenlkhnaaDoor
