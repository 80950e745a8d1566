/-
  DERIVED. GIVEN WITH THE SEED: THE CARDS: each row of YtbakngbmfgnmcaaGreatDoorRows.lean that lists a variable, with what it lists TIED to the program's text (the seventh form; the later family's looks); each row that meets fmt, with fmt's text TOLD by the authors' own Lean function (tested against real Go, not proved from fmt's source: count such statements apart). THE CARD IS WHAT COUNTS. Prove the row's statement (the work); the ties are given (YtbakngbmfgnmcaaGreatDoorTie.lean); close each card by the builder's one call (the guide's Derived/Test/ToyasCard.lean, 'card_holds'). Laid BY PROGRAM, IN A SANDBOX (cutbox-door.mjs). By AI agents, Wed Nov 11 2026. No macro, syntax, notation, axiom, sorry.
-/
import Derived.Test.YtbakngbmfgnmcaaGreatDoorRows
import GoSem.ClaimSeven
namespace Go.Proofs.YtbakngbmfgnmcaaGreatDoor
namespace Rows

/-- THE TIED CARD OF 'graticulelaw7.WhisperPlays'. -/
def whisperPlaysCard : Claim7 := { stood := { row := whisperPlaysRow, standIns := [], harness := (true, "4fde8152d35a3b90af2dd88686c34d1a489c583815a6b9387847d921cc623f88"), looks := false }, kinds := [], alts := [], laidByText := true, laidKinds := [.data], laidTests := true, laidLooks := .later }
def WhisperPlaysCardSaid : Prop := Claim7.holds Tryz.pinned (.plain (OpenSpec.ofChange whisperPlaysSpec)) whisperPlaysCard

/-- THE TIED CARD OF 'graticulelaw7.WhisperFiles'. -/
def whisperFilesCard : Claim7 := { stood := { row := whisperFilesRow, standIns := [], harness := (true, "4fde8152d35a3b90af2dd88686c34d1a489c583815a6b9387847d921cc623f88"), looks := false }, kinds := [], alts := [], laidByText := true, laidKinds := [.data], laidTests := true, laidLooks := .later }
def WhisperFilesCardSaid : Prop := Claim7.holds Tryz.pinned (.plain (OpenSpec.ofChange whisperFilesSpec)) whisperFilesCard

/-- THE TIED CARD OF 'graticulelaw7.WhisperTorn'. -/
def whisperTornCard : Claim7 := { stood := { row := whisperTornRow, standIns := [], harness := (true, "4fde8152d35a3b90af2dd88686c34d1a489c583815a6b9387847d921cc623f88"), looks := false }, kinds := [], alts := [], laidByText := true, laidKinds := [.data], laidTests := true, laidLooks := .later }
def WhisperTornCardSaid : Prop := Claim7.holds Tryz.pinned (.plain (OpenSpec.ofChange whisperTornSpec)) whisperTornCard

/-- THE SECOND FORM's CARD OF 'graticulelaw7.WhisperPlays'. -/
def whisperPlaysUptoCard : Claim7 := { stood := { row := whisperPlaysUptoRow, standIns := [], harness := (true, "4fde8152d35a3b90af2dd88686c34d1a489c583815a6b9387847d921cc623f88"), looks := false }, kinds := [], alts := [], laidByText := true, laidKinds := [.data], laidTests := true, laidLooks := .later }
def WhisperPlaysUptoCardSaid : Prop := Claim7.holds Tryz.pinned (.plain (OpenSpec.upto whisperPlaysSpec)) whisperPlaysUptoCard

/-- THE SECOND FORM's CARD OF 'graticulelaw7.WhisperFiles'. -/
def whisperFilesUptoCard : Claim7 := { stood := { row := whisperFilesUptoRow, standIns := [], harness := (true, "4fde8152d35a3b90af2dd88686c34d1a489c583815a6b9387847d921cc623f88"), looks := false }, kinds := [], alts := [], laidByText := true, laidKinds := [.data], laidTests := true, laidLooks := .later }
def WhisperFilesUptoCardSaid : Prop := Claim7.holds Tryz.pinned (.plain (OpenSpec.upto whisperFilesSpec)) whisperFilesUptoCard

/-- THE SECOND FORM's CARD OF 'graticulelaw7.WhisperTorn'. -/
def whisperTornUptoCard : Claim7 := { stood := { row := whisperTornUptoRow, standIns := [], harness := (true, "4fde8152d35a3b90af2dd88686c34d1a489c583815a6b9387847d921cc623f88"), looks := false }, kinds := [], alts := [], laidByText := true, laidKinds := [.data], laidTests := true, laidLooks := .later }
def WhisperTornUptoCardSaid : Prop := Claim7.holds Tryz.pinned (.plain (OpenSpec.upto whisperTornSpec)) whisperTornUptoCard
end Rows
end Go.Proofs.YtbakngbmfgnmcaaGreatDoor
