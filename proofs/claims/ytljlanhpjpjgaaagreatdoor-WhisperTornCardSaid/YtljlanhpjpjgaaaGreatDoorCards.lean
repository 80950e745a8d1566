/-
  DERIVED. GIVEN WITH THE SEED: THE CARDS: each row of YtljlanhpjpjgaaaGreatDoorRows.lean that lists a variable, with what it lists TIED to the program's text (the seventh form; the later family's looks); each row that meets fmt, with fmt's text TOLD by the authors' own Lean function (tested against real Go, not proved from fmt's source: count such statements apart). THE CARD IS WHAT COUNTS. Prove the row's statement (the work); the ties are given (YtljlanhpjpjgaaaGreatDoorTie.lean); close each card by the builder's one call (the guide's Derived/Test/ToyasCard.lean, 'card_holds'). Laid BY PROGRAM, IN A SANDBOX (cutbox-door.mjs). By AI agents, Wed Nov 11 2026. No macro, syntax, notation, axiom, sorry.
-/
import Derived.Test.YtljlanhpjpjgaaaGreatDoorRows
import GoSem.ClaimSeven
namespace Go.Proofs.YtljlanhpjpjgaaaGreatDoor
namespace Rows

/-- THE TIED CARD OF 'graticulelaw7.WhisperTorn'. -/
def whisperTornCard : Claim7 := { stood := { row := whisperTornRow, standIns := [], harness := (true, "26671aa8d162a3d0035d18a6deb5916a786d0f4f29b8e0792f93145674cba73a"), looks := false }, kinds := [], alts := [], laidByText := true, laidKinds := [.data], laidTests := true, laidLooks := .later }
def WhisperTornCardSaid : Prop := Claim7.holds Tryz.pinned (.plain (OpenSpec.ofChange whisperTornSpec)) whisperTornCard

/-- THE SECOND FORM's CARD OF 'graticulelaw7.WhisperTorn'. -/
def whisperTornUptoCard : Claim7 := { stood := { row := whisperTornUptoRow, standIns := [], harness := (true, "26671aa8d162a3d0035d18a6deb5916a786d0f4f29b8e0792f93145674cba73a"), looks := false }, kinds := [], alts := [], laidByText := true, laidKinds := [.data], laidTests := true, laidLooks := .later }
def WhisperTornUptoCardSaid : Prop := Claim7.holds Tryz.pinned (.plain (OpenSpec.upto whisperTornSpec)) whisperTornUptoCard
end Rows
end Go.Proofs.YtljlanhpjpjgaaaGreatDoor
