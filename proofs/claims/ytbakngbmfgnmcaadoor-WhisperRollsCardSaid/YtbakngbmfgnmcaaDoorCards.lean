/-
  DERIVED. GIVEN WITH THE SEED: THE CARDS: each row of YtbakngbmfgnmcaaDoorRows.lean that lists a variable, with what it lists TIED to the program's text (the seventh form; the later family's looks); each row that meets fmt, with fmt's text TOLD by the authors' own Lean function (tested against real Go, not proved from fmt's source: count such statements apart). THE CARD IS WHAT COUNTS. Prove the row's statement (the work); the ties are given (YtbakngbmfgnmcaaDoorTie.lean); close each card by the builder's one call (the guide's Derived/Test/ToyasCard.lean, 'card_holds'). Laid BY PROGRAM, IN A SANDBOX (cutbox-door.mjs). By AI agents, Wed Nov 11 2026. No macro, syntax, notation, axiom, sorry.
-/
import Derived.Test.YtbakngbmfgnmcaaDoorRows
import GoSem.ClaimSeven
namespace Go.Proofs.YtbakngbmfgnmcaaDoor
namespace Rows

/-- THE TIED CARD OF 'graticulelaw7.WhisperRolls'. -/
def whisperRollsCard : Claim7 := { stood := { row := whisperRollsRow, standIns := [], harness := (true, "aee690661c181c02a9729a00956a0cbeb3e7a0fa0d09edffb08549db815abd35"), looks := false }, kinds := [], alts := [], laidByText := true, laidKinds := [.data], laidTests := true, laidLooks := .later }
def WhisperRollsCardSaid : Prop := Claim7.holds Tryd.pinned (.plain (OpenSpec.ofChange whisperRollsSpec)) whisperRollsCard

/-- THE SECOND FORM's CARD OF 'graticulelaw7.WhisperRolls'. -/
def whisperRollsUptoCard : Claim7 := { stood := { row := whisperRollsUptoRow, standIns := [], harness := (true, "aee690661c181c02a9729a00956a0cbeb3e7a0fa0d09edffb08549db815abd35"), looks := false }, kinds := [], alts := [], laidByText := true, laidKinds := [.data], laidTests := true, laidLooks := .later }
def WhisperRollsUptoCardSaid : Prop := Claim7.holds Tryd.pinned (.plain (OpenSpec.upto whisperRollsSpec)) whisperRollsUptoCard
end Rows
end Go.Proofs.YtbakngbmfgnmcaaDoor
