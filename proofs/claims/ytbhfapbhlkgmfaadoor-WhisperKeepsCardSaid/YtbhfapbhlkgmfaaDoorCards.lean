/-
  DERIVED. GIVEN WITH THE SEED: THE CARDS: each row of YtbhfapbhlkgmfaaDoorRows.lean that lists a variable, with what it lists TIED to the program's text (the seventh form; the later family's looks); each row that meets fmt, with fmt's text TOLD by the authors' own Lean function (tested against real Go, not proved from fmt's source: count such statements apart). THE CARD IS WHAT COUNTS. Prove the row's statement (the work); the ties are given (YtbhfapbhlkgmfaaDoorTie.lean); close each card by the builder's one call (the guide's Derived/Test/ToyasCard.lean, 'card_holds'). Laid BY PROGRAM, IN A SANDBOX (cutbox-door.mjs). By AI agents, Wed Nov 11 2026. No macro, syntax, notation, axiom, sorry.
-/
import Derived.Test.YtbhfapbhlkgmfaaDoorRows
import GoSem.ClaimSeven
namespace Go.Proofs.YtbhfapbhlkgmfaaDoor
namespace Rows

/-- THE TIED CARD OF 'graticulelaw7.WhisperKeeps'. -/
def whisperKeepsCard : Claim7 := { stood := { row := whisperKeepsRow, standIns := [], harness := (true, "af9ff1238fc4c1e0b29e89310f42a8eb702c239eb9b9a936d9a9c45475890643"), looks := false }, kinds := [], alts := [], laidByText := true, laidKinds := [.data], laidTests := true, laidLooks := .later }
def WhisperKeepsCardSaid : Prop := Claim7.holds Tryd.pinned (.plain (OpenSpec.ofChange whisperKeepsSpec)) whisperKeepsCard

/-- THE TIED CARD OF 'graticulelaw7.WhisperRolls'. -/
def whisperRollsCard : Claim7 := { stood := { row := whisperRollsRow, standIns := [], harness := (true, "af9ff1238fc4c1e0b29e89310f42a8eb702c239eb9b9a936d9a9c45475890643"), looks := false }, kinds := [], alts := [], laidByText := true, laidKinds := [.data], laidTests := true, laidLooks := .later }
def WhisperRollsCardSaid : Prop := Claim7.holds Tryd.pinned (.plain (OpenSpec.ofChange whisperRollsSpec)) whisperRollsCard

/-- THE TIED CARD OF 'graticulelaw7.WhisperOfNothing'. -/
def whisperOfNothingCard : Claim7 := { stood := { row := whisperOfNothingRow, standIns := [], harness := (true, "af9ff1238fc4c1e0b29e89310f42a8eb702c239eb9b9a936d9a9c45475890643"), looks := false }, kinds := [], alts := [], laidByText := true, laidKinds := [.data], laidTests := true, laidLooks := .later }
def WhisperOfNothingCardSaid : Prop := Claim7.holds Tryd.pinned (.plain (OpenSpec.ofChange whisperOfNothingSpec)) whisperOfNothingCard

/-- THE SECOND FORM's CARD OF 'graticulelaw7.WhisperKeeps'. -/
def whisperKeepsUptoCard : Claim7 := { stood := { row := whisperKeepsUptoRow, standIns := [], harness := (true, "af9ff1238fc4c1e0b29e89310f42a8eb702c239eb9b9a936d9a9c45475890643"), looks := false }, kinds := [], alts := [], laidByText := true, laidKinds := [.data], laidTests := true, laidLooks := .later }
def WhisperKeepsUptoCardSaid : Prop := Claim7.holds Tryd.pinned (.plain (OpenSpec.upto whisperKeepsSpec)) whisperKeepsUptoCard

/-- THE SECOND FORM's CARD OF 'graticulelaw7.WhisperRolls'. -/
def whisperRollsUptoCard : Claim7 := { stood := { row := whisperRollsUptoRow, standIns := [], harness := (true, "af9ff1238fc4c1e0b29e89310f42a8eb702c239eb9b9a936d9a9c45475890643"), looks := false }, kinds := [], alts := [], laidByText := true, laidKinds := [.data], laidTests := true, laidLooks := .later }
def WhisperRollsUptoCardSaid : Prop := Claim7.holds Tryd.pinned (.plain (OpenSpec.upto whisperRollsSpec)) whisperRollsUptoCard

/-- THE SECOND FORM's CARD OF 'graticulelaw7.WhisperOfNothing'. -/
def whisperOfNothingUptoCard : Claim7 := { stood := { row := whisperOfNothingUptoRow, standIns := [], harness := (true, "af9ff1238fc4c1e0b29e89310f42a8eb702c239eb9b9a936d9a9c45475890643"), looks := false }, kinds := [], alts := [], laidByText := true, laidKinds := [.data], laidTests := true, laidLooks := .later }
def WhisperOfNothingUptoCardSaid : Prop := Claim7.holds Tryd.pinned (.plain (OpenSpec.upto whisperOfNothingSpec)) whisperOfNothingUptoCard
end Rows
end Go.Proofs.YtbhfapbhlkgmfaaDoor
