/-
  DERIVED. GIVEN WITH THE SEED: THE CARDS: each row of YtiolkiikgjedcaaGreatDoorRows.lean that lists a variable, with what it lists TIED to the program's text (the seventh form; the later family's looks); each row that meets fmt, with fmt's text TOLD by the authors' own Lean function (tested against real Go, not proved from fmt's source: count such statements apart). THE CARD IS WHAT COUNTS. Prove the row's statement (the work); the ties are given (YtiolkiikgjedcaaGreatDoorTie.lean); close each card by the builder's one call (the guide's Derived/Test/ToyasCard.lean, 'card_holds'). Laid BY PROGRAM, IN A SANDBOX (cutbox-door.mjs). By AI agents, Wed Nov 11 2026. No macro, syntax, notation, axiom, sorry.
-/
import Derived.Test.YtiolkiikgjedcaaGreatDoorRows
import GoSem.ClaimSeven
namespace Go.Proofs.YtiolkiikgjedcaaGreatDoor
namespace Rows

/-- THE TIED CARD OF 'graticulelaw10.TriePlays'. -/
def triePlaysCard : Claim7 := { stood := { row := triePlaysRow, standIns := [], harness := (true, "81770a780896ce5ca1cef88fc5438d465c94d537d446d07abcab08c81e24e585"), looks := false }, kinds := [], alts := [], laidByText := true, laidKinds := [.data, .pinned], laidTests := true, laidLooks := .later }
def TriePlaysCardSaid : Prop := Claim7.holds Tryz.pinned (.plain (OpenSpec.ofChange triePlaysSpec)) triePlaysCard

/-- THE TIED CARD OF 'graticulelaw10.TrieTurns'. -/
def trieTurnsCard : Claim7 := { stood := { row := trieTurnsRow, standIns := [], harness := (true, "81770a780896ce5ca1cef88fc5438d465c94d537d446d07abcab08c81e24e585"), looks := false }, kinds := [], alts := [], laidByText := true, laidKinds := [.data, .pinned], laidTests := true, laidLooks := .later }
def TrieTurnsCardSaid : Prop := Claim7.holds Tryz.pinned (.plain (OpenSpec.ofChange trieTurnsSpec)) trieTurnsCard

/-- THE TIED CARD OF 'graticulelaw10.TrieSelf'. -/
def trieSelfCard : Claim7 := { stood := { row := trieSelfRow, standIns := [], harness := (true, "81770a780896ce5ca1cef88fc5438d465c94d537d446d07abcab08c81e24e585"), looks := false }, kinds := [], alts := [], laidByText := true, laidKinds := [.data, .pinned], laidTests := true, laidLooks := .later }
def TrieSelfCardSaid : Prop := Claim7.holds Tryz.pinned (.plain (OpenSpec.ofChange trieSelfSpec)) trieSelfCard

/-- THE TIED CARD OF 'graticulelaw10.TrieOfNothing'. -/
def trieOfNothingCard : Claim7 := { stood := { row := trieOfNothingRow, standIns := [], harness := (true, "81770a780896ce5ca1cef88fc5438d465c94d537d446d07abcab08c81e24e585"), looks := false }, kinds := [], alts := [], laidByText := true, laidKinds := [.data, .pinned], laidTests := true, laidLooks := .later }
def TrieOfNothingCardSaid : Prop := Claim7.holds Tryz.pinned (.plain (OpenSpec.ofChange trieOfNothingSpec)) trieOfNothingCard

/-- THE SECOND FORM's CARD OF 'graticulelaw10.TriePlays'. -/
def triePlaysUptoCard : Claim7 := { stood := { row := triePlaysUptoRow, standIns := [], harness := (true, "81770a780896ce5ca1cef88fc5438d465c94d537d446d07abcab08c81e24e585"), looks := false }, kinds := [], alts := [], laidByText := true, laidKinds := [.data, .pinned], laidTests := true, laidLooks := .later }
def TriePlaysUptoCardSaid : Prop := Claim7.holds Tryz.pinned (.plain (OpenSpec.upto triePlaysSpec)) triePlaysUptoCard

/-- THE SECOND FORM's CARD OF 'graticulelaw10.TrieTurns'. -/
def trieTurnsUptoCard : Claim7 := { stood := { row := trieTurnsUptoRow, standIns := [], harness := (true, "81770a780896ce5ca1cef88fc5438d465c94d537d446d07abcab08c81e24e585"), looks := false }, kinds := [], alts := [], laidByText := true, laidKinds := [.data, .pinned], laidTests := true, laidLooks := .later }
def TrieTurnsUptoCardSaid : Prop := Claim7.holds Tryz.pinned (.plain (OpenSpec.upto trieTurnsSpec)) trieTurnsUptoCard

/-- THE SECOND FORM's CARD OF 'graticulelaw10.TrieSelf'. -/
def trieSelfUptoCard : Claim7 := { stood := { row := trieSelfUptoRow, standIns := [], harness := (true, "81770a780896ce5ca1cef88fc5438d465c94d537d446d07abcab08c81e24e585"), looks := false }, kinds := [], alts := [], laidByText := true, laidKinds := [.data, .pinned], laidTests := true, laidLooks := .later }
def TrieSelfUptoCardSaid : Prop := Claim7.holds Tryz.pinned (.plain (OpenSpec.upto trieSelfSpec)) trieSelfUptoCard

/-- THE SECOND FORM's CARD OF 'graticulelaw10.TrieOfNothing'. -/
def trieOfNothingUptoCard : Claim7 := { stood := { row := trieOfNothingUptoRow, standIns := [], harness := (true, "81770a780896ce5ca1cef88fc5438d465c94d537d446d07abcab08c81e24e585"), looks := false }, kinds := [], alts := [], laidByText := true, laidKinds := [.data, .pinned], laidTests := true, laidLooks := .later }
def TrieOfNothingUptoCardSaid : Prop := Claim7.holds Tryz.pinned (.plain (OpenSpec.upto trieOfNothingSpec)) trieOfNothingUptoCard
end Rows
end Go.Proofs.YtiolkiikgjedcaaGreatDoor
