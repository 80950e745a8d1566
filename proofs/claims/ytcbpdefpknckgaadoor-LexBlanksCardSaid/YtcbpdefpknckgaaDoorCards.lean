/-
  DERIVED. GIVEN WITH THE SEED: THE CARDS: each row of YtcbpdefpknckgaaDoorRows.lean that lists a variable, with what it lists TIED to the program's text (the seventh form; the later family's looks); each row that meets fmt, with fmt's text TOLD by the authors' own Lean function (tested against real Go, not proved from fmt's source: count such statements apart). THE CARD IS WHAT COUNTS. Prove the row's statement (the work); the ties are given (YtcbpdefpknckgaaDoorTie.lean); close each card by the builder's one call (the guide's Derived/Test/ToyasCard.lean, 'card_holds'). Laid BY PROGRAM, IN A SANDBOX (cutbox-door.mjs). By AI agents, Wed Nov 11 2026. No macro, syntax, notation, axiom, sorry.
-/
import Derived.Test.YtcbpdefpknckgaaDoorRows
import GoSem.ClaimSeven
namespace Go.Proofs.YtcbpdefpknckgaaDoor
namespace Rows

/-- THE TIED CARD OF 'graticulelaw14.LexReads'. -/
def lexReadsCard : Claim7 := { stood := { row := lexReadsRow, standIns := [], harness := (true, "9ce01e28fb069980045da397d45d529ee18f7ad2e3113b2007ecef86826a7909"), looks := false }, kinds := [], alts := [], laidByText := true, laidKinds := [.data, .pinned], laidTests := true, laidLooks := .later }
def LexReadsCardSaid : Prop := Claim7.holds Tryd.pinned (.plain (OpenSpec.ofChange lexReadsSpec)) lexReadsCard

/-- THE TIED CARD OF 'graticulelaw14.LexLooks'. -/
def lexLooksCard : Claim7 := { stood := { row := lexLooksRow, standIns := [], harness := (true, "9ce01e28fb069980045da397d45d529ee18f7ad2e3113b2007ecef86826a7909"), looks := false }, kinds := [], alts := [], laidByText := true, laidKinds := [.data, .pinned], laidTests := true, laidLooks := .later }
def LexLooksCardSaid : Prop := Claim7.holds Tryd.pinned (.plain (OpenSpec.ofChange lexLooksSpec)) lexLooksCard

/-- THE TIED CARD OF 'graticulelaw14.LexBlanks'. -/
def lexBlanksCard : Claim7 := { stood := { row := lexBlanksRow, standIns := [], harness := (true, "9ce01e28fb069980045da397d45d529ee18f7ad2e3113b2007ecef86826a7909"), looks := false }, kinds := [], alts := [], laidByText := true, laidKinds := [.data, .pinned], laidTests := true, laidLooks := .later }
def LexBlanksCardSaid : Prop := Claim7.holds Tryd.pinned (.plain (OpenSpec.ofChange lexBlanksSpec)) lexBlanksCard

/-- THE SECOND FORM's CARD OF 'graticulelaw14.LexReads'. -/
def lexReadsUptoCard : Claim7 := { stood := { row := lexReadsUptoRow, standIns := [], harness := (true, "9ce01e28fb069980045da397d45d529ee18f7ad2e3113b2007ecef86826a7909"), looks := false }, kinds := [], alts := [], laidByText := true, laidKinds := [.data, .pinned], laidTests := true, laidLooks := .later }
def LexReadsUptoCardSaid : Prop := Claim7.holds Tryd.pinned (.plain (OpenSpec.upto lexReadsSpec)) lexReadsUptoCard

/-- THE SECOND FORM's CARD OF 'graticulelaw14.LexLooks'. -/
def lexLooksUptoCard : Claim7 := { stood := { row := lexLooksUptoRow, standIns := [], harness := (true, "9ce01e28fb069980045da397d45d529ee18f7ad2e3113b2007ecef86826a7909"), looks := false }, kinds := [], alts := [], laidByText := true, laidKinds := [.data, .pinned], laidTests := true, laidLooks := .later }
def LexLooksUptoCardSaid : Prop := Claim7.holds Tryd.pinned (.plain (OpenSpec.upto lexLooksSpec)) lexLooksUptoCard

/-- THE SECOND FORM's CARD OF 'graticulelaw14.LexBlanks'. -/
def lexBlanksUptoCard : Claim7 := { stood := { row := lexBlanksUptoRow, standIns := [], harness := (true, "9ce01e28fb069980045da397d45d529ee18f7ad2e3113b2007ecef86826a7909"), looks := false }, kinds := [], alts := [], laidByText := true, laidKinds := [.data, .pinned], laidTests := true, laidLooks := .later }
def LexBlanksUptoCardSaid : Prop := Claim7.holds Tryd.pinned (.plain (OpenSpec.upto lexBlanksSpec)) lexBlanksUptoCard
end Rows
end Go.Proofs.YtcbpdefpknckgaaDoor
