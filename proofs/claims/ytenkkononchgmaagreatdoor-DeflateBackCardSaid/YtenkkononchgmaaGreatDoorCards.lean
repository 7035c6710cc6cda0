/-
  DERIVED. GIVEN WITH THE SEED: THE CARDS: each row of YtenkkononchgmaaGreatDoorRows.lean that lists a variable, with what it lists TIED to the program's text (the seventh form; the later family's looks); each row that meets fmt, with fmt's text TOLD by the authors' own Lean function (tested against real Go, not proved from fmt's source: count such statements apart). THE CARD IS WHAT COUNTS. Prove the row's statement (the work); the ties are given (YtenkkononchgmaaGreatDoorTie.lean); close each card by the builder's one call (the guide's Derived/Test/ToyasCard.lean, 'card_holds'). Laid BY PROGRAM, IN A SANDBOX (cutbox-door.mjs). By AI agents, Wed Nov 11 2026. No macro, syntax, notation, axiom, sorry.
-/
import Derived.Test.YtenkkononchgmaaGreatDoorRows
import GoSem.ClaimSeven
namespace Go.Proofs.YtenkkononchgmaaGreatDoor
namespace Rows

/-- THE TIED CARD OF 'peatbanklaw07.DeflateSays'. -/
def deflateSaysCard : Claim7 := { stood := { row := deflateSaysRow, standIns := [], harness := (true, "70c0571849d74c9782f3164cce6cf02bc0969ef17e40459f23bf501d545e95a9"), looks := false }, kinds := [], alts := [], laidByText := true, laidKinds := [.data, .data, .data, .data, .data], laidTests := true, laidLooks := .later }
def DeflateSaysCardSaid : Prop := Claim7.holds Tryz.pinned (.plain (OpenSpec.ofChange deflateSaysSpec)) deflateSaysCard

/-- THE TIED CARD OF 'peatbanklaw07.DeflateBack'. -/
def deflateBackCard : Claim7 := { stood := { row := deflateBackRow, standIns := [], harness := (true, "70c0571849d74c9782f3164cce6cf02bc0969ef17e40459f23bf501d545e95a9"), looks := false }, kinds := [], alts := [], laidByText := true, laidKinds := [.data, .data, .data, .data, .data, .data, .data, .data, .data, .data], laidTests := true, laidLooks := .later }
def DeflateBackCardSaid : Prop := Claim7.holds Tryz.pinned (.plain (OpenSpec.ofChange deflateBackSpec)) deflateBackCard

/-- THE TIED CARD OF 'peatbanklaw07.DeflateRuns'. -/
def deflateRunsCard : Claim7 := { stood := { row := deflateRunsRow, standIns := [], harness := (true, "70c0571849d74c9782f3164cce6cf02bc0969ef17e40459f23bf501d545e95a9"), looks := false }, kinds := [], alts := [], laidByText := true, laidKinds := [.data, .data, .data, .data, .data, .data, .data, .data, .data, .data], laidTests := true, laidLooks := .later }
def DeflateRunsCardSaid : Prop := Claim7.holds Tryz.pinned (.plain (OpenSpec.ofChange deflateRunsSpec)) deflateRunsCard

/-- THE SECOND FORM's CARD OF 'peatbanklaw07.DeflateSays'. -/
def deflateSaysUptoCard : Claim7 := { stood := { row := deflateSaysUptoRow, standIns := [], harness := (true, "70c0571849d74c9782f3164cce6cf02bc0969ef17e40459f23bf501d545e95a9"), looks := false }, kinds := [], alts := [], laidByText := true, laidKinds := [.data, .data, .data, .data, .data], laidTests := true, laidLooks := .later }
def DeflateSaysUptoCardSaid : Prop := Claim7.holds Tryz.pinned (.plain (OpenSpec.upto deflateSaysSpec)) deflateSaysUptoCard

/-- THE SECOND FORM's CARD OF 'peatbanklaw07.DeflateBack'. -/
def deflateBackUptoCard : Claim7 := { stood := { row := deflateBackUptoRow, standIns := [], harness := (true, "70c0571849d74c9782f3164cce6cf02bc0969ef17e40459f23bf501d545e95a9"), looks := false }, kinds := [], alts := [], laidByText := true, laidKinds := [.data, .data, .data, .data, .data, .data, .data, .data, .data, .data], laidTests := true, laidLooks := .later }
def DeflateBackUptoCardSaid : Prop := Claim7.holds Tryz.pinned (.plain (OpenSpec.upto deflateBackSpec)) deflateBackUptoCard

/-- THE SECOND FORM's CARD OF 'peatbanklaw07.DeflateRuns'. -/
def deflateRunsUptoCard : Claim7 := { stood := { row := deflateRunsUptoRow, standIns := [], harness := (true, "70c0571849d74c9782f3164cce6cf02bc0969ef17e40459f23bf501d545e95a9"), looks := false }, kinds := [], alts := [], laidByText := true, laidKinds := [.data, .data, .data, .data, .data, .data, .data, .data, .data, .data], laidTests := true, laidLooks := .later }
def DeflateRunsUptoCardSaid : Prop := Claim7.holds Tryz.pinned (.plain (OpenSpec.upto deflateRunsSpec)) deflateRunsUptoCard
end Rows
end Go.Proofs.YtenkkononchgmaaGreatDoor
