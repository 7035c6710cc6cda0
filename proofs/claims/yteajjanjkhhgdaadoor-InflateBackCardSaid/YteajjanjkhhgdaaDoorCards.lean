/-
  DERIVED. GIVEN WITH THE SEED: THE CARDS: each row of YteajjanjkhhgdaaDoorRows.lean that lists a variable, with what it lists TIED to the program's text (the seventh form; the later family's looks); each row that meets fmt, with fmt's text TOLD by the authors' own Lean function (tested against real Go, not proved from fmt's source: count such statements apart). THE CARD IS WHAT COUNTS. Prove the row's statement (the work); the ties are given (YteajjanjkhhgdaaDoorTie.lean); close each card by the builder's one call (the guide's Derived/Test/ToyasCard.lean, 'card_holds'). Laid BY PROGRAM, IN A SANDBOX (cutbox-door.mjs). By AI agents, Wed Nov 11 2026. No macro, syntax, notation, axiom, sorry.
-/
import Derived.Test.YteajjanjkhhgdaaDoorRows
import GoSem.ClaimSeven
namespace Go.Proofs.YteajjanjkhhgdaaDoor
namespace Rows

/-- THE TIED CARD OF 'peatbanklaw06.InflateReads'. -/
def inflateReadsCard : Claim7 := { stood := { row := inflateReadsRow, standIns := [], harness := (true, "0a76714c0498709092654a0048764318ad15446bd262ce83d92e54f42b1d440c"), looks := false }, kinds := [], alts := [], laidByText := true, laidKinds := [.data, .data, .data, .data, .data], laidTests := true, laidLooks := .later }
def InflateReadsCardSaid : Prop := Claim7.holds Tryd.pinned (.plain (OpenSpec.ofChange inflateReadsSpec)) inflateReadsCard

/-- THE TIED CARD OF 'peatbanklaw06.InflateCuts'. -/
def inflateCutsCard : Claim7 := { stood := { row := inflateCutsRow, standIns := [], harness := (true, "0a76714c0498709092654a0048764318ad15446bd262ce83d92e54f42b1d440c"), looks := false }, kinds := [], alts := [], laidByText := true, laidKinds := [.data, .data, .data, .data, .data], laidTests := true, laidLooks := .later }
def InflateCutsCardSaid : Prop := Claim7.holds Tryd.pinned (.plain (OpenSpec.ofChange inflateCutsSpec)) inflateCutsCard

/-- THE TIED CARD OF 'peatbanklaw06.InflateLimits'. -/
def inflateLimitsCard : Claim7 := { stood := { row := inflateLimitsRow, standIns := [], harness := (true, "0a76714c0498709092654a0048764318ad15446bd262ce83d92e54f42b1d440c"), looks := false }, kinds := [], alts := [], laidByText := true, laidKinds := [.data, .data, .data, .data, .data], laidTests := true, laidLooks := .later }
def InflateLimitsCardSaid : Prop := Claim7.holds Tryd.pinned (.plain (OpenSpec.ofChange inflateLimitsSpec)) inflateLimitsCard

/-- THE TIED CARD OF 'peatbanklaw06.InflateBack'. -/
def inflateBackCard : Claim7 := { stood := { row := inflateBackRow, standIns := [], harness := (true, "0a76714c0498709092654a0048764318ad15446bd262ce83d92e54f42b1d440c"), looks := false }, kinds := [], alts := [], laidByText := true, laidKinds := [.data, .data, .data, .data, .data], laidTests := true, laidLooks := .later }
def InflateBackCardSaid : Prop := Claim7.holds Tryd.pinned (.plain (OpenSpec.ofChange inflateBackSpec)) inflateBackCard

/-- THE TIED CARD OF 'peatbanklaw06.InflateAlike'. -/
def inflateAlikeCard : Claim7 := { stood := { row := inflateAlikeRow, standIns := [], harness := (true, "0a76714c0498709092654a0048764318ad15446bd262ce83d92e54f42b1d440c"), looks := false }, kinds := [], alts := [], laidByText := true, laidKinds := [.data, .data, .data, .data, .data], laidTests := true, laidLooks := .later }
def InflateAlikeCardSaid : Prop := Claim7.holds Tryd.pinned (.plain (OpenSpec.ofChange inflateAlikeSpec)) inflateAlikeCard

/-- THE TIED CARD OF 'peatbanklaw07.DeflateBound'. -/
def deflateBoundCard : Claim7 := { stood := { row := deflateBoundRow, standIns := [], harness := (true, "0a76714c0498709092654a0048764318ad15446bd262ce83d92e54f42b1d440c"), looks := false }, kinds := [], alts := [], laidByText := true, laidKinds := [.data, .data, .data, .data, .data], laidTests := true, laidLooks := .later }
def DeflateBoundCardSaid : Prop := Claim7.holds Tryd.pinned (.plain (OpenSpec.ofChange deflateBoundSpec)) deflateBoundCard

/-- THE TIED CARD OF 'peatbanklaw07.DeflateNumbers'. -/
def deflateNumbersCard : Claim7 := { stood := { row := deflateNumbersRow, standIns := [], harness := (true, "0a76714c0498709092654a0048764318ad15446bd262ce83d92e54f42b1d440c"), looks := false }, kinds := [], alts := [], laidByText := true, laidKinds := [.data, .data, .data, .data, .data], laidTests := true, laidLooks := .later }
def DeflateNumbersCardSaid : Prop := Claim7.holds Tryd.pinned (.plain (OpenSpec.ofChange deflateNumbersSpec)) deflateNumbersCard

/-- THE SECOND FORM's CARD OF 'peatbanklaw06.InflateReads'. -/
def inflateReadsUptoCard : Claim7 := { stood := { row := inflateReadsUptoRow, standIns := [], harness := (true, "0a76714c0498709092654a0048764318ad15446bd262ce83d92e54f42b1d440c"), looks := false }, kinds := [], alts := [], laidByText := true, laidKinds := [.data, .data, .data, .data, .data], laidTests := true, laidLooks := .later }
def InflateReadsUptoCardSaid : Prop := Claim7.holds Tryd.pinned (.plain (OpenSpec.upto inflateReadsSpec)) inflateReadsUptoCard

/-- THE SECOND FORM's CARD OF 'peatbanklaw06.InflateCuts'. -/
def inflateCutsUptoCard : Claim7 := { stood := { row := inflateCutsUptoRow, standIns := [], harness := (true, "0a76714c0498709092654a0048764318ad15446bd262ce83d92e54f42b1d440c"), looks := false }, kinds := [], alts := [], laidByText := true, laidKinds := [.data, .data, .data, .data, .data], laidTests := true, laidLooks := .later }
def InflateCutsUptoCardSaid : Prop := Claim7.holds Tryd.pinned (.plain (OpenSpec.upto inflateCutsSpec)) inflateCutsUptoCard

/-- THE SECOND FORM's CARD OF 'peatbanklaw06.InflateLimits'. -/
def inflateLimitsUptoCard : Claim7 := { stood := { row := inflateLimitsUptoRow, standIns := [], harness := (true, "0a76714c0498709092654a0048764318ad15446bd262ce83d92e54f42b1d440c"), looks := false }, kinds := [], alts := [], laidByText := true, laidKinds := [.data, .data, .data, .data, .data], laidTests := true, laidLooks := .later }
def InflateLimitsUptoCardSaid : Prop := Claim7.holds Tryd.pinned (.plain (OpenSpec.upto inflateLimitsSpec)) inflateLimitsUptoCard

/-- THE SECOND FORM's CARD OF 'peatbanklaw06.InflateBack'. -/
def inflateBackUptoCard : Claim7 := { stood := { row := inflateBackUptoRow, standIns := [], harness := (true, "0a76714c0498709092654a0048764318ad15446bd262ce83d92e54f42b1d440c"), looks := false }, kinds := [], alts := [], laidByText := true, laidKinds := [.data, .data, .data, .data, .data], laidTests := true, laidLooks := .later }
def InflateBackUptoCardSaid : Prop := Claim7.holds Tryd.pinned (.plain (OpenSpec.upto inflateBackSpec)) inflateBackUptoCard

/-- THE SECOND FORM's CARD OF 'peatbanklaw06.InflateAlike'. -/
def inflateAlikeUptoCard : Claim7 := { stood := { row := inflateAlikeUptoRow, standIns := [], harness := (true, "0a76714c0498709092654a0048764318ad15446bd262ce83d92e54f42b1d440c"), looks := false }, kinds := [], alts := [], laidByText := true, laidKinds := [.data, .data, .data, .data, .data], laidTests := true, laidLooks := .later }
def InflateAlikeUptoCardSaid : Prop := Claim7.holds Tryd.pinned (.plain (OpenSpec.upto inflateAlikeSpec)) inflateAlikeUptoCard

/-- THE SECOND FORM's CARD OF 'peatbanklaw07.DeflateBound'. -/
def deflateBoundUptoCard : Claim7 := { stood := { row := deflateBoundUptoRow, standIns := [], harness := (true, "0a76714c0498709092654a0048764318ad15446bd262ce83d92e54f42b1d440c"), looks := false }, kinds := [], alts := [], laidByText := true, laidKinds := [.data, .data, .data, .data, .data], laidTests := true, laidLooks := .later }
def DeflateBoundUptoCardSaid : Prop := Claim7.holds Tryd.pinned (.plain (OpenSpec.upto deflateBoundSpec)) deflateBoundUptoCard

/-- THE SECOND FORM's CARD OF 'peatbanklaw07.DeflateNumbers'. -/
def deflateNumbersUptoCard : Claim7 := { stood := { row := deflateNumbersUptoRow, standIns := [], harness := (true, "0a76714c0498709092654a0048764318ad15446bd262ce83d92e54f42b1d440c"), looks := false }, kinds := [], alts := [], laidByText := true, laidKinds := [.data, .data, .data, .data, .data], laidTests := true, laidLooks := .later }
def DeflateNumbersUptoCardSaid : Prop := Claim7.holds Tryd.pinned (.plain (OpenSpec.upto deflateNumbersSpec)) deflateNumbersUptoCard
end Rows
end Go.Proofs.YteajjanjkhhgdaaDoor
