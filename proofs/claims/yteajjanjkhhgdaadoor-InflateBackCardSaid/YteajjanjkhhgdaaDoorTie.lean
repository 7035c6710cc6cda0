/-
  DERIVED. GIVEN WITH THE SEED: THE PROGRAM's TIES (one call each: nine closed facts by the kernel) AND EACH ROW's TIE, after the 31st guide's Derived/Test/Toyas{Tie, Card}.lean. No idea stands in it: it is a product of the set-up. Laid BY PROGRAM, IN A SANDBOX (cutbox-door.mjs). By AI agents, Wed Nov 11 2026. No macro, syntax, notation, axiom, sorry.
-/
import Derived.Test.YteajjanjkhhgdaaDoorRows
import Derived.LaidByTextLater
import Derived.SevenTiedAt
import Derived.LaidSub
import Derived.LaidOnce
namespace Go.Proofs.YteajjanjkhhgdaaDoor
open Go
set_option maxRecDepth 100000
theorem seatTie1 : Tryd.prog.laidByTextLater [("peatbank/inflate.lengthBases", Rows.laid_peatbank_inflate_lengthBases), ("peatbank/inflate.lengthBits", Rows.laid_peatbank_inflate_lengthBits), ("peatbank/inflate.distanceBases", Rows.laid_peatbank_inflate_distanceBases), ("peatbank/inflate.distanceBits", Rows.laid_peatbank_inflate_distanceBits), ("peatbank/inflate.lengthOrder", Rows.laid_peatbank_inflate_lengthOrder), ("peatbank/deflate.lengthBases", Rows.laid_peatbank_deflate_lengthBases), ("peatbank/deflate.lengthBits", Rows.laid_peatbank_deflate_lengthBits), ("peatbank/deflate.distanceBases", Rows.laid_peatbank_deflate_distanceBases), ("peatbank/deflate.distanceBits", Rows.laid_peatbank_deflate_distanceBits), ("peatbank/deflate.lengthOrder", Rows.laid_peatbank_deflate_lengthOrder)] [.data, .data, .data, .data, .data, .data, .data, .data, .data, .data] true :=
  Program.laidByTextLater_by_one 59 8 31 (by kernel_rfl) (by kernel_rfl) (by kernel_rfl) (by kernel_rfl) (by kernel_rfl) (by kernel_rfl) (fun _ _ => by kernel_rfl)
theorem noOwnUnsafe : Tryd.pinned.checked.prog.headLifts.contains "ownunsafe" = false := by kernel_rfl
theorem tie : Tryd.prog.laidByTextLater [("peatbank/inflate.lengthBases", Rows.laid_peatbank_inflate_lengthBases), ("peatbank/inflate.lengthBits", Rows.laid_peatbank_inflate_lengthBits), ("peatbank/inflate.distanceBases", Rows.laid_peatbank_inflate_distanceBases), ("peatbank/inflate.distanceBits", Rows.laid_peatbank_inflate_distanceBits), ("peatbank/inflate.lengthOrder", Rows.laid_peatbank_inflate_lengthOrder)] [.data, .data, .data, .data, .data] true :=
  Program.laidByTextLater.sub seatTie1 ["peatbank/inflate.lengthBases", "peatbank/inflate.lengthBits", "peatbank/inflate.distanceBases", "peatbank/inflate.distanceBits", "peatbank/inflate.lengthOrder"] (by kernel_rfl) (by kernel_rfl)
theorem inflateReads_row_tie : Rows.inflateReadsRow.laidByTextAt .later Tryd.pinned [.data, .data, .data, .data, .data] true :=
  OpenClaim.laidByTextAt_later rfl rfl tie noOwnUnsafe
theorem inflateCuts_row_tie : Rows.inflateCutsRow.laidByTextAt .later Tryd.pinned [.data, .data, .data, .data, .data] true :=
  OpenClaim.laidByTextAt_later rfl rfl tie noOwnUnsafe
theorem inflateLimits_row_tie : Rows.inflateLimitsRow.laidByTextAt .later Tryd.pinned [.data, .data, .data, .data, .data] true :=
  OpenClaim.laidByTextAt_later rfl rfl tie noOwnUnsafe
theorem inflateBack_row_tie : Rows.inflateBackRow.laidByTextAt .later Tryd.pinned [.data, .data, .data, .data, .data] true :=
  OpenClaim.laidByTextAt_later rfl rfl tie noOwnUnsafe
theorem inflateAlike_row_tie : Rows.inflateAlikeRow.laidByTextAt .later Tryd.pinned [.data, .data, .data, .data, .data] true :=
  OpenClaim.laidByTextAt_later rfl rfl tie noOwnUnsafe
theorem tie2 : Tryd.prog.laidByTextLater [("peatbank/deflate.lengthBases", Rows.laid_peatbank_deflate_lengthBases), ("peatbank/deflate.lengthBits", Rows.laid_peatbank_deflate_lengthBits), ("peatbank/deflate.distanceBases", Rows.laid_peatbank_deflate_distanceBases), ("peatbank/deflate.distanceBits", Rows.laid_peatbank_deflate_distanceBits), ("peatbank/deflate.lengthOrder", Rows.laid_peatbank_deflate_lengthOrder)] [.data, .data, .data, .data, .data] true :=
  Program.laidByTextLater.sub seatTie1 ["peatbank/deflate.lengthBases", "peatbank/deflate.lengthBits", "peatbank/deflate.distanceBases", "peatbank/deflate.distanceBits", "peatbank/deflate.lengthOrder"] (by kernel_rfl) (by kernel_rfl)
theorem deflateBound_row_tie : Rows.deflateBoundRow.laidByTextAt .later Tryd.pinned [.data, .data, .data, .data, .data] true :=
  OpenClaim.laidByTextAt_later rfl rfl tie2 noOwnUnsafe
theorem deflateNumbers_row_tie : Rows.deflateNumbersRow.laidByTextAt .later Tryd.pinned [.data, .data, .data, .data, .data] true :=
  OpenClaim.laidByTextAt_later rfl rfl tie2 noOwnUnsafe
theorem inflateReadsUpto_row_tie : Rows.inflateReadsUptoRow.laidByTextAt .later Tryd.pinned [.data, .data, .data, .data, .data] true :=
  OpenClaim.laidByTextAt_later rfl rfl tie noOwnUnsafe
theorem inflateCutsUpto_row_tie : Rows.inflateCutsUptoRow.laidByTextAt .later Tryd.pinned [.data, .data, .data, .data, .data] true :=
  OpenClaim.laidByTextAt_later rfl rfl tie noOwnUnsafe
theorem inflateLimitsUpto_row_tie : Rows.inflateLimitsUptoRow.laidByTextAt .later Tryd.pinned [.data, .data, .data, .data, .data] true :=
  OpenClaim.laidByTextAt_later rfl rfl tie noOwnUnsafe
theorem inflateBackUpto_row_tie : Rows.inflateBackUptoRow.laidByTextAt .later Tryd.pinned [.data, .data, .data, .data, .data] true :=
  OpenClaim.laidByTextAt_later rfl rfl tie noOwnUnsafe
theorem inflateAlikeUpto_row_tie : Rows.inflateAlikeUptoRow.laidByTextAt .later Tryd.pinned [.data, .data, .data, .data, .data] true :=
  OpenClaim.laidByTextAt_later rfl rfl tie noOwnUnsafe
theorem deflateBoundUpto_row_tie : Rows.deflateBoundUptoRow.laidByTextAt .later Tryd.pinned [.data, .data, .data, .data, .data] true :=
  OpenClaim.laidByTextAt_later rfl rfl tie2 noOwnUnsafe
theorem deflateNumbersUpto_row_tie : Rows.deflateNumbersUptoRow.laidByTextAt .later Tryd.pinned [.data, .data, .data, .data, .data] true :=
  OpenClaim.laidByTextAt_later rfl rfl tie2 noOwnUnsafe
end Go.Proofs.YteajjanjkhhgdaaDoor
