/-
  DERIVED. GIVEN WITH THE SEED: THE PROGRAM's TIES (one call each: nine closed facts by the kernel) AND EACH ROW's TIE, after the 31st guide's Derived/Test/Toyas{Tie, Card}.lean. No idea stands in it: it is a product of the set-up. Laid BY PROGRAM, IN A SANDBOX (cutbox-door.mjs). By AI agents, Wed Nov 11 2026. No macro, syntax, notation, axiom, sorry.
-/
import Derived.Test.YtenkkononchgmaaGreatDoorRows
import Derived.LaidByTextLater
import Derived.SevenTiedAt
import Derived.LaidSub
import Derived.LaidOnce
namespace Go.Proofs.YtenkkononchgmaaGreatDoor
open Go
set_option maxRecDepth 100000
theorem seatTie1 : Tryz.prog.laidByTextLater [("peatbank/inflate.lengthBases", Rows.laid_peatbank_inflate_lengthBases), ("peatbank/inflate.lengthBits", Rows.laid_peatbank_inflate_lengthBits), ("peatbank/inflate.distanceBases", Rows.laid_peatbank_inflate_distanceBases), ("peatbank/inflate.distanceBits", Rows.laid_peatbank_inflate_distanceBits), ("peatbank/inflate.lengthOrder", Rows.laid_peatbank_inflate_lengthOrder), ("peatbank/deflate.lengthBases", Rows.laid_peatbank_deflate_lengthBases), ("peatbank/deflate.lengthBits", Rows.laid_peatbank_deflate_lengthBits), ("peatbank/deflate.distanceBases", Rows.laid_peatbank_deflate_distanceBases), ("peatbank/deflate.distanceBits", Rows.laid_peatbank_deflate_distanceBits), ("peatbank/deflate.lengthOrder", Rows.laid_peatbank_deflate_lengthOrder)] [.data, .data, .data, .data, .data, .data, .data, .data, .data, .data] true :=
  Program.laidByTextLater_by_one 59 8 31 (by kernel_rfl) (by kernel_rfl) (by kernel_rfl) (by kernel_rfl) (by kernel_rfl) (by kernel_rfl) (fun _ _ => by kernel_rfl)
theorem noOwnUnsafe : Tryz.pinned.checked.prog.headLifts.contains "ownunsafe" = false := by kernel_rfl
theorem tie : Tryz.prog.laidByTextLater [("peatbank/deflate.lengthBases", Rows.laid_peatbank_deflate_lengthBases), ("peatbank/deflate.lengthBits", Rows.laid_peatbank_deflate_lengthBits), ("peatbank/deflate.distanceBases", Rows.laid_peatbank_deflate_distanceBases), ("peatbank/deflate.distanceBits", Rows.laid_peatbank_deflate_distanceBits), ("peatbank/deflate.lengthOrder", Rows.laid_peatbank_deflate_lengthOrder)] [.data, .data, .data, .data, .data] true :=
  Program.laidByTextLater.sub seatTie1 ["peatbank/deflate.lengthBases", "peatbank/deflate.lengthBits", "peatbank/deflate.distanceBases", "peatbank/deflate.distanceBits", "peatbank/deflate.lengthOrder"] (by kernel_rfl) (by kernel_rfl)
theorem deflateSays_row_tie : Rows.deflateSaysRow.laidByTextAt .later Tryz.pinned [.data, .data, .data, .data, .data] true :=
  OpenClaim.laidByTextAt_later rfl rfl tie noOwnUnsafe
theorem tie2 : Tryz.prog.laidByTextLater [("peatbank/inflate.lengthBases", Rows.laid_peatbank_inflate_lengthBases), ("peatbank/inflate.lengthBits", Rows.laid_peatbank_inflate_lengthBits), ("peatbank/inflate.distanceBases", Rows.laid_peatbank_inflate_distanceBases), ("peatbank/inflate.distanceBits", Rows.laid_peatbank_inflate_distanceBits), ("peatbank/inflate.lengthOrder", Rows.laid_peatbank_inflate_lengthOrder), ("peatbank/deflate.lengthBases", Rows.laid_peatbank_deflate_lengthBases), ("peatbank/deflate.lengthBits", Rows.laid_peatbank_deflate_lengthBits), ("peatbank/deflate.distanceBases", Rows.laid_peatbank_deflate_distanceBases), ("peatbank/deflate.distanceBits", Rows.laid_peatbank_deflate_distanceBits), ("peatbank/deflate.lengthOrder", Rows.laid_peatbank_deflate_lengthOrder)] [.data, .data, .data, .data, .data, .data, .data, .data, .data, .data] true :=
  Program.laidByTextLater.sub seatTie1 ["peatbank/inflate.lengthBases", "peatbank/inflate.lengthBits", "peatbank/inflate.distanceBases", "peatbank/inflate.distanceBits", "peatbank/inflate.lengthOrder", "peatbank/deflate.lengthBases", "peatbank/deflate.lengthBits", "peatbank/deflate.distanceBases", "peatbank/deflate.distanceBits", "peatbank/deflate.lengthOrder"] (by kernel_rfl) (by kernel_rfl)
theorem deflateBack_row_tie : Rows.deflateBackRow.laidByTextAt .later Tryz.pinned [.data, .data, .data, .data, .data, .data, .data, .data, .data, .data] true :=
  OpenClaim.laidByTextAt_later rfl rfl tie2 noOwnUnsafe
theorem deflateRuns_row_tie : Rows.deflateRunsRow.laidByTextAt .later Tryz.pinned [.data, .data, .data, .data, .data, .data, .data, .data, .data, .data] true :=
  OpenClaim.laidByTextAt_later rfl rfl tie2 noOwnUnsafe
theorem deflateSaysUpto_row_tie : Rows.deflateSaysUptoRow.laidByTextAt .later Tryz.pinned [.data, .data, .data, .data, .data] true :=
  OpenClaim.laidByTextAt_later rfl rfl tie noOwnUnsafe
theorem deflateBackUpto_row_tie : Rows.deflateBackUptoRow.laidByTextAt .later Tryz.pinned [.data, .data, .data, .data, .data, .data, .data, .data, .data, .data] true :=
  OpenClaim.laidByTextAt_later rfl rfl tie2 noOwnUnsafe
theorem deflateRunsUpto_row_tie : Rows.deflateRunsUptoRow.laidByTextAt .later Tryz.pinned [.data, .data, .data, .data, .data, .data, .data, .data, .data, .data] true :=
  OpenClaim.laidByTextAt_later rfl rfl tie2 noOwnUnsafe
end Go.Proofs.YtenkkononchgmaaGreatDoor
