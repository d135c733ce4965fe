/-
  DERIVED. GIVEN WITH THE SEED: THE PROGRAM's TIES (one call each: nine closed facts by the kernel) AND EACH ROW's TIE, after the 31st guide's Derived/Test/Toyas{Tie, Card}.lean. No idea stands in it: it is a product of the set-up. Laid BY PROGRAM, IN A SANDBOX (cutbox-door.mjs). By AI agents, Wed Nov 11 2026. No macro, syntax, notation, axiom, sorry.
-/
import Derived.Test.YtcdhakfmljjaoaaGreatDoorRows
import Derived.LaidByTextLater
import Derived.SevenTiedAt
import Derived.LaidSub
import Derived.LaidOnce
namespace Go.Proofs.YtcdhakfmljjaoaaGreatDoor
open Go
set_option maxRecDepth 100000
theorem seatTie1 : Tryz.prog.laidByTextLater [("sutler/crc.halves", Rows.laid_sutler_crc_halves), ("sutler/flate.lengths", Rows.laid_sutler_flate_lengths), ("sutler/flate.distances", Rows.laid_sutler_flate_distances), ("sutler/flate.repeats", Rows.laid_sutler_flate_repeats), ("sutler/flate.sizes", Rows.laid_sutler_flate_sizes), ("sutler/flate.order", Rows.laid_sutler_flate_order), ("sutler/gzip.parts", Rows.laid_sutler_gzip_parts)] [.data, .data, .data, .data, .data, .data, .data] true :=
  Program.laidByTextLater_by_one 113 8 61 (by kernel_rfl) (by kernel_rfl) (by kernel_rfl) (by kernel_rfl) (by kernel_rfl) (by kernel_rfl) (fun _ _ => by kernel_rfl)
theorem noOwnUnsafe : Tryz.pinned.checked.prog.headLifts.contains "ownunsafe" = false := by kernel_rfl
theorem tie : Tryz.prog.laidByTextLater [("sutler/crc.halves", Rows.laid_sutler_crc_halves), ("sutler/flate.lengths", Rows.laid_sutler_flate_lengths), ("sutler/flate.distances", Rows.laid_sutler_flate_distances), ("sutler/flate.repeats", Rows.laid_sutler_flate_repeats), ("sutler/flate.sizes", Rows.laid_sutler_flate_sizes), ("sutler/flate.order", Rows.laid_sutler_flate_order), ("sutler/gzip.parts", Rows.laid_sutler_gzip_parts)] [.data, .data, .data, .data, .data, .data, .data] true :=
  Program.laidByTextLater.sub seatTie1 ["sutler/crc.halves", "sutler/flate.lengths", "sutler/flate.distances", "sutler/flate.repeats", "sutler/flate.sizes", "sutler/flate.order", "sutler/gzip.parts"] (by kernel_rfl) (by kernel_rfl)
theorem gzipWrites_row_tie : Rows.gzipWritesRow.laidByTextAt .later Tryz.pinned [.data, .data, .data, .data, .data, .data, .data] true :=
  OpenClaim.laidByTextAt_later rfl rfl tie noOwnUnsafe
theorem gzipBack_row_tie : Rows.gzipBackRow.laidByTextAt .later Tryz.pinned [.data, .data, .data, .data, .data, .data, .data] true :=
  OpenClaim.laidByTextAt_later rfl rfl tie noOwnUnsafe
theorem gzipFinds_row_tie : Rows.gzipFindsRow.laidByTextAt .later Tryz.pinned [.data, .data, .data, .data, .data, .data, .data] true :=
  OpenClaim.laidByTextAt_later rfl rfl tie noOwnUnsafe
theorem gzipShort_row_tie : Rows.gzipShortRow.laidByTextAt .later Tryz.pinned [.data, .data, .data, .data, .data, .data, .data] true :=
  OpenClaim.laidByTextAt_later rfl rfl tie noOwnUnsafe
theorem gzipSums_row_tie : Rows.gzipSumsRow.laidByTextAt .later Tryz.pinned [.data, .data, .data, .data, .data, .data, .data] true :=
  OpenClaim.laidByTextAt_later rfl rfl tie noOwnUnsafe
theorem gzipWritesUpto_row_tie : Rows.gzipWritesUptoRow.laidByTextAt .later Tryz.pinned [.data, .data, .data, .data, .data, .data, .data] true :=
  OpenClaim.laidByTextAt_later rfl rfl tie noOwnUnsafe
theorem gzipBackUpto_row_tie : Rows.gzipBackUptoRow.laidByTextAt .later Tryz.pinned [.data, .data, .data, .data, .data, .data, .data] true :=
  OpenClaim.laidByTextAt_later rfl rfl tie noOwnUnsafe
theorem gzipFindsUpto_row_tie : Rows.gzipFindsUptoRow.laidByTextAt .later Tryz.pinned [.data, .data, .data, .data, .data, .data, .data] true :=
  OpenClaim.laidByTextAt_later rfl rfl tie noOwnUnsafe
theorem gzipShortUpto_row_tie : Rows.gzipShortUptoRow.laidByTextAt .later Tryz.pinned [.data, .data, .data, .data, .data, .data, .data] true :=
  OpenClaim.laidByTextAt_later rfl rfl tie noOwnUnsafe
theorem gzipSumsUpto_row_tie : Rows.gzipSumsUptoRow.laidByTextAt .later Tryz.pinned [.data, .data, .data, .data, .data, .data, .data] true :=
  OpenClaim.laidByTextAt_later rfl rfl tie noOwnUnsafe
end Go.Proofs.YtcdhakfmljjaoaaGreatDoor
