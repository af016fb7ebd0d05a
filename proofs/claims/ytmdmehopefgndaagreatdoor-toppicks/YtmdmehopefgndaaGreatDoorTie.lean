/-
  DERIVED. GIVEN WITH THE SEED: THE PROGRAM's TIES (one call each: nine closed facts by the kernel) AND EACH ROW's TIE, after the 31st guide's Derived/Test/Toyas{Tie, Card}.lean. No idea stands in it: it is a product of the set-up. Laid BY PROGRAM, IN A SANDBOX (cutbox-door.mjs). By AI agents, Wed Nov 11 2026. No macro, syntax, notation, axiom, sorry.
-/
import Derived.Test.YtmdmehopefgndaaGreatDoorRows
import Derived.LaidByTextLater
import Derived.SevenTiedAt
import Derived.LaidSub
import Derived.LaidOnce
namespace Go.Proofs.YtmdmehopefgndaaGreatDoor
open Go
set_option maxRecDepth 100000
theorem seatTie1 : Tryz.prog.laidByTextLater [("colophon/ucd.brackets", Rows.laid_colophon_ucd_brackets), ("colophon/ucd.mirrored", Rows.laid_colophon_ucd_mirrored)] [.data, .data] true :=
  Program.laidByTextLater_by_one 50 8 43 (by kernel_rfl) (by kernel_rfl) (by kernel_rfl) (by kernel_rfl) (by kernel_rfl) (by kernel_rfl) (fun _ _ => by kernel_rfl)
theorem noOwnUnsafe : Tryz.pinned.checked.prog.headLifts.contains "ownunsafe" = false := by kernel_rfl
theorem tie : Tryz.prog.laidByTextLater [("colophon/ucd.brackets", Rows.laid_colophon_ucd_brackets), ("colophon/ucd.mirrored", Rows.laid_colophon_ucd_mirrored)] [.data, .data] true :=
  Program.laidByTextLater.sub seatTie1 ["colophon/ucd.brackets", "colophon/ucd.mirrored"] (by kernel_rfl) (by kernel_rfl)
theorem topPicks_row_tie : Rows.topPicksRow.laidByTextAt .later Tryz.pinned [.data, .data] true :=
  OpenClaim.laidByTextAt_later rfl rfl tie noOwnUnsafe
theorem topPicksUpto_row_tie : Rows.topPicksUptoRow.laidByTextAt .later Tryz.pinned [.data, .data] true :=
  OpenClaim.laidByTextAt_later rfl rfl tie noOwnUnsafe
end Go.Proofs.YtmdmehopefgndaaGreatDoor
