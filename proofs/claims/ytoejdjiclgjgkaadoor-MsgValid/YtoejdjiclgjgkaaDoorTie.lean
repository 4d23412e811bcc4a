/-
  DERIVED. GIVEN WITH THE SEED: THE PROGRAM's TIES (one call each: nine closed facts by the kernel) AND EACH ROW's TIE, after the 31st guide's Derived/Test/Toyas{Tie, Card}.lean. No idea stands in it: it is a product of the set-up. Laid BY PROGRAM, IN A SANDBOX (cutbox-door.mjs). By AI agents, Wed Nov 11 2026. No macro, syntax, notation, axiom, sorry.
-/
import Derived.Test.YtoejdjiclgjgkaaDoorRows
import Derived.LaidByTextLater
import Derived.SevenTiedAt
import Derived.LaidSub
import Derived.LaidOnce
namespace Go.Proofs.YtoejdjiclgjgkaaDoor
open Go
set_option maxRecDepth 100000
theorem seatTie1 : Tryd.prog.laidByTextLater [("tidemark/tidemarkref5.dataStatus", Rows.laid_tidemark_tidemarkref5_dataStatus), ("tidemark/tidemarkref5.voteStatus", Rows.laid_tidemark_tidemarkref5_voteStatus)] [.data, .data] true :=
  Program.laidByTextLater_by_one 19 8 8 (by kernel_rfl) (by kernel_rfl) (by kernel_rfl) (by kernel_rfl) (by kernel_rfl) (by kernel_rfl) (fun _ _ => by kernel_rfl)
theorem noOwnUnsafe : Tryd.pinned.checked.prog.headLifts.contains "ownunsafe" = false := by kernel_rfl
theorem tie : Tryd.prog.laidByTextLater [("tidemark/tidemarkref5.dataStatus", Rows.laid_tidemark_tidemarkref5_dataStatus), ("tidemark/tidemarkref5.voteStatus", Rows.laid_tidemark_tidemarkref5_voteStatus)] [.data, .data] true :=
  Program.laidByTextLater.sub seatTie1 ["tidemark/tidemarkref5.dataStatus", "tidemark/tidemarkref5.voteStatus"] (by kernel_rfl) (by kernel_rfl)
theorem msgValid_row_tie : Rows.msgValidRow.laidByTextAt .later Tryd.pinned [.data, .data] true :=
  OpenClaim.laidByTextAt_later rfl rfl tie noOwnUnsafe
theorem msgValidUpto_row_tie : Rows.msgValidUptoRow.laidByTextAt .later Tryd.pinned [.data, .data] true :=
  OpenClaim.laidByTextAt_later rfl rfl tie noOwnUnsafe
end Go.Proofs.YtoejdjiclgjgkaaDoor
