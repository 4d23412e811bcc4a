/-
  DERIVED. GIVEN WITH THE SEED: THE CARDS: each row of YtngnifemghahkabDoorRows.lean that lists a variable, with what it lists TIED to the program's text (the seventh form; the later family's looks); each row that meets fmt, with fmt's text TOLD by the authors' own Lean function (tested against real Go, not proved from fmt's source: count such statements apart). THE CARD IS WHAT COUNTS. Prove the row's statement (the work); the ties are given (YtngnifemghahkabDoorTie.lean); close each card by the builder's one call (the guide's Derived/Test/ToyasCard.lean, 'card_holds'). Laid BY PROGRAM, IN A SANDBOX (cutbox-door.mjs). By AI agents, Wed Nov 11 2026. No macro, syntax, notation, axiom, sorry.
-/
import Derived.Test.YtngnifemghahkabDoorRows
import GoSem.ClaimSeven
namespace Go.Proofs.YtngnifemghahkabDoor
namespace Rows

/-- THE TIED CARD OF 'tidemarklaw9.MvccPrune'. -/
def mvccPruneCard : Claim7 := { stood := { row := mvccPruneRow, standIns := [], harness := (true, "e3927dea2d1698cd989854d9162f0a7f9e4e831f65aa13cf962db83e32664e30"), looks := false }, kinds := [], alts := [], laidByText := true, laidKinds := [.data, .data, .data], laidTests := true, laidLooks := .later }
def MvccPruneCardSaid : Prop := Claim7.holds Tryd.pinned (.plain (OpenSpec.ofChange mvccPruneSpec)) mvccPruneCard

/-- THE SECOND FORM's CARD OF 'tidemarklaw9.MvccPrune'. -/
def mvccPruneUptoCard : Claim7 := { stood := { row := mvccPruneUptoRow, standIns := [], harness := (true, "e3927dea2d1698cd989854d9162f0a7f9e4e831f65aa13cf962db83e32664e30"), looks := false }, kinds := [], alts := [], laidByText := true, laidKinds := [.data, .data, .data], laidTests := true, laidLooks := .later }
def MvccPruneUptoCardSaid : Prop := Claim7.holds Tryd.pinned (.plain (OpenSpec.upto mvccPruneSpec)) mvccPruneUptoCard
end Rows
end Go.Proofs.YtngnifemghahkabDoor
