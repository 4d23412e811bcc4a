/-
  DERIVED. GIVEN WITH THE SEED: THE CARDS: each row of YtchfoipkaookmaaDoorRows.lean that lists a variable, with what it lists TIED to the program's text (the seventh form; the later family's looks); each row that meets fmt, with fmt's text TOLD by the authors' own Lean function (tested against real Go, not proved from fmt's source: count such statements apart). THE CARD IS WHAT COUNTS. Prove the row's statement (the work); the ties are given (YtchfoipkaookmaaDoorTie.lean); close each card by the builder's one call (the guide's Derived/Test/ToyasCard.lean, 'card_holds'). Laid BY PROGRAM, IN A SANDBOX (cutbox-door.mjs). By AI agents, Wed Nov 11 2026. No macro, syntax, notation, axiom, sorry.
-/
import Derived.Test.YtchfoipkaookmaaDoorRows
import GoSem.ClaimSeven
namespace Go.Proofs.YtchfoipkaookmaaDoor
namespace Rows

/-- THE TIED CARD OF 'tidemarklaw3.WireStops'. -/
def wireStopsCard : Claim7 := { stood := { row := wireStopsRow, standIns := [], harness := (true, "c570e8f5d59fe3c0b803da0159daa2ad283db3f09f31b119cc7a60b10c2f7d6f"), looks := true }, kinds := [], alts := [], laidByText := true, laidKinds := [.data, .data, .data], laidTests := true, laidLooks := .later }
def WireStopsCardSaid : Prop := Claim7.holds Tryd.pinned (.plain (OpenSpec.ofChange wireStopsSpec)) wireStopsCard

/-- THE SECOND FORM's CARD OF 'tidemarklaw3.WireStops'. -/
def wireStopsUptoCard : Claim7 := { stood := { row := wireStopsUptoRow, standIns := [], harness := (true, "c570e8f5d59fe3c0b803da0159daa2ad283db3f09f31b119cc7a60b10c2f7d6f"), looks := true }, kinds := [], alts := [], laidByText := true, laidKinds := [.data, .data, .data], laidTests := true, laidLooks := .later }
def WireStopsUptoCardSaid : Prop := Claim7.holds Tryd.pinned (.plain (OpenSpec.upto wireStopsSpec)) wireStopsUptoCard
end Rows
end Go.Proofs.YtchfoipkaookmaaDoor
