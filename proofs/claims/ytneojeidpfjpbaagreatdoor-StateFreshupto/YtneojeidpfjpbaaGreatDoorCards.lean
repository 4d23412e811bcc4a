/-
  DERIVED. GIVEN WITH THE SEED: THE CARDS: each row of YtneojeidpfjpbaaGreatDoorRows.lean that lists a variable, with what it lists TIED to the program's text (the seventh form; the later family's looks); each row that meets fmt, with fmt's text TOLD by the authors' own Lean function (tested against real Go, not proved from fmt's source: count such statements apart). THE CARD IS WHAT COUNTS. Prove the row's statement (the work); the ties are given (YtneojeidpfjpbaaGreatDoorTie.lean); close each card by the builder's one call (the guide's Derived/Test/ToyasCard.lean, 'card_holds'). Laid BY PROGRAM, IN A SANDBOX (cutbox-door.mjs). By AI agents, Wed Nov 11 2026. No macro, syntax, notation, axiom, sorry.
-/
import Derived.Test.YtneojeidpfjpbaaGreatDoorRows
import GoSem.ClaimSeven
namespace Go.Proofs.YtneojeidpfjpbaaGreatDoor
namespace Rows

/-- THE TIED CARD OF 'tidemarklaw13.StateFresh'. -/
def stateFreshCard : Claim7 := { stood := { row := stateFreshRow, standIns := [], harness := (true, "57675429e24fb23e5e2bb403a382e711489709d808e851b5c4aa1fc77150aa3b"), looks := true }, kinds := [], alts := [], laidByText := true, laidKinds := [.data, .data, .data], laidTests := true, laidLooks := .later }
def StateFreshCardSaid : Prop := Claim7.holds Tryz.pinned (.plain (OpenSpec.ofChange stateFreshSpec)) stateFreshCard

/-- THE SECOND FORM's CARD OF 'tidemarklaw13.StateFresh'. -/
def stateFreshUptoCard : Claim7 := { stood := { row := stateFreshUptoRow, standIns := [], harness := (true, "57675429e24fb23e5e2bb403a382e711489709d808e851b5c4aa1fc77150aa3b"), looks := true }, kinds := [], alts := [], laidByText := true, laidKinds := [.data, .data, .data], laidTests := true, laidLooks := .later }
def StateFreshUptoCardSaid : Prop := Claim7.holds Tryz.pinned (.plain (OpenSpec.upto stateFreshSpec)) stateFreshUptoCard
end Rows
end Go.Proofs.YtneojeidpfjpbaaGreatDoor
