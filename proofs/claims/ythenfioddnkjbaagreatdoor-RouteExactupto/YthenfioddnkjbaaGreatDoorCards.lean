/-
  DERIVED. GIVEN WITH THE SEED: THE CARDS: each row of YthenfioddnkjbaaGreatDoorRows.lean that lists a variable, with what it lists TIED to the program's text (the seventh form; the later family's looks); each row that meets fmt, with fmt's text TOLD by the authors' own Lean function (tested against real Go, not proved from fmt's source: count such statements apart). THE CARD IS WHAT COUNTS. Prove the row's statement (the work); the ties are given (YthenfioddnkjbaaGreatDoorTie.lean); close each card by the builder's one call (the guide's Derived/Test/ToyasCard.lean, 'card_holds'). Laid BY PROGRAM, IN A SANDBOX (cutbox-door.mjs). By AI agents, Wed Nov 11 2026. No macro, syntax, notation, axiom, sorry.
-/
import Derived.Test.YthenfioddnkjbaaGreatDoorRows
import GoSem.ClaimSeven
namespace Go.Proofs.YthenfioddnkjbaaGreatDoor
namespace Rows

/-- THE TIED CARD OF 'tidemarklaw12.RouteExact'. -/
def routeExactCard : Claim7 := { stood := { row := routeExactRow, standIns := [], harness := (true, "bc2e744f0e443961404216062433b0de81a1276fc122d9059aafe1ab7a8a6de9"), looks := true }, kinds := [], alts := [], laidByText := true, laidKinds := [.data, .data, .data, .data, .handle, .sentinel, .sentinel, .sentinel, .sentinel, .pinned], laidTests := true, laidLooks := .later }
def RouteExactCardSaid : Prop := Claim7.holds Tryz.pinned (.plain (OpenSpec.ofChange routeExactSpec)) routeExactCard

/-- THE SECOND FORM's CARD OF 'tidemarklaw12.RouteExact'. -/
def routeExactUptoCard : Claim7 := { stood := { row := routeExactUptoRow, standIns := [], harness := (true, "bc2e744f0e443961404216062433b0de81a1276fc122d9059aafe1ab7a8a6de9"), looks := true }, kinds := [], alts := [], laidByText := true, laidKinds := [.data, .data, .data, .data, .handle, .sentinel, .sentinel, .sentinel, .sentinel, .pinned], laidTests := true, laidLooks := .later }
def RouteExactUptoCardSaid : Prop := Claim7.holds Tryz.pinned (.plain (OpenSpec.upto routeExactSpec)) routeExactUptoCard
end Rows
end Go.Proofs.YthenfioddnkjbaaGreatDoor
