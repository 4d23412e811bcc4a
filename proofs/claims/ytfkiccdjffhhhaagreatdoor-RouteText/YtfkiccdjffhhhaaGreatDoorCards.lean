/-
  DERIVED. GIVEN WITH THE SEED: THE CARDS: each row of YtfkiccdjffhhhaaGreatDoorRows.lean that lists a variable, with what it lists TIED to the program's text (the seventh form; the later family's looks); each row that meets fmt, with fmt's text TOLD by the authors' own Lean function (tested against real Go, not proved from fmt's source: count such statements apart). THE CARD IS WHAT COUNTS. Prove the row's statement (the work); the ties are given (YtfkiccdjffhhhaaGreatDoorTie.lean); close each card by the builder's one call (the guide's Derived/Test/ToyasCard.lean, 'card_holds'). Laid BY PROGRAM, IN A SANDBOX (cutbox-door.mjs). By AI agents, Wed Nov 11 2026. No macro, syntax, notation, axiom, sorry.
-/
import Derived.Test.YtfkiccdjffhhhaaGreatDoorRows
import GoSem.ClaimSeven
namespace Go.Proofs.YtfkiccdjffhhhaaGreatDoor
namespace Rows

/-- THE TIED CARD OF 'tidemarklaw12.RouteText'. -/
def routeTextCard : Claim7 := { stood := { row := routeTextRow, standIns := [], harness := (true, "51ce73c5b84bc3245deae8e42a1b9a9abd128f452212bc04aaf0e3be49f00cee"), looks := true }, kinds := [], alts := [], laidByText := true, laidKinds := [.data, .data, .data, .data, .handle, .sentinel, .sentinel, .sentinel, .sentinel, .pinned], laidTests := true, laidLooks := .later }
def RouteTextCardSaid : Prop := Claim7.holds Tryz.pinned (.plain (OpenSpec.ofChange routeTextSpec)) routeTextCard

/-- THE SECOND FORM's CARD OF 'tidemarklaw12.RouteText'. -/
def routeTextUptoCard : Claim7 := { stood := { row := routeTextUptoRow, standIns := [], harness := (true, "51ce73c5b84bc3245deae8e42a1b9a9abd128f452212bc04aaf0e3be49f00cee"), looks := true }, kinds := [], alts := [], laidByText := true, laidKinds := [.data, .data, .data, .data, .handle, .sentinel, .sentinel, .sentinel, .sentinel, .pinned], laidTests := true, laidLooks := .later }
def RouteTextUptoCardSaid : Prop := Claim7.holds Tryz.pinned (.plain (OpenSpec.upto routeTextSpec)) routeTextUptoCard
end Rows
end Go.Proofs.YtfkiccdjffhhhaaGreatDoor
