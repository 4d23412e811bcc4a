/-
  DERIVED. GIVEN WITH THE SEED: THE CARDS: each row of YtpnbgdbkiokooaaDoorRows.lean that lists a variable, with what it lists TIED to the program's text (the seventh form; the later family's looks); each row that meets fmt, with fmt's text TOLD by the authors' own Lean function (tested against real Go, not proved from fmt's source: count such statements apart). THE CARD IS WHAT COUNTS. Prove the row's statement (the work); the ties are given (YtpnbgdbkiokooaaDoorTie.lean); close each card by the builder's one call (the guide's Derived/Test/ToyasCard.lean, 'card_holds'). Laid BY PROGRAM, IN A SANDBOX (cutbox-door.mjs). By AI agents, Wed Nov 11 2026. No macro, syntax, notation, axiom, sorry.
-/
import Derived.Test.YtpnbgdbkiokooaaDoorRows
import GoSem.ClaimSeven
namespace Go.Proofs.YtpnbgdbkiokooaaDoor
namespace Rows

/-- THE TIED CARD OF 'tidemarklaw15.FlightOrder'. -/
def flightOrderCard : Claim7 := { stood := { row := flightOrderRow, standIns := [], harness := (true, "bcc2d465ddc24e282d06ed10d6947ce144c2a42251fda732bfb8119e857c6561"), looks := false }, kinds := [], alts := [], laidByText := true, laidKinds := [.data, .data, .data], laidTests := true, laidLooks := .later }
def FlightOrderCardSaid : Prop := Claim7.holds Tryd.pinned (.plain (OpenSpec.ofChange flightOrderSpec)) flightOrderCard

/-- THE TIED CARD OF 'tidemarklaw15.FlightExact'. -/
def flightExactCard : Claim7 := { stood := { row := flightExactRow, standIns := [], harness := (true, "bcc2d465ddc24e282d06ed10d6947ce144c2a42251fda732bfb8119e857c6561"), looks := false }, kinds := [], alts := [], laidByText := true, laidKinds := [.data, .data, .data], laidTests := true, laidLooks := .later }
def FlightExactCardSaid : Prop := Claim7.holds Tryd.pinned (.plain (OpenSpec.ofChange flightExactSpec)) flightExactCard

/-- THE SECOND FORM's CARD OF 'tidemarklaw15.FlightOrder'. -/
def flightOrderUptoCard : Claim7 := { stood := { row := flightOrderUptoRow, standIns := [], harness := (true, "bcc2d465ddc24e282d06ed10d6947ce144c2a42251fda732bfb8119e857c6561"), looks := false }, kinds := [], alts := [], laidByText := true, laidKinds := [.data, .data, .data], laidTests := true, laidLooks := .later }
def FlightOrderUptoCardSaid : Prop := Claim7.holds Tryd.pinned (.plain (OpenSpec.upto flightOrderSpec)) flightOrderUptoCard

/-- THE SECOND FORM's CARD OF 'tidemarklaw15.FlightExact'. -/
def flightExactUptoCard : Claim7 := { stood := { row := flightExactUptoRow, standIns := [], harness := (true, "bcc2d465ddc24e282d06ed10d6947ce144c2a42251fda732bfb8119e857c6561"), looks := false }, kinds := [], alts := [], laidByText := true, laidKinds := [.data, .data, .data], laidTests := true, laidLooks := .later }
def FlightExactUptoCardSaid : Prop := Claim7.holds Tryd.pinned (.plain (OpenSpec.upto flightExactSpec)) flightExactUptoCard
end Rows
end Go.Proofs.YtpnbgdbkiokooaaDoor
