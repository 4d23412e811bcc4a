/-
  DERIVED. GIVEN WITH THE SEED: THE CARDS: each row of YtggmhodogfngdaaDoorRows.lean that lists a variable, with what it lists TIED to the program's text (the seventh form; the later family's looks); each row that meets fmt, with fmt's text TOLD by the authors' own Lean function (tested against real Go, not proved from fmt's source: count such statements apart). THE CARD IS WHAT COUNTS. Prove the row's statement (the work); the ties are given (YtggmhodogfngdaaDoorTie.lean); close each card by the builder's one call (the guide's Derived/Test/ToyasCard.lean, 'card_holds'). Laid BY PROGRAM, IN A SANDBOX (cutbox-door.mjs). By AI agents, Wed Nov 11 2026. No macro, syntax, notation, axiom, sorry.
-/
import Derived.Test.YtggmhodogfngdaaDoorRows
import GoSem.ClaimSeven
namespace Go.Proofs.YtggmhodogfngdaaDoor
namespace Rows

/-- THE TIED CARD OF 'tidemarklaw21.GateReplies'. -/
def gateRepliesCard : Claim7 := { stood := { row := gateRepliesRow, standIns := [], harness := (true, "1820ffaa0b80a393ef4790c4c0bf61baea63c7a6f495fa92cbb82d12be5be46e"), looks := true }, kinds := [], alts := [], laidByText := true, laidKinds := [.data, .data, .data, .data], laidTests := true, laidLooks := .later }
def GateRepliesCardSaid : Prop := Claim7.holds Tryd.pinned (.plain (OpenSpec.ofChange gateRepliesSpec)) gateRepliesCard

/-- THE TIED CARD OF 'tidemarklaw21.GateRequests'. -/
def gateRequestsCard : Claim7 := { stood := { row := gateRequestsRow, standIns := [], harness := (true, "1820ffaa0b80a393ef4790c4c0bf61baea63c7a6f495fa92cbb82d12be5be46e"), looks := true }, kinds := [], alts := [], laidByText := true, laidKinds := [.data, .data, .data, .data, .sentinel, .sentinel, .pinned], laidTests := true, laidLooks := .later }
def GateRequestsCardSaid : Prop := Claim7.holds Tryd.pinned (.plain (OpenSpec.ofChange gateRequestsSpec)) gateRequestsCard

/-- THE TIED CARD OF 'tidemarklaw21.GateParses'. -/
def gateParsesCard : Claim7 := { stood := { row := gateParsesRow, standIns := [], harness := (true, "1820ffaa0b80a393ef4790c4c0bf61baea63c7a6f495fa92cbb82d12be5be46e"), looks := true }, kinds := [], alts := [], laidByText := true, laidKinds := [.data, .data, .data, .data, .sentinel, .sentinel, .pinned], laidTests := true, laidLooks := .later }
def GateParsesCardSaid : Prop := Claim7.holds Tryd.pinned (.plain (OpenSpec.ofChange gateParsesSpec)) gateParsesCard

/-- THE SECOND FORM's CARD OF 'tidemarklaw21.GateReplies'. -/
def gateRepliesUptoCard : Claim7 := { stood := { row := gateRepliesUptoRow, standIns := [], harness := (true, "1820ffaa0b80a393ef4790c4c0bf61baea63c7a6f495fa92cbb82d12be5be46e"), looks := true }, kinds := [], alts := [], laidByText := true, laidKinds := [.data, .data, .data, .data], laidTests := true, laidLooks := .later }
def GateRepliesUptoCardSaid : Prop := Claim7.holds Tryd.pinned (.plain (OpenSpec.upto gateRepliesSpec)) gateRepliesUptoCard

/-- THE SECOND FORM's CARD OF 'tidemarklaw21.GateRequests'. -/
def gateRequestsUptoCard : Claim7 := { stood := { row := gateRequestsUptoRow, standIns := [], harness := (true, "1820ffaa0b80a393ef4790c4c0bf61baea63c7a6f495fa92cbb82d12be5be46e"), looks := true }, kinds := [], alts := [], laidByText := true, laidKinds := [.data, .data, .data, .data, .sentinel, .sentinel, .pinned], laidTests := true, laidLooks := .later }
def GateRequestsUptoCardSaid : Prop := Claim7.holds Tryd.pinned (.plain (OpenSpec.upto gateRequestsSpec)) gateRequestsUptoCard

/-- THE SECOND FORM's CARD OF 'tidemarklaw21.GateParses'. -/
def gateParsesUptoCard : Claim7 := { stood := { row := gateParsesUptoRow, standIns := [], harness := (true, "1820ffaa0b80a393ef4790c4c0bf61baea63c7a6f495fa92cbb82d12be5be46e"), looks := true }, kinds := [], alts := [], laidByText := true, laidKinds := [.data, .data, .data, .data, .sentinel, .sentinel, .pinned], laidTests := true, laidLooks := .later }
def GateParsesUptoCardSaid : Prop := Claim7.holds Tryd.pinned (.plain (OpenSpec.upto gateParsesSpec)) gateParsesUptoCard
end Rows
end Go.Proofs.YtggmhodogfngdaaDoor
