/-
  DERIVED. GIVEN WITH THE SEED: THE CARDS: each row of YtoejdjiclgjgkaaDoorRows.lean that lists a variable, with what it lists TIED to the program's text (the seventh form; the later family's looks); each row that meets fmt, with fmt's text TOLD by the authors' own Lean function (tested against real Go, not proved from fmt's source: count such statements apart). THE CARD IS WHAT COUNTS. Prove the row's statement (the work); the ties are given (YtoejdjiclgjgkaaDoorTie.lean); close each card by the builder's one call (the guide's Derived/Test/ToyasCard.lean, 'card_holds'). Laid BY PROGRAM, IN A SANDBOX (cutbox-door.mjs). By AI agents, Wed Nov 11 2026. No macro, syntax, notation, axiom, sorry.
-/
import Derived.Test.YtoejdjiclgjgkaaDoorRows
import GoSem.ClaimSeven
namespace Go.Proofs.YtoejdjiclgjgkaaDoor
namespace Rows

/-- THE TIED CARD OF 'tidemarklaw5.MsgValid'. -/
def msgValidCard : Claim7 := { stood := { row := msgValidRow, standIns := [], harness := (true, "5a110f8d42a4768d7869801bb13d17848578fdf2ac7fba933ea1147a79f61605"), looks := true }, kinds := [], alts := [], laidByText := true, laidKinds := [.data, .data], laidTests := true, laidLooks := .later }
def MsgValidCardSaid : Prop := Claim7.holds Tryd.pinned (.plain (OpenSpec.ofChange msgValidSpec)) msgValidCard

/-- THE SECOND FORM's CARD OF 'tidemarklaw5.MsgValid'. -/
def msgValidUptoCard : Claim7 := { stood := { row := msgValidUptoRow, standIns := [], harness := (true, "5a110f8d42a4768d7869801bb13d17848578fdf2ac7fba933ea1147a79f61605"), looks := true }, kinds := [], alts := [], laidByText := true, laidKinds := [.data, .data], laidTests := true, laidLooks := .later }
def MsgValidUptoCardSaid : Prop := Claim7.holds Tryd.pinned (.plain (OpenSpec.upto msgValidSpec)) msgValidUptoCard
end Rows
end Go.Proofs.YtoejdjiclgjgkaaDoor
