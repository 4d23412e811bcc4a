/-
  DERIVED. GIVEN WITH THE SEED: THE CARDS: each row of YtngnifemghahkaaDoorRows.lean that lists a variable, with what it lists TIED to the program's text (the seventh form; the later family's looks); each row that meets fmt, with fmt's text TOLD by the authors' own Lean function (tested against real Go, not proved from fmt's source: count such statements apart). THE CARD IS WHAT COUNTS. Prove the row's statement (the work); the ties are given (YtngnifemghahkaaDoorTie.lean); close each card by the builder's one call (the guide's Derived/Test/ToyasCard.lean, 'card_holds'). Laid BY PROGRAM, IN A SANDBOX (cutbox-door.mjs). By AI agents, Wed Nov 11 2026. No macro, syntax, notation, axiom, sorry.
-/
import Derived.Test.YtngnifemghahkaaDoorRows
import GoSem.ClaimSeven
namespace Go.Proofs.YtngnifemghahkaaDoor
namespace Rows

/-- THE TIED CARD OF 'tidemarklaw5.MsgValid'. -/
def msgValidCard : Claim7 := { stood := { row := msgValidRow, standIns := [], harness := (true, "998f5c5f8edc268dd179bf2b3990578cb937e3c7cae7c2ef83f66acd96b5052b"), looks := true }, kinds := [], alts := [], laidByText := true, laidKinds := [.data, .data], laidTests := true, laidLooks := .later }
def MsgValidCardSaid : Prop := Claim7.holds Tryd.pinned (.plain (OpenSpec.ofChange msgValidSpec)) msgValidCard

/-- THE TIED CARD OF 'tidemarklaw9.MvccAbove'. -/
def mvccAboveCard : Claim7 := { stood := { row := mvccAboveRow, standIns := [], harness := (true, "998f5c5f8edc268dd179bf2b3990578cb937e3c7cae7c2ef83f66acd96b5052b"), looks := true }, kinds := [], alts := [], laidByText := true, laidKinds := [.data, .data, .data], laidTests := true, laidLooks := .later }
def MvccAboveCardSaid : Prop := Claim7.holds Tryd.pinned (.plain (OpenSpec.ofChange mvccAboveSpec)) mvccAboveCard

/-- THE TIED CARD OF 'tidemarklaw9.MvccStable'. -/
def mvccStableCard : Claim7 := { stood := { row := mvccStableRow, standIns := [], harness := (true, "998f5c5f8edc268dd179bf2b3990578cb937e3c7cae7c2ef83f66acd96b5052b"), looks := true }, kinds := [], alts := [], laidByText := true, laidKinds := [.data, .data, .data], laidTests := true, laidLooks := .later }
def MvccStableCardSaid : Prop := Claim7.holds Tryd.pinned (.plain (OpenSpec.ofChange mvccStableSpec)) mvccStableCard

/-- THE TIED CARD OF 'tidemarklaw9.MvccMap'. -/
def mvccMapCard : Claim7 := { stood := { row := mvccMapRow, standIns := [], harness := (true, "998f5c5f8edc268dd179bf2b3990578cb937e3c7cae7c2ef83f66acd96b5052b"), looks := true }, kinds := [], alts := [], laidByText := true, laidKinds := [.data, .data, .data], laidTests := true, laidLooks := .later }
def MvccMapCardSaid : Prop := Claim7.holds Tryd.pinned (.plain (OpenSpec.ofChange mvccMapSpec)) mvccMapCard

/-- THE TIED CARD OF 'tidemarklaw9.MvccDump'. -/
def mvccDumpCard : Claim7 := { stood := { row := mvccDumpRow, standIns := [], harness := (true, "998f5c5f8edc268dd179bf2b3990578cb937e3c7cae7c2ef83f66acd96b5052b"), looks := true }, kinds := [], alts := [], laidByText := true, laidKinds := [.data, .data, .data], laidTests := true, laidLooks := .later }
def MvccDumpCardSaid : Prop := Claim7.holds Tryd.pinned (.plain (OpenSpec.ofChange mvccDumpSpec)) mvccDumpCard

/-- THE SECOND FORM's CARD OF 'tidemarklaw5.MsgValid'. -/
def msgValidUptoCard : Claim7 := { stood := { row := msgValidUptoRow, standIns := [], harness := (true, "998f5c5f8edc268dd179bf2b3990578cb937e3c7cae7c2ef83f66acd96b5052b"), looks := true }, kinds := [], alts := [], laidByText := true, laidKinds := [.data, .data], laidTests := true, laidLooks := .later }
def MsgValidUptoCardSaid : Prop := Claim7.holds Tryd.pinned (.plain (OpenSpec.upto msgValidSpec)) msgValidUptoCard

/-- THE SECOND FORM's CARD OF 'tidemarklaw9.MvccAbove'. -/
def mvccAboveUptoCard : Claim7 := { stood := { row := mvccAboveUptoRow, standIns := [], harness := (true, "998f5c5f8edc268dd179bf2b3990578cb937e3c7cae7c2ef83f66acd96b5052b"), looks := true }, kinds := [], alts := [], laidByText := true, laidKinds := [.data, .data, .data], laidTests := true, laidLooks := .later }
def MvccAboveUptoCardSaid : Prop := Claim7.holds Tryd.pinned (.plain (OpenSpec.upto mvccAboveSpec)) mvccAboveUptoCard

/-- THE SECOND FORM's CARD OF 'tidemarklaw9.MvccStable'. -/
def mvccStableUptoCard : Claim7 := { stood := { row := mvccStableUptoRow, standIns := [], harness := (true, "998f5c5f8edc268dd179bf2b3990578cb937e3c7cae7c2ef83f66acd96b5052b"), looks := true }, kinds := [], alts := [], laidByText := true, laidKinds := [.data, .data, .data], laidTests := true, laidLooks := .later }
def MvccStableUptoCardSaid : Prop := Claim7.holds Tryd.pinned (.plain (OpenSpec.upto mvccStableSpec)) mvccStableUptoCard

/-- THE SECOND FORM's CARD OF 'tidemarklaw9.MvccMap'. -/
def mvccMapUptoCard : Claim7 := { stood := { row := mvccMapUptoRow, standIns := [], harness := (true, "998f5c5f8edc268dd179bf2b3990578cb937e3c7cae7c2ef83f66acd96b5052b"), looks := true }, kinds := [], alts := [], laidByText := true, laidKinds := [.data, .data, .data], laidTests := true, laidLooks := .later }
def MvccMapUptoCardSaid : Prop := Claim7.holds Tryd.pinned (.plain (OpenSpec.upto mvccMapSpec)) mvccMapUptoCard

/-- THE SECOND FORM's CARD OF 'tidemarklaw9.MvccDump'. -/
def mvccDumpUptoCard : Claim7 := { stood := { row := mvccDumpUptoRow, standIns := [], harness := (true, "998f5c5f8edc268dd179bf2b3990578cb937e3c7cae7c2ef83f66acd96b5052b"), looks := true }, kinds := [], alts := [], laidByText := true, laidKinds := [.data, .data, .data], laidTests := true, laidLooks := .later }
def MvccDumpUptoCardSaid : Prop := Claim7.holds Tryd.pinned (.plain (OpenSpec.upto mvccDumpSpec)) mvccDumpUptoCard
end Rows
end Go.Proofs.YtngnifemghahkaaDoor
