/-
  DERIVED. GIVEN WITH THE SEED: THE CARDS: each row of YtaknkodjganacaaDoorRows.lean that lists a variable, with what it lists TIED to the program's text (the seventh form; the later family's looks); each row that meets fmt, with fmt's text TOLD by the authors' own Lean function (tested against real Go, not proved from fmt's source: count such statements apart). THE CARD IS WHAT COUNTS. Prove the row's statement (the work); the ties are given (YtaknkodjganacaaDoorTie.lean); close each card by the builder's one call (the guide's Derived/Test/ToyasCard.lean, 'card_holds'). Laid BY PROGRAM, IN A SANDBOX (cutbox-door.mjs). By AI agents, Wed Nov 11 2026. No macro, syntax, notation, axiom, sorry.
-/
import Derived.Test.YtaknkodjganacaaDoorRows
import GoSem.ClaimSeven
namespace Go.Proofs.YtaknkodjganacaaDoor
namespace Rows

/-- THE TIED CARD OF 'tidemarklaw9.MvccAbove'. -/
def mvccAboveCard : Claim7 := { stood := { row := mvccAboveRow, standIns := [], harness := (true, "cabc708c2e1ed1a8ee045f90d809eef4d25019403eb33cc1d8bd6b45d1ff496f"), looks := false }, kinds := [], alts := [], laidByText := true, laidKinds := [.data, .data, .data], laidTests := true, laidLooks := .later }
def MvccAboveCardSaid : Prop := Claim7.holds Tryd.pinned (.plain (OpenSpec.ofChange mvccAboveSpec)) mvccAboveCard

/-- THE TIED CARD OF 'tidemarklaw9.MvccStable'. -/
def mvccStableCard : Claim7 := { stood := { row := mvccStableRow, standIns := [], harness := (true, "cabc708c2e1ed1a8ee045f90d809eef4d25019403eb33cc1d8bd6b45d1ff496f"), looks := false }, kinds := [], alts := [], laidByText := true, laidKinds := [.data, .data, .data], laidTests := true, laidLooks := .later }
def MvccStableCardSaid : Prop := Claim7.holds Tryd.pinned (.plain (OpenSpec.ofChange mvccStableSpec)) mvccStableCard

/-- THE TIED CARD OF 'tidemarklaw9.MvccMap'. -/
def mvccMapCard : Claim7 := { stood := { row := mvccMapRow, standIns := [], harness := (true, "cabc708c2e1ed1a8ee045f90d809eef4d25019403eb33cc1d8bd6b45d1ff496f"), looks := false }, kinds := [], alts := [], laidByText := true, laidKinds := [.data, .data, .data], laidTests := true, laidLooks := .later }
def MvccMapCardSaid : Prop := Claim7.holds Tryd.pinned (.plain (OpenSpec.ofChange mvccMapSpec)) mvccMapCard

/-- THE TIED CARD OF 'tidemarklaw9.MvccDump'. -/
def mvccDumpCard : Claim7 := { stood := { row := mvccDumpRow, standIns := [], harness := (true, "cabc708c2e1ed1a8ee045f90d809eef4d25019403eb33cc1d8bd6b45d1ff496f"), looks := false }, kinds := [], alts := [], laidByText := true, laidKinds := [.data, .data, .data], laidTests := true, laidLooks := .later }
def MvccDumpCardSaid : Prop := Claim7.holds Tryd.pinned (.plain (OpenSpec.ofChange mvccDumpSpec)) mvccDumpCard

/-- THE TIED CARD OF 'tidemarklaw9.MvccPrune'. -/
def mvccPruneCard : Claim7 := { stood := { row := mvccPruneRow, standIns := [], harness := (true, "cabc708c2e1ed1a8ee045f90d809eef4d25019403eb33cc1d8bd6b45d1ff496f"), looks := false }, kinds := [], alts := [], laidByText := true, laidKinds := [.data, .data, .data], laidTests := true, laidLooks := .later }
def MvccPruneCardSaid : Prop := Claim7.holds Tryd.pinned (.plain (OpenSpec.ofChange mvccPruneSpec)) mvccPruneCard

/-- THE SECOND FORM's CARD OF 'tidemarklaw9.MvccAbove'. -/
def mvccAboveUptoCard : Claim7 := { stood := { row := mvccAboveUptoRow, standIns := [], harness := (true, "cabc708c2e1ed1a8ee045f90d809eef4d25019403eb33cc1d8bd6b45d1ff496f"), looks := false }, kinds := [], alts := [], laidByText := true, laidKinds := [.data, .data, .data], laidTests := true, laidLooks := .later }
def MvccAboveUptoCardSaid : Prop := Claim7.holds Tryd.pinned (.plain (OpenSpec.upto mvccAboveSpec)) mvccAboveUptoCard

/-- THE SECOND FORM's CARD OF 'tidemarklaw9.MvccStable'. -/
def mvccStableUptoCard : Claim7 := { stood := { row := mvccStableUptoRow, standIns := [], harness := (true, "cabc708c2e1ed1a8ee045f90d809eef4d25019403eb33cc1d8bd6b45d1ff496f"), looks := false }, kinds := [], alts := [], laidByText := true, laidKinds := [.data, .data, .data], laidTests := true, laidLooks := .later }
def MvccStableUptoCardSaid : Prop := Claim7.holds Tryd.pinned (.plain (OpenSpec.upto mvccStableSpec)) mvccStableUptoCard

/-- THE SECOND FORM's CARD OF 'tidemarklaw9.MvccMap'. -/
def mvccMapUptoCard : Claim7 := { stood := { row := mvccMapUptoRow, standIns := [], harness := (true, "cabc708c2e1ed1a8ee045f90d809eef4d25019403eb33cc1d8bd6b45d1ff496f"), looks := false }, kinds := [], alts := [], laidByText := true, laidKinds := [.data, .data, .data], laidTests := true, laidLooks := .later }
def MvccMapUptoCardSaid : Prop := Claim7.holds Tryd.pinned (.plain (OpenSpec.upto mvccMapSpec)) mvccMapUptoCard

/-- THE SECOND FORM's CARD OF 'tidemarklaw9.MvccDump'. -/
def mvccDumpUptoCard : Claim7 := { stood := { row := mvccDumpUptoRow, standIns := [], harness := (true, "cabc708c2e1ed1a8ee045f90d809eef4d25019403eb33cc1d8bd6b45d1ff496f"), looks := false }, kinds := [], alts := [], laidByText := true, laidKinds := [.data, .data, .data], laidTests := true, laidLooks := .later }
def MvccDumpUptoCardSaid : Prop := Claim7.holds Tryd.pinned (.plain (OpenSpec.upto mvccDumpSpec)) mvccDumpUptoCard

/-- THE SECOND FORM's CARD OF 'tidemarklaw9.MvccPrune'. -/
def mvccPruneUptoCard : Claim7 := { stood := { row := mvccPruneUptoRow, standIns := [], harness := (true, "cabc708c2e1ed1a8ee045f90d809eef4d25019403eb33cc1d8bd6b45d1ff496f"), looks := false }, kinds := [], alts := [], laidByText := true, laidKinds := [.data, .data, .data], laidTests := true, laidLooks := .later }
def MvccPruneUptoCardSaid : Prop := Claim7.holds Tryd.pinned (.plain (OpenSpec.upto mvccPruneSpec)) mvccPruneUptoCard
end Rows
end Go.Proofs.YtaknkodjganacaaDoor
