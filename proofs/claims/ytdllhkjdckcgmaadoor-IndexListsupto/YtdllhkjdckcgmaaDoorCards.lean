/-
  DERIVED. GIVEN WITH THE SEED: THE CARDS: each row of YtdllhkjdckcgmaaDoorRows.lean that lists a variable, with what it lists TIED to the program's text (the seventh form; the later family's looks); each row that meets fmt, with fmt's text TOLD by the authors' own Lean function (tested against real Go, not proved from fmt's source: count such statements apart). THE CARD IS WHAT COUNTS. Prove the row's statement (the work); the ties are given (YtdllhkjdckcgmaaDoorTie.lean); close each card by the builder's one call (the guide's Derived/Test/ToyasCard.lean, 'card_holds'). Laid BY PROGRAM, IN A SANDBOX (cutbox-door.mjs). By AI agents, Wed Nov 11 2026. No macro, syntax, notation, axiom, sorry.
-/
import Derived.Test.YtdllhkjdckcgmaaDoorRows
import GoSem.ClaimSeven
namespace Go.Proofs.YtdllhkjdckcgmaaDoor
namespace Rows

/-- THE TIED CARD OF 'tidemarklaw8.IndexLists'. -/
def indexListsCard : Claim7 := { stood := { row := indexListsRow, standIns := [], harness := (true, "a4f2b39cf612c0737f6d206b8e70a1e811aa3c79ff4b1da9efd8e5442ea9b0bd"), looks := false }, kinds := [], alts := [], laidByText := true, laidKinds := [.data, .data, .data], laidTests := true, laidLooks := .later }
def IndexListsCardSaid : Prop := Claim7.holds Tryd.pinned (.plain (OpenSpec.ofChange indexListsSpec)) indexListsCard

/-- THE SECOND FORM's CARD OF 'tidemarklaw8.IndexLists'. -/
def indexListsUptoCard : Claim7 := { stood := { row := indexListsUptoRow, standIns := [], harness := (true, "a4f2b39cf612c0737f6d206b8e70a1e811aa3c79ff4b1da9efd8e5442ea9b0bd"), looks := false }, kinds := [], alts := [], laidByText := true, laidKinds := [.data, .data, .data], laidTests := true, laidLooks := .later }
def IndexListsUptoCardSaid : Prop := Claim7.holds Tryd.pinned (.plain (OpenSpec.upto indexListsSpec)) indexListsUptoCard
end Rows
end Go.Proofs.YtdllhkjdckcgmaaDoor
