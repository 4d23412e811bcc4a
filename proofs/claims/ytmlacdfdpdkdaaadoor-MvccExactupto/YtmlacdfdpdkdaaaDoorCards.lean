/-
  DERIVED. GIVEN WITH THE SEED: THE CARDS: each row of YtmlacdfdpdkdaaaDoorRows.lean that lists a variable, with what it lists TIED to the program's text (the seventh form; the later family's looks); each row that meets fmt, with fmt's text TOLD by the authors' own Lean function (tested against real Go, not proved from fmt's source: count such statements apart). THE CARD IS WHAT COUNTS. Prove the row's statement (the work); the ties are given (YtmlacdfdpdkdaaaDoorTie.lean); close each card by the builder's one call (the guide's Derived/Test/ToyasCard.lean, 'card_holds'). Laid BY PROGRAM, IN A SANDBOX (cutbox-door.mjs). By AI agents, Wed Nov 11 2026. No macro, syntax, notation, axiom, sorry.
-/
import Derived.Test.YtmlacdfdpdkdaaaDoorRows
import GoSem.ClaimSeven
namespace Go.Proofs.YtmlacdfdpdkdaaaDoor
namespace Rows

/-- THE TIED CARD OF 'tidemarklaw9.MvccExact'. -/
def mvccExactCard : Claim7 := { stood := { row := mvccExactRow, standIns := [], harness := (true, "35ab99c4e5ef21868aa886edcc4d454eb290e73af23f597c94779e5ea994a794"), looks := false }, kinds := [], alts := [], laidByText := true, laidKinds := [.data, .data, .data], laidTests := true, laidLooks := .later }
def MvccExactCardSaid : Prop := Claim7.holds Tryd.pinned (.plain (OpenSpec.ofChange mvccExactSpec)) mvccExactCard

/-- THE SECOND FORM's CARD OF 'tidemarklaw9.MvccExact'. -/
def mvccExactUptoCard : Claim7 := { stood := { row := mvccExactUptoRow, standIns := [], harness := (true, "35ab99c4e5ef21868aa886edcc4d454eb290e73af23f597c94779e5ea994a794"), looks := false }, kinds := [], alts := [], laidByText := true, laidKinds := [.data, .data, .data], laidTests := true, laidLooks := .later }
def MvccExactUptoCardSaid : Prop := Claim7.holds Tryd.pinned (.plain (OpenSpec.upto mvccExactSpec)) mvccExactUptoCard
end Rows
end Go.Proofs.YtmlacdfdpdkdaaaDoor
