/-
  DERIVED. GIVEN WITH THE SEED: THE CARDS: each row of YtkdklphpcbhfkaaDoorRows.lean that lists a variable, with what it lists TIED to the program's text (the seventh form; the later family's looks); each row that meets fmt, with fmt's text TOLD by the authors' own Lean function (tested against real Go, not proved from fmt's source: count such statements apart). THE CARD IS WHAT COUNTS. Prove the row's statement (the work); the ties are given (YtkdklphpcbhfkaaDoorTie.lean); close each card by the builder's one call (the guide's Derived/Test/ToyasCard.lean, 'card_holds'). Laid BY PROGRAM, IN A SANDBOX (cutbox-door.mjs). By AI agents, Wed Nov 11 2026. No macro, syntax, notation, axiom, sorry.
-/
import Derived.Test.YtkdklphpcbhfkaaDoorRows
import GoSem.ClaimSeven
namespace Go.Proofs.YtkdklphpcbhfkaaDoor
namespace Rows

/-- THE TIED CARD OF 'tidemarklaw16.SessionNews'. -/
def sessionNewsCard : Claim7 := { stood := { row := sessionNewsRow, standIns := [], harness := (true, "5fb1d5948aad1e1f6fae03cb7ba9e03829f732af1d2747e507580abe7c4a84dc"), looks := false }, kinds := [], alts := [], laidByText := true, laidKinds := [.data, .data, .data], laidTests := true, laidLooks := .later }
def SessionNewsCardSaid : Prop := Claim7.holds Tryd.pinned (.plain (OpenSpec.ofChange sessionNewsSpec)) sessionNewsCard

/-- THE SECOND FORM's CARD OF 'tidemarklaw16.SessionNews'. -/
def sessionNewsUptoCard : Claim7 := { stood := { row := sessionNewsUptoRow, standIns := [], harness := (true, "5fb1d5948aad1e1f6fae03cb7ba9e03829f732af1d2747e507580abe7c4a84dc"), looks := false }, kinds := [], alts := [], laidByText := true, laidKinds := [.data, .data, .data], laidTests := true, laidLooks := .later }
def SessionNewsUptoCardSaid : Prop := Claim7.holds Tryd.pinned (.plain (OpenSpec.upto sessionNewsSpec)) sessionNewsUptoCard
end Rows
end Go.Proofs.YtkdklphpcbhfkaaDoor
