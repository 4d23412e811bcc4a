/-
  DERIVED. GIVEN WITH THE SEED: THE CARDS: each row of YtchfoipkaookmabDoorRows.lean that lists a variable, with what it lists TIED to the program's text (the seventh form; the later family's looks); each row that meets fmt, with fmt's text TOLD by the authors' own Lean function (tested against real Go, not proved from fmt's source: count such statements apart). THE CARD IS WHAT COUNTS. Prove the row's statement (the work); the ties are given (YtchfoipkaookmabDoorTie.lean); close each card by the builder's one call (the guide's Derived/Test/ToyasCard.lean, 'card_holds'). Laid BY PROGRAM, IN A SANDBOX (cutbox-door.mjs). By AI agents, Wed Nov 11 2026. No macro, syntax, notation, axiom, sorry.
-/
import Derived.Test.YtchfoipkaookmabDoorRows
import GoSem.ClaimSeven
namespace Go.Proofs.YtchfoipkaookmabDoor
namespace Rows

/-- THE TIED CARD OF 'tidemarklaw3.WireCanon'. -/
def wireCanonCard : Claim7 := { stood := { row := wireCanonRow, standIns := [], harness := (true, "1af39d89967fab9c8b22e276cca5188a626904b1d710645e50fdff2c3068278b"), looks := true }, kinds := [], alts := [], laidByText := true, laidKinds := [.data, .data, .data], laidTests := true, laidLooks := .later }
def WireCanonCardSaid : Prop := Claim7.holds Tryd.pinned (.plain (OpenSpec.ofChange wireCanonSpec)) wireCanonCard

/-- THE TIED CARD OF 'tidemarklaw3.WireRound'. -/
def wireRoundCard : Claim7 := { stood := { row := wireRoundRow, standIns := [], harness := (true, "1af39d89967fab9c8b22e276cca5188a626904b1d710645e50fdff2c3068278b"), looks := true }, kinds := [], alts := [], laidByText := true, laidKinds := [.data, .data, .data], laidTests := true, laidLooks := .later }
def WireRoundCardSaid : Prop := Claim7.holds Tryd.pinned (.plain (OpenSpec.ofChange wireRoundSpec)) wireRoundCard

/-- THE SECOND FORM's CARD OF 'tidemarklaw3.WireCanon'. -/
def wireCanonUptoCard : Claim7 := { stood := { row := wireCanonUptoRow, standIns := [], harness := (true, "1af39d89967fab9c8b22e276cca5188a626904b1d710645e50fdff2c3068278b"), looks := true }, kinds := [], alts := [], laidByText := true, laidKinds := [.data, .data, .data], laidTests := true, laidLooks := .later }
def WireCanonUptoCardSaid : Prop := Claim7.holds Tryd.pinned (.plain (OpenSpec.upto wireCanonSpec)) wireCanonUptoCard

/-- THE SECOND FORM's CARD OF 'tidemarklaw3.WireRound'. -/
def wireRoundUptoCard : Claim7 := { stood := { row := wireRoundUptoRow, standIns := [], harness := (true, "1af39d89967fab9c8b22e276cca5188a626904b1d710645e50fdff2c3068278b"), looks := true }, kinds := [], alts := [], laidByText := true, laidKinds := [.data, .data, .data], laidTests := true, laidLooks := .later }
def WireRoundUptoCardSaid : Prop := Claim7.holds Tryd.pinned (.plain (OpenSpec.upto wireRoundSpec)) wireRoundUptoCard
end Rows
end Go.Proofs.YtchfoipkaookmabDoor
