/-
  DERIVED. GIVEN WITH THE SEED: THE CARDS: each row of YtfafkohghgliaaaDoorRows.lean that lists a variable, with what it lists TIED to the program's text (the seventh form; the later family's looks); each row that meets fmt, with fmt's text TOLD by the authors' own Lean function (tested against real Go, not proved from fmt's source: count such statements apart). THE CARD IS WHAT COUNTS. Prove the row's statement (the work); the ties are given (YtfafkohghgliaaaDoorTie.lean); close each card by the builder's one call (the guide's Derived/Test/ToyasCard.lean, 'card_holds'). Laid BY PROGRAM, IN A SANDBOX (cutbox-door.mjs). By AI agents, Wed Nov 11 2026. No macro, syntax, notation, axiom, sorry.
-/
import Derived.Test.YtfafkohghgliaaaDoorRows
import GoSem.ClaimSeven
namespace Go.Proofs.YtfafkohghgliaaaDoor
namespace Rows

/-- THE TIED CARD OF 'tidemarklaw25.TupleJoins'. -/
def tupleJoinsCard : Claim7 := { stood := { row := tupleJoinsRow, standIns := [], harness := (true, "68ec33a73133d4102285f1c2d386389c056dc98b57db18505e43430f3dc93950"), looks := false }, kinds := [], alts := [], laidByText := true, laidKinds := [.data, .pinned], laidTests := true, laidLooks := .later }
def TupleJoinsCardSaid : Prop := Claim7.holds Tryd.pinned (.plain (OpenSpec.ofChange tupleJoinsSpec)) tupleJoinsCard

/-- THE TIED CARD OF 'tidemarklaw25.TupleOnly'. -/
def tupleOnlyCard : Claim7 := { stood := { row := tupleOnlyRow, standIns := [], harness := (true, "68ec33a73133d4102285f1c2d386389c056dc98b57db18505e43430f3dc93950"), looks := false }, kinds := [], alts := [], laidByText := true, laidKinds := [.data, .pinned], laidTests := true, laidLooks := .later }
def TupleOnlyCardSaid : Prop := Claim7.holds Tryd.pinned (.plain (OpenSpec.ofChange tupleOnlySpec)) tupleOnlyCard

/-- THE TIED CARD OF 'tidemarklaw25.TupleRound'. -/
def tupleRoundCard : Claim7 := { stood := { row := tupleRoundRow, standIns := [], harness := (true, "68ec33a73133d4102285f1c2d386389c056dc98b57db18505e43430f3dc93950"), looks := false }, kinds := [], alts := [], laidByText := true, laidKinds := [.data, .pinned], laidTests := true, laidLooks := .later }
def TupleRoundCardSaid : Prop := Claim7.holds Tryd.pinned (.plain (OpenSpec.ofChange tupleRoundSpec)) tupleRoundCard

/-- THE TIED CARD OF 'tidemarklaw25.TupleEncodes'. -/
def tupleEncodesCard : Claim7 := { stood := { row := tupleEncodesRow, standIns := [], harness := (true, "68ec33a73133d4102285f1c2d386389c056dc98b57db18505e43430f3dc93950"), looks := false }, kinds := [], alts := [], laidByText := true, laidKinds := [.data, .pinned], laidTests := true, laidLooks := .later }
def TupleEncodesCardSaid : Prop := Claim7.holds Tryd.pinned (.plain (OpenSpec.ofChange tupleEncodesSpec)) tupleEncodesCard

/-- THE SECOND FORM's CARD OF 'tidemarklaw25.TupleJoins'. -/
def tupleJoinsUptoCard : Claim7 := { stood := { row := tupleJoinsUptoRow, standIns := [], harness := (true, "68ec33a73133d4102285f1c2d386389c056dc98b57db18505e43430f3dc93950"), looks := false }, kinds := [], alts := [], laidByText := true, laidKinds := [.data, .pinned], laidTests := true, laidLooks := .later }
def TupleJoinsUptoCardSaid : Prop := Claim7.holds Tryd.pinned (.plain (OpenSpec.upto tupleJoinsSpec)) tupleJoinsUptoCard

/-- THE SECOND FORM's CARD OF 'tidemarklaw25.TupleOnly'. -/
def tupleOnlyUptoCard : Claim7 := { stood := { row := tupleOnlyUptoRow, standIns := [], harness := (true, "68ec33a73133d4102285f1c2d386389c056dc98b57db18505e43430f3dc93950"), looks := false }, kinds := [], alts := [], laidByText := true, laidKinds := [.data, .pinned], laidTests := true, laidLooks := .later }
def TupleOnlyUptoCardSaid : Prop := Claim7.holds Tryd.pinned (.plain (OpenSpec.upto tupleOnlySpec)) tupleOnlyUptoCard

/-- THE SECOND FORM's CARD OF 'tidemarklaw25.TupleRound'. -/
def tupleRoundUptoCard : Claim7 := { stood := { row := tupleRoundUptoRow, standIns := [], harness := (true, "68ec33a73133d4102285f1c2d386389c056dc98b57db18505e43430f3dc93950"), looks := false }, kinds := [], alts := [], laidByText := true, laidKinds := [.data, .pinned], laidTests := true, laidLooks := .later }
def TupleRoundUptoCardSaid : Prop := Claim7.holds Tryd.pinned (.plain (OpenSpec.upto tupleRoundSpec)) tupleRoundUptoCard

/-- THE SECOND FORM's CARD OF 'tidemarklaw25.TupleEncodes'. -/
def tupleEncodesUptoCard : Claim7 := { stood := { row := tupleEncodesUptoRow, standIns := [], harness := (true, "68ec33a73133d4102285f1c2d386389c056dc98b57db18505e43430f3dc93950"), looks := false }, kinds := [], alts := [], laidByText := true, laidKinds := [.data, .pinned], laidTests := true, laidLooks := .later }
def TupleEncodesUptoCardSaid : Prop := Claim7.holds Tryd.pinned (.plain (OpenSpec.upto tupleEncodesSpec)) tupleEncodesUptoCard
end Rows
end Go.Proofs.YtfafkohghgliaaaDoor
