/-
  DERIVED. GIVEN WITH THE SEED: THE CARDS: each row of YtfafkohghgliaabDoorRows.lean that lists a variable, with what it lists TIED to the program's text (the seventh form; the later family's looks); each row that meets fmt, with fmt's text TOLD by the authors' own Lean function (tested against real Go, not proved from fmt's source: count such statements apart). THE CARD IS WHAT COUNTS. Prove the row's statement (the work); the ties are given (YtfafkohghgliaabDoorTie.lean); close each card by the builder's one call (the guide's Derived/Test/ToyasCard.lean, 'card_holds'). Laid BY PROGRAM, IN A SANDBOX (cutbox-door.mjs). By AI agents, Wed Nov 11 2026. No macro, syntax, notation, axiom, sorry.
-/
import Derived.Test.YtfafkohghgliaabDoorRows
import GoSem.ClaimSeven
namespace Go.Proofs.YtfafkohghgliaabDoor
namespace Rows

/-- THE TIED CARD OF 'tidemarklaw25.TupleOrder'. -/
def tupleOrderCard : Claim7 := { stood := { row := tupleOrderRow, standIns := [], harness := (true, "407487685bdb66eeb9cea407d968648b58b02444c05ec0e27aba48130c798026"), looks := true }, kinds := [], alts := [], laidByText := true, laidKinds := [.data, .pinned], laidTests := true, laidLooks := .later }
def TupleOrderCardSaid : Prop := Claim7.holds Tryd.pinned (.plain (OpenSpec.ofChange tupleOrderSpec)) tupleOrderCard

/-- THE TIED CARD OF 'tidemarklaw25.TupleInside'. -/
def tupleInsideCard : Claim7 := { stood := { row := tupleInsideRow, standIns := [], harness := (true, "407487685bdb66eeb9cea407d968648b58b02444c05ec0e27aba48130c798026"), looks := true }, kinds := [], alts := [], laidByText := true, laidKinds := [.data, .pinned], laidTests := true, laidLooks := .later }
def TupleInsideCardSaid : Prop := Claim7.holds Tryd.pinned (.plain (OpenSpec.ofChange tupleInsideSpec)) tupleInsideCard

/-- THE TIED CARD OF 'tidemarklaw25.TupleSpans'. -/
def tupleSpansCard : Claim7 := { stood := { row := tupleSpansRow, standIns := [], harness := (true, "407487685bdb66eeb9cea407d968648b58b02444c05ec0e27aba48130c798026"), looks := true }, kinds := [], alts := [], laidByText := true, laidKinds := [.data, .pinned], laidTests := true, laidLooks := .later }
def TupleSpansCardSaid : Prop := Claim7.holds Tryd.pinned (.plain (OpenSpec.ofChange tupleSpansSpec)) tupleSpansCard

/-- THE TIED CARD OF 'tidemarklaw25.TupleTexts'. -/
def tupleTextsCard : Claim7 := { stood := { row := tupleTextsRow, standIns := [], harness := (true, "407487685bdb66eeb9cea407d968648b58b02444c05ec0e27aba48130c798026"), looks := true }, kinds := [], alts := [], laidByText := true, laidKinds := [.data, .data, .data, .data, .sentinel, .sentinel, .pinned], laidTests := true, laidLooks := .later }
def TupleTextsCardSaid : Prop := Claim7.holds Tryd.pinned (.plain (OpenSpec.ofChange tupleTextsSpec)) tupleTextsCard

/-- THE TIED CARD OF 'tidemarklaw25.TupleParses'. -/
def tupleParsesCard : Claim7 := { stood := { row := tupleParsesRow, standIns := [], harness := (true, "407487685bdb66eeb9cea407d968648b58b02444c05ec0e27aba48130c798026"), looks := true }, kinds := [], alts := [], laidByText := true, laidKinds := [.data, .data, .data, .data, .sentinel, .sentinel, .pinned], laidTests := true, laidLooks := .later }
def TupleParsesCardSaid : Prop := Claim7.holds Tryd.pinned (.plain (OpenSpec.ofChange tupleParsesSpec)) tupleParsesCard

/-- THE SECOND FORM's CARD OF 'tidemarklaw25.TupleOrder'. -/
def tupleOrderUptoCard : Claim7 := { stood := { row := tupleOrderUptoRow, standIns := [], harness := (true, "407487685bdb66eeb9cea407d968648b58b02444c05ec0e27aba48130c798026"), looks := true }, kinds := [], alts := [], laidByText := true, laidKinds := [.data, .pinned], laidTests := true, laidLooks := .later }
def TupleOrderUptoCardSaid : Prop := Claim7.holds Tryd.pinned (.plain (OpenSpec.upto tupleOrderSpec)) tupleOrderUptoCard

/-- THE SECOND FORM's CARD OF 'tidemarklaw25.TupleInside'. -/
def tupleInsideUptoCard : Claim7 := { stood := { row := tupleInsideUptoRow, standIns := [], harness := (true, "407487685bdb66eeb9cea407d968648b58b02444c05ec0e27aba48130c798026"), looks := true }, kinds := [], alts := [], laidByText := true, laidKinds := [.data, .pinned], laidTests := true, laidLooks := .later }
def TupleInsideUptoCardSaid : Prop := Claim7.holds Tryd.pinned (.plain (OpenSpec.upto tupleInsideSpec)) tupleInsideUptoCard

/-- THE SECOND FORM's CARD OF 'tidemarklaw25.TupleSpans'. -/
def tupleSpansUptoCard : Claim7 := { stood := { row := tupleSpansUptoRow, standIns := [], harness := (true, "407487685bdb66eeb9cea407d968648b58b02444c05ec0e27aba48130c798026"), looks := true }, kinds := [], alts := [], laidByText := true, laidKinds := [.data, .pinned], laidTests := true, laidLooks := .later }
def TupleSpansUptoCardSaid : Prop := Claim7.holds Tryd.pinned (.plain (OpenSpec.upto tupleSpansSpec)) tupleSpansUptoCard

/-- THE SECOND FORM's CARD OF 'tidemarklaw25.TupleTexts'. -/
def tupleTextsUptoCard : Claim7 := { stood := { row := tupleTextsUptoRow, standIns := [], harness := (true, "407487685bdb66eeb9cea407d968648b58b02444c05ec0e27aba48130c798026"), looks := true }, kinds := [], alts := [], laidByText := true, laidKinds := [.data, .data, .data, .data, .sentinel, .sentinel, .pinned], laidTests := true, laidLooks := .later }
def TupleTextsUptoCardSaid : Prop := Claim7.holds Tryd.pinned (.plain (OpenSpec.upto tupleTextsSpec)) tupleTextsUptoCard

/-- THE SECOND FORM's CARD OF 'tidemarklaw25.TupleParses'. -/
def tupleParsesUptoCard : Claim7 := { stood := { row := tupleParsesUptoRow, standIns := [], harness := (true, "407487685bdb66eeb9cea407d968648b58b02444c05ec0e27aba48130c798026"), looks := true }, kinds := [], alts := [], laidByText := true, laidKinds := [.data, .data, .data, .data, .sentinel, .sentinel, .pinned], laidTests := true, laidLooks := .later }
def TupleParsesUptoCardSaid : Prop := Claim7.holds Tryd.pinned (.plain (OpenSpec.upto tupleParsesSpec)) tupleParsesUptoCard
end Rows
end Go.Proofs.YtfafkohghgliaabDoor
