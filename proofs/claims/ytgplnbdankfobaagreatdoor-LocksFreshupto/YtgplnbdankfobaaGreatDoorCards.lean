/-
  DERIVED. GIVEN WITH THE SEED: THE CARDS: each row of YtgplnbdankfobaaGreatDoorRows.lean that lists a variable, with what it lists TIED to the program's text (the seventh form; the later family's looks); each row that meets fmt, with fmt's text TOLD by the authors' own Lean function (tested against real Go, not proved from fmt's source: count such statements apart). THE CARD IS WHAT COUNTS. Prove the row's statement (the work); the ties are given (YtgplnbdankfobaaGreatDoorTie.lean); close each card by the builder's one call (the guide's Derived/Test/ToyasCard.lean, 'card_holds'). Laid BY PROGRAM, IN A SANDBOX (cutbox-door.mjs). By AI agents, Wed Nov 11 2026. No macro, syntax, notation, axiom, sorry.
-/
import Derived.Test.YtgplnbdankfobaaGreatDoorRows
import GoSem.ClaimSeven
namespace Go.Proofs.YtgplnbdankfobaaGreatDoor
namespace Rows

/-- THE TIED CARD OF 'tidemarklaw10.LocksFresh'. -/
def locksFreshCard : Claim7 := { stood := { row := locksFreshRow, standIns := [], harness := (true, "16923e67c6ce116968b562a31ee969bb561a61b445604085b406a29a0f664c53"), looks := false }, kinds := [], alts := [], laidByText := true, laidKinds := [.data, .data, .data], laidTests := true, laidLooks := .later }
def LocksFreshCardSaid : Prop := Claim7.holds Tryz.pinned (.plain (OpenSpec.ofChange locksFreshSpec)) locksFreshCard

/-- THE SECOND FORM's CARD OF 'tidemarklaw10.LocksFresh'. -/
def locksFreshUptoCard : Claim7 := { stood := { row := locksFreshUptoRow, standIns := [], harness := (true, "16923e67c6ce116968b562a31ee969bb561a61b445604085b406a29a0f664c53"), looks := false }, kinds := [], alts := [], laidByText := true, laidKinds := [.data, .data, .data], laidTests := true, laidLooks := .later }
def LocksFreshUptoCardSaid : Prop := Claim7.holds Tryz.pinned (.plain (OpenSpec.upto locksFreshSpec)) locksFreshUptoCard
end Rows
end Go.Proofs.YtgplnbdankfobaaGreatDoor
