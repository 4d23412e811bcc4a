/-
  No cell of these rows narrows 'for every input' (looked for: loops, veiled, ifaces, maps, wideKeys, modest, calm, conditions, laid).
  DERIVED. THE GIVEN ROWS OF THIS SEAT. 3 by the template 'for every input the law returns true; each argument reads behind the call as it read before'; 0 by the template 'total and deterministic' (their statements: YtfdbffadajepfaaGreatTotals.lean).
  GIVEN WITH THE SEED: the statements are not yours to turn. If you find one false, say at which input.
  Laid BY PROGRAM, IN A SANDBOX (cutbox-rows.mjs): the forced cells as the released guide's own fill.sh prints them over the translation 925236fad2688675… (all of the seat's roots in one cut). By AI agents, Wed Nov 11 2026. No macro, syntax, notation, axiom, sorry.
-/
import Derived.Test.YtfdbffadajepfaaGreatChecked
import GoSem.Claim
import GoSem.ClaimJoined
import GoSem.ClaimMapViews
import Derived.JoinedTies
import Derived.KernelRfl
namespace Go.Proofs.YtfdbffadajepfaaGreat
/- THE CELL 'sum', in the pinned program and in every row, IS THE sha256 OF THE DUMP (.gsa) THAT YtfdbffadajepfaaGreatProg.lean LOADS. Nothing in Lean hashes anything: it is a label: what it is worth is what the hold of that sum in a sandbox is worth. -/
noncomputable def Tryz.pinned : Pinned := { name := "ytfdbffadajepfaagreat", sum := "925236fad2688675e9e6cb1ebba4670f62c221a4ffcf5cc3f0f337dee9e374f1", checked := Tryz.checked }
namespace Rows
def none {H : Type} : Left H := { results := [], args := [] }

/-- 'tidemarklaw13.StateSnapshot': WHATEVER THE INPUT: true; the input reads as it did. -/
def stateSnapshotSpec : ChangeSpec := { name := "stateSnapshot", fn := fun _ => fun
  | [d] => { results := [.lit (.bool true)], args := [d] }
  | _ => none }
def stateSnapshotRow : OpenClaim := { program := "ytfdbffadajepfaagreat", sum := "925236fad2688675e9e6cb1ebba4670f62c221a4ffcf5cc3f0f337dee9e374f1", func := "tidemark/tidemarklaw13.StateSnapshot", spec := "stateSnapshot", unfollowed := true, recurses := true, plainKeys := false, apart := false }
def StateSnapshotSaid : Prop := stateSnapshotRow.holds Tryz.pinned (OpenSpec.ofChange stateSnapshotSpec)

/-- ITS FALSE NEIGHBOUR: 'it returns false'. Refute it at one input. -/
def stateSnapshotWrong : ChangeSpec := { name := "stateSnapshot", fn := fun _ => fun
  | [d] => { results := [.lit (.bool false)], args := [d] }
  | _ => none }
def StateSnapshotWrongFalsely : Prop := stateSnapshotRow.holds Tryz.pinned (OpenSpec.ofChange stateSnapshotWrong)

/-- 'tidemarklaw13.StateSerial': WHATEVER THE INPUT: true; the input reads as it did. -/
def stateSerialSpec : ChangeSpec := { name := "stateSerial", fn := fun _ => fun
  | [d] => { results := [.lit (.bool true)], args := [d] }
  | _ => none }
def stateSerialRow : OpenClaim := { program := "ytfdbffadajepfaagreat", sum := "925236fad2688675e9e6cb1ebba4670f62c221a4ffcf5cc3f0f337dee9e374f1", func := "tidemark/tidemarklaw13.StateSerial", spec := "stateSerial", unfollowed := true, recurses := true, plainKeys := false, apart := false }
def StateSerialSaid : Prop := stateSerialRow.holds Tryz.pinned (OpenSpec.ofChange stateSerialSpec)

/-- ITS FALSE NEIGHBOUR: 'it returns false'. Refute it at one input. -/
def stateSerialWrong : ChangeSpec := { name := "stateSerial", fn := fun _ => fun
  | [d] => { results := [.lit (.bool false)], args := [d] }
  | _ => none }
def StateSerialWrongFalsely : Prop := stateSerialRow.holds Tryz.pinned (OpenSpec.ofChange stateSerialWrong)

/-- 'tidemarklaw13.StateChecks': WHATEVER THE INPUT: true; the input reads as it did. -/
def stateChecksSpec : ChangeSpec := { name := "stateChecks", fn := fun _ => fun
  | [d] => { results := [.lit (.bool true)], args := [d] }
  | _ => none }
def stateChecksRow : OpenClaim := { program := "ytfdbffadajepfaagreat", sum := "925236fad2688675e9e6cb1ebba4670f62c221a4ffcf5cc3f0f337dee9e374f1", func := "tidemark/tidemarklaw13.StateChecks", spec := "stateChecks", unfollowed := true, recurses := true, plainKeys := false, apart := false }
def StateChecksSaid : Prop := stateChecksRow.holds Tryz.pinned (OpenSpec.ofChange stateChecksSpec)

/-- ITS FALSE NEIGHBOUR: 'it returns false'. Refute it at one input. -/
def stateChecksWrong : ChangeSpec := { name := "stateChecks", fn := fun _ => fun
  | [d] => { results := [.lit (.bool false)], args := [d] }
  | _ => none }
def StateChecksWrongFalsely : Prop := stateChecksRow.holds Tryz.pinned (OpenSpec.ofChange stateChecksWrong)

/- THE SECOND FORM. 'bulk': how many values and letters a reading holds, each counted each time it is reached (what is shared counts as often as it is met; a slice's spare places count too). A statement '..UptoSaid' is the law's where the arguments, and the package variables that the reading takes, are together of bulk at most 1048576: NARROWER than '..Said'. Prove '..Said' where nothing that the law and all that it calls make is longer than what came in: it says more and counts as full. Else prove '..UptoSaid'. A law counts once. -/
mutual
def uptoBulk {H : Type} : DataW H → Nat
  | .lit (.string bytes) => bytes.length + 1
  | .lit _ => 1
  | .nil => 1
  | .ptr d => uptoBulk d + 1
  | .slice elems spare => uptoBulkAll elems + uptoBulkAll spare + 1
  | .agg parts => uptoBulkAll parts + 1
  | .iface _ d => uptoBulk d + 1
  | .map entries => uptoBulkEntries entries + 1
  | .held _ => 1
def uptoBulkAll {H : Type} : List (DataW H) → Nat
  | [] => 0
  | d :: r => uptoBulk d + uptoBulkAll r
def uptoBulkEntries {H : Type} : List (Lit × DataW H) → Nat
  | [] => 0
  | x :: r => uptoBulkEntry x + uptoBulkEntries r
def uptoBulkEntry {H : Type} : Lit × DataW H → Nat
  | (.string bytes, d) => bytes.length + uptoBulk d + 1
  | (_, d) => uptoBulk d + 1
 end
def uptoSmall : (H : Type) → List (DataW H) → Bool := fun _ ds => decide (uptoBulkAll ds ≤ 1048576)
def OpenSpec.upto (s : _root_.Go.ChangeSpec) : _root_.Go.OpenSpec := { _root_.Go.OpenSpec.ofChange s with cond := some uptoSmall }

/-- 'tidemarklaw13.StateSnapshot', WHERE WHAT IT READS IS OF BULK AT MOST 1048576: true; the input reads as it did. -/
def stateSnapshotUptoRow : OpenClaim := { program := "ytfdbffadajepfaagreat", sum := "925236fad2688675e9e6cb1ebba4670f62c221a4ffcf5cc3f0f337dee9e374f1", func := "tidemark/tidemarklaw13.StateSnapshot", spec := "stateSnapshot", unfollowed := true, recurses := true, plainKeys := false, apart := false, narrowed := true }
def StateSnapshotUptoSaid : Prop := stateSnapshotUptoRow.holds Tryz.pinned (OpenSpec.upto stateSnapshotSpec)

/-- 'tidemarklaw13.StateSerial', WHERE WHAT IT READS IS OF BULK AT MOST 1048576: true; the input reads as it did. -/
def stateSerialUptoRow : OpenClaim := { program := "ytfdbffadajepfaagreat", sum := "925236fad2688675e9e6cb1ebba4670f62c221a4ffcf5cc3f0f337dee9e374f1", func := "tidemark/tidemarklaw13.StateSerial", spec := "stateSerial", unfollowed := true, recurses := true, plainKeys := false, apart := false, narrowed := true }
def StateSerialUptoSaid : Prop := stateSerialUptoRow.holds Tryz.pinned (OpenSpec.upto stateSerialSpec)

/-- 'tidemarklaw13.StateChecks', WHERE WHAT IT READS IS OF BULK AT MOST 1048576: true; the input reads as it did. -/
def stateChecksUptoRow : OpenClaim := { program := "ytfdbffadajepfaagreat", sum := "925236fad2688675e9e6cb1ebba4670f62c221a4ffcf5cc3f0f337dee9e374f1", func := "tidemark/tidemarklaw13.StateChecks", spec := "stateChecks", unfollowed := true, recurses := true, plainKeys := false, apart := false, narrowed := true }
def StateChecksUptoSaid : Prop := stateChecksUptoRow.holds Tryz.pinned (OpenSpec.upto stateChecksSpec)

end Rows
end Go.Proofs.YtfdbffadajepfaaGreat
