import Derived.Test.YtfafkohghgliaabDoorTuOwn
import Derived.Test.YtfafkohghgliaabDoorTuQ
/- What Decode answers. -/
namespace Go.Proofs.YtfafkohghgliaabDoor.Tu
open Go.RowKit Go.Sort Go.Proofs.YtfafkohghgliaabDoor
set_option linter.unusedVariables false
set_option linter.unusedSectionVars false
variable [DecidableEq Vl]

/-- Decode's error -/
def dE (o : Option (List Vl)) : Int := if o.isNone then 250 else 0
/-- what Decode answers: a row of one's own -/
def De (l : List Nat) (w : World) (e : Ending) (w' : World) : Prop := ∃ v, e = .returned (.tuple #[v, .int .i64 (dE (decT l))]) ∧ OwnV w' w.heap.size v ((decT l).getD []) ∧ Below w.heap.size w w'
end Go.Proofs.YtfafkohghgliaabDoor.Tu
