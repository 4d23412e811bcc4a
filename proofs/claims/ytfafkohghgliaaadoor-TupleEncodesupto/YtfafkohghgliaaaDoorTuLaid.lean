import Derived.Test.YtfafkohghgliaaaDoorRows
import Derived.WideLaws
import Derived.Deep.DeepHandedRow
import Derived.Deep.DeepWitnessRowRef
import Derived.Lib.LaidTab
import Derived.LaidLaws
import Derived.OpenShut
import Derived.ProofKit
/- The listed variables, and a world that has them. -/
namespace Go.Proofs.YtfafkohghgliaaaDoor.Tu
open Go.Proofs.YtfafkohghgliaaaDoor Go.ChangeShapes Go.WideShapes Go.ChangeAt Go.RowKit
set_option linter.unusedVariables false

abbrev theLaid : List (String × DataW Unit) := [("unicode/utf8.acceptRanges", Rows.laid_unicode_utf8_acceptRanges), ("unicode/utf8.first", Rows.laid_unicode_utf8_first)]
def oneOf (x : DataW Unit) : Value := match x with
  | .lit (.int k n) => Value.int k n
  | _ => .bool false
def intsOf (d : DataW Unit) : Array Value := match d with
  | .agg ps => (ps.flatMap fun x => match x with | .agg qs => qs.map oneOf | y => [oneOf y]).toArray
  | _ => #[]
def putG (h : Array Obj) (g : Nat) (cs : Array Value) : Array Obj := h.modify g fun
  | .cells _ t frozen => .cells cs t frozen
  | o => o
set_option maxRecDepth 1000000 in
theorem laid_met (os : Os) (args : Array Value) : laidMet Tryd.prog theLaid (({ World.holding Tryd.prog os ⟨#[], #[], []⟩ with heap := putG (putG (World.holding Tryd.prog os ⟨#[], #[], []⟩).heap 2 (intsOf Rows.laid_unicode_utf8_acceptRanges)) 1 (intsOf Rows.laid_unicode_utf8_first) } : World).forCall (fun _ _ => 0) ⟨#[], args, []⟩).memory :=
  laidMet_of_run' 8 (by kernel_rfl) (by kernel_rfl)

end Go.Proofs.YtfafkohghgliaaaDoor.Tu
