import Derived.Test.YtfafkohghgliaaaTuQ
import Derived.Test.YtfafkohghgliaaaTuRow
/- What first answers. -/
namespace Go.Proofs.Ytfafkohghgliaaa.Tu
open Go.RowKit Go.Sort Go.Proofs.Ytfafkohghgliaaa
set_option linter.unusedVariables false
set_option linter.unusedSectionVars false
variable [DecidableEq Vl]

/-- what first answers: the value with whose code the bytes begin, and how long that is -/
def Fe (l : List Nat) (w : World) (e : Ending) (w' : World) : Prop := (match takeV l with
  | some (v, r) => e = .returned (.tuple #[v.val, .int .i64 ((l.length - r.length : Nat) : Int)])
  | none => e = .returned (.tuple #[vNull.val, .int .i64 0])) ∧ Below w.heap.size w w'
theorem Fe.none {l : List Nat} {w w' : World} {e : Ending} (h : takeV l = .none) (he : e = .returned (.tuple #[vNull.val, .int .i64 0])) (hb : Below w.heap.size w w') : Fe l w e w' := by unfold Fe; rw [h]; exact ⟨he, hb⟩
theorem Fe.some {l r : List Nat} {v : Vl} {w w' : World} {e : Ending} (h : takeV l = .some (v, r)) (he : e = .returned (.tuple #[v.val, .int .i64 ((l.length - r.length : Nat) : Int)])) (hb : Below w.heap.size w w') : Fe l w e w' := by unfold Fe; rw [h]; exact ⟨he, hb⟩
end Go.Proofs.Ytfafkohghgliaaa.Tu
