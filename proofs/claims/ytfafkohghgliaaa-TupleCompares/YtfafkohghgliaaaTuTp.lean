import Derived.Test.YtfafkohghgliaaaTuRow
/- Tuples of a size that fits. -/
namespace Go.Proofs.Ytfafkohghgliaaa.Tu
open Go.RowKit Go.Sort Go.Proofs.Ytfafkohghgliaaa
set_option linter.unusedVariables false
set_option linter.unusedSectionVars false
variable [DecidableEq Vl]

structure Tp (t : List Vl) : Prop where
  ok : OkT t
  len : t.length ≤ 16777216
  sh : ∀ v ∈ t, v.s.length ≤ 67108864
  enc : (encL t).length ≤ 67108864
theorem Tp.le {t : List Vl} (h : Tp t) : t.length ≤ 4611686018427387904 := by have := h.len; omega
theorem Tp.el {t : List Vl} (h : Tp t) : (encL t).length ≤ 4611686018427387904 := by have := h.enc; omega
theorem Tp.ss {t : List Vl} (h : Tp t) : ∀ v ∈ t, 2 * v.s.length + 10 ≤ 9223372036854775807 := fun v hv => by have := h.sh v hv; omega
theorem ret_b {a b : Bool} (h : a = b) : Ending.returned (.bool a) = Ending.returned (.bool b) := by rw [h]
end Go.Proofs.Ytfafkohghgliaaa.Tu
