import Derived.Test.YtcinapjkdmmppaaBase0
import Derived.Laws.StructEq
namespace Go.Proofs.Ytcinapjkdmmppaa
open Go.RowKit

/-- the run of '==' between two stamps -/
theorem run_eq (a b c x y z : Int) (w : World) :
    (binOp .eql 25 (stv a b c) (stv x y z)).run Try.prog w = .ok (.bool (sameB a b c x y z)) w := by
  by_cases h1 : a = x <;> by_cases h2 : b = y <;> by_cases h3 : c = z <;> simp [sameB, h1, h2, h3, stv, go_sem, Try.underlying25]

theorem run_ne (a b c x y z : Int) (w : World) :
    (binOp .neq 25 (stv a b c) (stv x y z)).run Try.prog w = .ok (.bool (!sameB a b c x y z)) w := by
  by_cases h1 : a = x <;> by_cases h2 : b = y <;> by_cases h3 : c = z <;> simp [sameB, h1, h2, h3, stv, go_sem, Try.underlying25]

end Go.Proofs.Ytcinapjkdmmppaa
