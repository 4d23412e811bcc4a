import Derived.Test.YtodolbekbeccbabStamps
import Derived.Test.YtodolbekbeccbabTab
namespace Go.Proofs.Ytodolbekbeccbab
open Go.RowKit Go.Sort

/-- the mark of a place of a list -/
def sgn (i j : Int) : St := ⟨IntKind.u64.wrap i, j % 4294967296, 77⟩

set_option maxHeartbeats 400000 in
theorem sign_any (i j : Int) (w : World) :
    Calls Try.prog 26 #[.int .i64 i, .int .i64 j] w fun e w' => e = .returned (stv (sgn i j).w (sgn i j).l (sgn i j).n) ∧ Below w.heap.size w w' := by
  go_enter Try.func26, Try.ntmps26
  go_wp2
  refine bodyPost_ret (v := (sgn i j).val) (by simp [results, Try.results26, go_sem, sgn]) rfl ⟨rfl, ?_⟩
  exact Below.al (Below.refl _ _) _

end Go.Proofs.Ytodolbekbeccbab
