import Derived.Test.YtggmhodogfngdaaDoorGtNm
/- strconv.Itoa at every number. -/
namespace Go.Proofs.YtggmhodogfngdaaDoor.Gt
open Go.Proofs.YtggmhodogfngdaaDoor Go.Proofs.YtggmhodogfngdaaDoor.Rt Go.RowKit Go.Sort
theorem itoa_all {e : Int} (h0 : -9223372036854775808 ≤ e) (h1 : e ≤ 9223372036854775807) (w : World) (ht : PowTab w) :
    Calls Tryd.prog 29 #[.int .i64 e] w fun r w' => r = .returned (.string (ofNats (decI e))) ∧ Below w.heap.size w w' := by
  refine (Tryd.strconv_Itoa e h0 h1 w ht).mono ?_
  rintro r w' ⟨rfl, k, os, rfl⟩
  refine ⟨by rw [itoa_nats], ?_⟩
  exact ⟨rfl, rfl, rfl, by simp [grow], fun j hj => by simp [grow, Array.getElem?_append, hj]⟩
end Go.Proofs.YtggmhodogfngdaaDoor.Gt
