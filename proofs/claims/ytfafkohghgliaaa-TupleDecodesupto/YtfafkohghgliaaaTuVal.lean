import Derived.Test.YtfafkohghgliaaaTuRow
/- The program makes values. -/
namespace Go.Proofs.Ytfafkohghgliaaa.Tu
open Go.RowKit Go.Sort Go.Proofs.Ytfafkohghgliaaa
set_option linter.unusedVariables false
set_option linter.unusedSectionVars false
variable [DecidableEq Vl]
theorem int_is (n : Int) (w : World) : Calls Try.prog 39 #[.int .i64 n] w fun e w' => e = .returned (vlv 2 false n ⟨#[]⟩) ∧ Below w.heap.size w w' := by
  go_enter Try.func39, Try.ntmps39
  go_wp2_with fail
  exact bodyPost_ret (v := vlv 2 false n ⟨#[]⟩) (by simp [results, Try.results39, go_sem]) rfl ⟨rfl, by (repeat (first | exact Below.refl _ _ | assumption | refine Below.drew ?_ | refine Below.al ?_ _ | refine Below.setCell ?_ (by first | exact Nat.le_refl _ | (simp; omega) | (simp; done)) _ | refine Below.on ?_ (by assumption)))⟩
theorem flag_is (f : Bool) (w : World) : Calls Try.prog 24 #[.bool f] w fun e w' => e = .returned (vlv 1 f 0 ⟨#[]⟩) ∧ Below w.heap.size w w' := by
  go_enter Try.func24, Try.ntmps24
  go_wp2_with fail
  exact bodyPost_ret (v := vlv 1 f 0 ⟨#[]⟩) (by simp [results, Try.results24, go_sem]) rfl ⟨rfl, by (repeat (first | exact Below.refl _ _ | assumption | refine Below.drew ?_ | refine Below.al ?_ _ | refine Below.setCell ?_ (by first | exact Nat.le_refl _ | (simp; omega) | (simp; done)) _ | refine Below.on ?_ (by assumption)))⟩
theorem txt_is (s : ByteArray) (w : World) : Calls Try.prog 35 #[.string s] w fun e w' => e = .returned (vlv 3 false 0 s) ∧ Below w.heap.size w w' := by
  go_enter Try.func35, Try.ntmps35
  go_wp2_with fail
  exact bodyPost_ret (v := vlv 3 false 0 s) (by simp [results, Try.results35, go_sem]) rfl ⟨rfl, by (repeat (first | exact Below.refl _ _ | assumption | refine Below.drew ?_ | refine Below.al ?_ _ | refine Below.setCell ?_ (by first | exact Nat.le_refl _ | (simp; omega) | (simp; done)) _ | refine Below.on ?_ (by assumption)))⟩
end Go.Proofs.Ytfafkohghgliaaa.Tu
