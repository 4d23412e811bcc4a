import Derived.Test.YtngnifemghahkaaDoorMMake3
namespace Go.Proofs.YtngnifemghahkaaDoor
open Go.RowKit Go.Sort
set_option linter.unusedVariables false

set_option maxHeartbeats 1000000 in
theorem make6 (m : Mg) (w : World) :
    Calls Tryd.prog 77 #[m.val] w fun e w' => ∃ q, e = .returned (.iface 151 (.pointer (some ⟨q, 0, none⟩))) ∧ At w' q 0 (vVerd m) ∧ Below w.heap.size w w' := by
  go_enter Tryd.func77, Tryd.ntmps77
  go_wp2_with fail
  refine (verdictOf_is m _).mono ?_
  rintro e w1 ⟨rfl, hw1⟩
  replace hw1 := Below.on (Below.al (Below.refl _ _) _) hw1
  go_wp2_with fail
  go_ret
  refine ⟨_, rfl, ⟨?_, ?_, ?_, ?_, ?_, ?_, ?_, trivial⟩, by (repeat (first | exact Below.refl _ _ | assumption | refine Below.drew ?_ | refine Below.al ?_ _ | refine Below.setCell ?_ (by first | exact Nat.le_refl _ | (simp; omega) | (simp; done)) _ | refine Below.on ?_ (by assumption)))⟩ <;> simp [go_sem]

set_option maxHeartbeats 1000000 in
theorem make7 (m : Mg) (w : World) :
    Calls Tryd.prog 79 #[m.val] w fun e w' => ∃ q, e = .returned (.iface 157 (.pointer (some ⟨q, 0, none⟩))) ∧ At w' q 0 (vVerd m) ∧ Below w.heap.size w w' := by
  go_enter Tryd.func79, Tryd.ntmps79
  go_wp2_with fail
  refine (verdictOf_is m _).mono ?_
  rintro e w1 ⟨rfl, hw1⟩
  replace hw1 := Below.on (Below.al (Below.refl _ _) _) hw1
  go_wp2_with fail
  go_ret
  refine ⟨_, rfl, ⟨?_, ?_, ?_, ?_, ?_, ?_, ?_, trivial⟩, by (repeat (first | exact Below.refl _ _ | assumption | refine Below.drew ?_ | refine Below.al ?_ _ | refine Below.setCell ?_ (by first | exact Nat.le_refl _ | (simp; omega) | (simp; done)) _ | refine Below.on ?_ (by assumption)))⟩ <;> simp [go_sem]

set_option maxHeartbeats 1000000 in
theorem make9 (m : Mg) (w : World) :
    Calls Tryd.prog 81 #[m.val] w fun e w' => ∃ q, e = .returned (.iface 162 (.pointer (some ⟨q, 0, none⟩))) ∧ At w' q 0 (vVerd m) ∧ Below w.heap.size w w' := by
  go_enter Tryd.func81, Tryd.ntmps81
  go_wp2_with fail
  refine (verdictOf_is m _).mono ?_
  rintro e w1 ⟨rfl, hw1⟩
  replace hw1 := Below.on (Below.al (Below.refl _ _) _) hw1
  go_wp2_with fail
  go_ret
  refine ⟨_, rfl, ⟨?_, ?_, ?_, ?_, ?_, ?_, ?_, trivial⟩, by (repeat (first | exact Below.refl _ _ | assumption | refine Below.drew ?_ | refine Below.al ?_ _ | refine Below.setCell ?_ (by first | exact Nat.le_refl _ | (simp; omega) | (simp; done)) _ | refine Below.on ?_ (by assumption)))⟩ <;> simp [go_sem]

end Go.Proofs.YtngnifemghahkaaDoor
