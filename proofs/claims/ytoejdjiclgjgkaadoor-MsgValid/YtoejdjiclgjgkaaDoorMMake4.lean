import Derived.Test.YtoejdjiclgjgkaaDoorMMake3
namespace Go.Proofs.YtoejdjiclgjgkaaDoor
open Go.RowKit Go.Sort
set_option linter.unusedVariables false

set_option maxHeartbeats 1000000 in
theorem make6 (m : Mg) (w : World) :
    Calls Tryd.prog 27 #[m.val] w fun e w' => ∃ q, e = .returned (.iface 77 (.pointer (some ⟨q, 0, none⟩))) ∧ At w' q 0 (vVerd m) ∧ Below w.heap.size w w' := by
  go_enter Tryd.func27, Tryd.ntmps27
  go_wp2_with fail
  refine (verdictOf_is m _).mono ?_
  rintro e w1 ⟨rfl, hw1⟩
  replace hw1 := Below.on (Below.al (Below.refl _ _) _) hw1
  go_wp2_with fail
  go_ret
  refine ⟨_, rfl, ⟨?_, ?_, ?_, ?_, ?_, ?_, ?_, trivial⟩, by (repeat (first | exact Below.refl _ _ | assumption | refine Below.drew ?_ | refine Below.al ?_ _ | refine Below.setCell ?_ (by first | exact Nat.le_refl _ | (simp; omega) | (simp; done)) _ | refine Below.on ?_ (by assumption)))⟩ <;> simp [go_sem]

set_option maxHeartbeats 1000000 in
theorem make7 (m : Mg) (w : World) :
    Calls Tryd.prog 29 #[m.val] w fun e w' => ∃ q, e = .returned (.iface 83 (.pointer (some ⟨q, 0, none⟩))) ∧ At w' q 0 (vVerd m) ∧ Below w.heap.size w w' := by
  go_enter Tryd.func29, Tryd.ntmps29
  go_wp2_with fail
  refine (verdictOf_is m _).mono ?_
  rintro e w1 ⟨rfl, hw1⟩
  replace hw1 := Below.on (Below.al (Below.refl _ _) _) hw1
  go_wp2_with fail
  go_ret
  refine ⟨_, rfl, ⟨?_, ?_, ?_, ?_, ?_, ?_, ?_, trivial⟩, by (repeat (first | exact Below.refl _ _ | assumption | refine Below.drew ?_ | refine Below.al ?_ _ | refine Below.setCell ?_ (by first | exact Nat.le_refl _ | (simp; omega) | (simp; done)) _ | refine Below.on ?_ (by assumption)))⟩ <;> simp [go_sem]

set_option maxHeartbeats 1000000 in
theorem make9 (m : Mg) (w : World) :
    Calls Tryd.prog 31 #[m.val] w fun e w' => ∃ q, e = .returned (.iface 88 (.pointer (some ⟨q, 0, none⟩))) ∧ At w' q 0 (vVerd m) ∧ Below w.heap.size w w' := by
  go_enter Tryd.func31, Tryd.ntmps31
  go_wp2_with fail
  refine (verdictOf_is m _).mono ?_
  rintro e w1 ⟨rfl, hw1⟩
  replace hw1 := Below.on (Below.al (Below.refl _ _) _) hw1
  go_wp2_with fail
  go_ret
  refine ⟨_, rfl, ⟨?_, ?_, ?_, ?_, ?_, ?_, ?_, trivial⟩, by (repeat (first | exact Below.refl _ _ | assumption | refine Below.drew ?_ | refine Below.al ?_ _ | refine Below.setCell ?_ (by first | exact Nat.le_refl _ | (simp; omega) | (simp; done)) _ | refine Below.on ?_ (by assumption)))⟩ <;> simp [go_sem]

end Go.Proofs.YtoejdjiclgjgkaaDoor
