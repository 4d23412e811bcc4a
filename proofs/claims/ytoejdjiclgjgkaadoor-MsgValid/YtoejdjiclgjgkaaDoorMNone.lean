import Derived.Test.YtoejdjiclgjgkaaDoorMBase
import Derived.Laws.EntriesVeiled
namespace Go.Proofs.YtoejdjiclgjgkaaDoor
open Go.RowKit Go.Sort
set_option linter.unusedVariables false

set_option maxHeartbeats 2000000 in
theorem newNone {m : Mg} {w : World} (hk : m.k < 1 ∨ 9 < m.k) :
    Calls Tryd.prog 14 #[m.val] w fun e w' => e = .returned (.tuple #[.nilIface, .bool false]) ∧ Below w.heap.size w w' := by
  by_cases k1 : m.k < 1
  · clear hk
    have k1' : decide (m.k < 1) = true := decide_eq_true k1
    go_enter Tryd.func14, Tryd.ntmps14
    go_wp2_with fail
    go_ret2
    exact ⟨rfl, by (repeat (first | exact Below.refl _ _ | assumption | refine Below.drew ?_ | refine Below.al ?_ _ | refine Below.setCell ?_ (by first | exact Nat.le_refl _ | (simp; omega) | (simp; done)) _ | refine Below.on ?_ (by assumption)))⟩
  · have k9 : 9 < m.k := by omega
    have k1' : decide (m.k < 1) = false := decide_eq_false k1
    have k9' : decide (9 < m.k) = true := decide_eq_true k9
    clear hk k1 k9
    go_enter Tryd.func14, Tryd.ntmps14
    go_wp2_with fail
    go_ret2
    exact ⟨rfl, by (repeat (first | exact Below.refl _ _ | assumption | refine Below.drew ?_ | refine Below.al ?_ _ | refine Below.setCell ?_ (by first | exact Nat.le_refl _ | (simp; omega) | (simp; done)) _ | refine Below.on ?_ (by assumption)))⟩

set_option maxHeartbeats 2000000 in
theorem body0 {m : Mg} {w : World} (hk : m.k < 1 ∨ 9 < m.k) :
    Calls Tryd.prog 6 #[m.val] w fun e w' => (∃ v, e = .returned (.tuple #[v, .bool false])) ∧ Below w.heap.size w w' := by
  have HK := hid hk
  clear hk
  go_enter Tryd.func6, Tryd.ntmps6
  go_wp2_with fail
  refine (newNone HK.out).mono ?_
  rintro e w1 ⟨rfl, hw1⟩
  replace hw1 := Below.on (Below.al (Below.refl _ _) _) hw1
  have HW := hid hw1
  clear hw1
  go_wp2_with fail
  refine wp_region_quiet_below (by kernel_rfl) (by kernel_rfl) ?_
  repeat (go_big_quiet_step (fail))
  refine wpQuiet_nil ?_
  intro w2 hw
  replace hw := below_of_regrown hw
  go_wp2_with fail
  go_ret2
  exact ⟨⟨_, rfl⟩, Below.on HW.out hw⟩

end Go.Proofs.YtoejdjiclgjgkaaDoor
