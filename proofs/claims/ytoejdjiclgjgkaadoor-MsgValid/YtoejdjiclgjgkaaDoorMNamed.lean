import Derived.Test.YtoejdjiclgjgkaaDoorMMsg0
import Derived.Test.YtoejdjiclgjgkaaDoorMSmall
namespace Go.Proofs.YtoejdjiclgjgkaaDoor
open Go.RowKit Go.Sort
set_option linter.unusedVariables false

set_option maxHeartbeats 4000000 in
set_option maxRecDepth 8000 in
theorem way0 {m : Mg} {w : World} (T1 : Hid (txnK m.k = false)) (T2 : Hid (atK m.k = false)) (T3 : Hid (outK m.k = false)) (q1 : (m.k == 1) = false) (q2 : (m.k == 2) = false) (q3 : (m.k == 3) = false) (q4 : (m.k == 4) = false) :
    Calls Tryd.prog 8 #[m.val] w fun e w' => e = .returned ({ zM m with k := m.k } : Mg).val ∧ Below w.heap.size w w' := by
  go_enter Tryd.func8, Tryd.ntmps8
  go_wp2_with fail
  refine (ofTxn_is T1.out _).mono ?_
  rintro e wn ⟨rfl, rfl⟩
  go_wp2_with fail
  refine (ofAt_is T2.out _).mono ?_
  rintro e wn ⟨rfl, rfl⟩
  go_wp2_with fail
  refine (ofOutcome_is T3.out _).mono ?_
  rintro e wn ⟨rfl, rfl⟩
  go_wp2_with fail
  refine bodyPost_ret (v := ({ zM m with k := m.k } : Mg).val) (by simp [results, Tryd.results8, go_sem]) rfl ⟨rfl, ?_⟩
  (repeat (first | exact Below.refl _ _ | assumption | refine Below.drew ?_ | refine Below.al ?_ _ | refine Below.setCell ?_ (by first | exact Nat.le_refl _ | (simp; omega) | (simp; done)) _ | refine Below.on ?_ (by assumption)))

theorem named0 {m : Mg} {w : World} (hk : m.k < 1 ∨ 9 < m.k) : Calls Tryd.prog 8 #[m.val] w fun e w' => e = .returned ({ zM m with k := m.k } : Mg).val ∧ Below w.heap.size w w' :=
  way0 (hid (by unfold txnK; rw [Bool.eq_iff_iff]; simp; omega)) (hid (by unfold atK; rw [Bool.eq_iff_iff]; simp; omega)) (hid (by unfold outK; rw [Bool.eq_iff_iff]; simp; omega)) (by rw [beq_eq_false_iff_ne]; omega) (by rw [beq_eq_false_iff_ne]; omega) (by rw [beq_eq_false_iff_ne]; omega) (by rw [beq_eq_false_iff_ne]; omega)

set_option maxHeartbeats 4000000 in
set_option maxRecDepth 8000 in
theorem way1 {m : Mg} {w : World} (T1 : Hid (txnK m.k = false)) (T2 : Hid (atK m.k = true)) (T3 : Hid (outK m.k = false)) (q1 : (m.k == 1) = true) (q2 : (m.k == 2) = false) (q3 : (m.k == 3) = false) (q4 : (m.k == 4) = false) :
    Calls Tryd.prog 8 #[m.val] w fun e w' => e = .returned ({ pRead m with k := m.k } : Mg).val ∧ Below w.heap.size w w' := by
  go_enter Tryd.func8, Tryd.ntmps8
  go_wp2_with fail
  refine (ofTxn_is T1.out _).mono ?_
  rintro e wn ⟨rfl, rfl⟩
  go_wp2_with fail
  refine (ofAt_is T2.out _).mono ?_
  rintro e wn ⟨rfl, rfl⟩
  go_wp2_with fail
  refine (ofOutcome_is T3.out _).mono ?_
  rintro e wn ⟨rfl, rfl⟩
  go_wp2_with fail
  refine bodyPost_ret (v := ({ pRead m with k := m.k } : Mg).val) (by simp [results, Tryd.results8, go_sem]) rfl ⟨rfl, ?_⟩
  (repeat (first | exact Below.refl _ _ | assumption | refine Below.drew ?_ | refine Below.al ?_ _ | refine Below.setCell ?_ (by first | exact Nat.le_refl _ | (simp; omega) | (simp; done)) _ | refine Below.on ?_ (by assumption)))

theorem named1 {m : Mg} {w : World} (hk : m.k = 1) : Calls Tryd.prog 8 #[m.val] w fun e w' => e = .returned ({ pRead m with k := m.k } : Mg).val ∧ Below w.heap.size w w' :=
  way1 (hid (by rw [hk]; rfl)) (hid (by rw [hk]; rfl)) (hid (by rw [hk]; rfl)) (by rw [hk]; rfl) (by rw [hk]; rfl) (by rw [hk]; rfl) (by rw [hk]; rfl)

set_option maxHeartbeats 4000000 in
set_option maxRecDepth 8000 in
theorem way2 {m : Mg} {w : World} (T1 : Hid (txnK m.k = false)) (T2 : Hid (atK m.k = true)) (T3 : Hid (outK m.k = false)) (q1 : (m.k == 1) = false) (q2 : (m.k == 2) = true) (q3 : (m.k == 3) = false) (q4 : (m.k == 4) = false) :
    Calls Tryd.prog 8 #[m.val] w fun e w' => e = .returned ({ pData m with k := m.k } : Mg).val ∧ Below w.heap.size w w' := by
  go_enter Tryd.func8, Tryd.ntmps8
  go_wp2_with fail
  refine (ofTxn_is T1.out _).mono ?_
  rintro e wn ⟨rfl, rfl⟩
  go_wp2_with fail
  refine (ofAt_is T2.out _).mono ?_
  rintro e wn ⟨rfl, rfl⟩
  go_wp2_with fail
  refine (ofOutcome_is T3.out _).mono ?_
  rintro e wn ⟨rfl, rfl⟩
  go_wp2_with fail
  refine bodyPost_ret (v := ({ pData m with k := m.k } : Mg).val) (by simp [results, Tryd.results8, go_sem]) rfl ⟨rfl, ?_⟩
  (repeat (first | exact Below.refl _ _ | assumption | refine Below.drew ?_ | refine Below.al ?_ _ | refine Below.setCell ?_ (by first | exact Nat.le_refl _ | (simp; omega) | (simp; done)) _ | refine Below.on ?_ (by assumption)))

theorem named2 {m : Mg} {w : World} (hk : m.k = 2) : Calls Tryd.prog 8 #[m.val] w fun e w' => e = .returned ({ pData m with k := m.k } : Mg).val ∧ Below w.heap.size w w' :=
  way2 (hid (by rw [hk]; rfl)) (hid (by rw [hk]; rfl)) (hid (by rw [hk]; rfl)) (by rw [hk]; rfl) (by rw [hk]; rfl) (by rw [hk]; rfl) (by rw [hk]; rfl)

set_option maxHeartbeats 4000000 in
set_option maxRecDepth 8000 in
theorem way8 {m : Mg} {w : World} (T1 : Hid (txnK m.k = true)) (T2 : Hid (atK m.k = false)) (T3 : Hid (outK m.k = false)) (q1 : (m.k == 1) = false) (q2 : (m.k == 2) = false) (q3 : (m.k == 3) = false) (q4 : (m.k == 4) = false) :
    Calls Tryd.prog 8 #[m.val] w fun e w' => e = .returned ({ pQuery m with k := m.k } : Mg).val ∧ Below w.heap.size w w' := by
  go_enter Tryd.func8, Tryd.ntmps8
  go_wp2_with fail
  refine (ofTxn_is T1.out _).mono ?_
  rintro e wn ⟨rfl, rfl⟩
  go_wp2_with fail
  refine (ofAt_is T2.out _).mono ?_
  rintro e wn ⟨rfl, rfl⟩
  go_wp2_with fail
  refine (ofOutcome_is T3.out _).mono ?_
  rintro e wn ⟨rfl, rfl⟩
  go_wp2_with fail
  refine bodyPost_ret (v := ({ pQuery m with k := m.k } : Mg).val) (by simp [results, Tryd.results8, go_sem]) rfl ⟨rfl, ?_⟩
  (repeat (first | exact Below.refl _ _ | assumption | refine Below.drew ?_ | refine Below.al ?_ _ | refine Below.setCell ?_ (by first | exact Nat.le_refl _ | (simp; omega) | (simp; done)) _ | refine Below.on ?_ (by assumption)))

theorem named8 {m : Mg} {w : World} (hk : m.k = 8) : Calls Tryd.prog 8 #[m.val] w fun e w' => e = .returned ({ pQuery m with k := m.k } : Mg).val ∧ Below w.heap.size w w' :=
  way8 (hid (by rw [hk]; rfl)) (hid (by rw [hk]; rfl)) (hid (by rw [hk]; rfl)) (by rw [hk]; rfl) (by rw [hk]; rfl) (by rw [hk]; rfl) (by rw [hk]; rfl)

end Go.Proofs.YtoejdjiclgjgkaaDoor
