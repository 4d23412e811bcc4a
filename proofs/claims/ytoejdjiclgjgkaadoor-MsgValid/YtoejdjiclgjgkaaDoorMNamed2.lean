import Derived.Test.YtoejdjiclgjgkaaDoorMMsg0
import Derived.Test.YtoejdjiclgjgkaaDoorMSmall
namespace Go.Proofs.YtoejdjiclgjgkaaDoor
open Go.RowKit Go.Sort
set_option linter.unusedVariables false

set_option maxHeartbeats 4000000 in
set_option maxRecDepth 8000 in
theorem way3 {m : Mg} {w : World} (T1 : Hid (txnK m.k = true)) (T2 : Hid (atK m.k = true)) (T3 : Hid (outK m.k = false)) (q1 : (m.k == 1) = false) (q2 : (m.k == 2) = false) (q3 : (m.k == 3) = true) (q4 : (m.k == 4) = false) :
    Calls Tryd.prog 8 #[m.val] w fun e w' => e = .returned ({ pPrep m with k := m.k } : Mg).val ∧ Below w.heap.size w w' := by
  go_enter Tryd.func8, Tryd.ntmps8
  go_wp2_with fail
  refine (ofTxn_is T1.out _).mono ?_
  rintro e wn ⟨rfl, rfl⟩
  go_wp2_with fail
  refine (ofAt_is T2.out _).mono ?_
  rintro e wn ⟨rfl, rfl⟩
  go_wp2_with fail
  refine (ofOutcome_is T3.out _).mono ?_
  rintro e wn ⟨rfl, rfl⟩
  go_wp2_with fail
  refine bodyPost_ret (v := ({ pPrep m with k := m.k } : Mg).val) (by simp [results, Tryd.results8, go_sem]) rfl ⟨rfl, ?_⟩
  (repeat (first | exact Below.refl _ _ | assumption | refine Below.drew ?_ | refine Below.al ?_ _ | refine Below.setCell ?_ (by first | exact Nat.le_refl _ | (simp; omega) | (simp; done)) _ | refine Below.on ?_ (by assumption)))

theorem named3 {m : Mg} {w : World} (hk : m.k = 3) : Calls Tryd.prog 8 #[m.val] w fun e w' => e = .returned ({ pPrep m with k := m.k } : Mg).val ∧ Below w.heap.size w w' :=
  way3 (hid (by rw [hk]; rfl)) (hid (by rw [hk]; rfl)) (hid (by rw [hk]; rfl)) (by rw [hk]; rfl) (by rw [hk]; rfl) (by rw [hk]; rfl) (by rw [hk]; rfl)

set_option maxHeartbeats 4000000 in
set_option maxRecDepth 8000 in
theorem way4 {m : Mg} {w : World} (T1 : Hid (txnK m.k = true)) (T2 : Hid (atK m.k = true)) (T3 : Hid (outK m.k = false)) (q1 : (m.k == 1) = false) (q2 : (m.k == 2) = false) (q3 : (m.k == 3) = false) (q4 : (m.k == 4) = true) :
    Calls Tryd.prog 8 #[m.val] w fun e w' => e = .returned ({ pVote m with k := m.k } : Mg).val ∧ Below w.heap.size w w' := by
  go_enter Tryd.func8, Tryd.ntmps8
  go_wp2_with fail
  refine (ofTxn_is T1.out _).mono ?_
  rintro e wn ⟨rfl, rfl⟩
  go_wp2_with fail
  refine (ofAt_is T2.out _).mono ?_
  rintro e wn ⟨rfl, rfl⟩
  go_wp2_with fail
  refine (ofOutcome_is T3.out _).mono ?_
  rintro e wn ⟨rfl, rfl⟩
  go_wp2_with fail
  refine bodyPost_ret (v := ({ pVote m with k := m.k } : Mg).val) (by simp [results, Tryd.results8, go_sem]) rfl ⟨rfl, ?_⟩
  (repeat (first | exact Below.refl _ _ | assumption | refine Below.drew ?_ | refine Below.al ?_ _ | refine Below.setCell ?_ (by first | exact Nat.le_refl _ | (simp; omega) | (simp; done)) _ | refine Below.on ?_ (by assumption)))

theorem named4 {m : Mg} {w : World} (hk : m.k = 4) : Calls Tryd.prog 8 #[m.val] w fun e w' => e = .returned ({ pVote m with k := m.k } : Mg).val ∧ Below w.heap.size w w' :=
  way4 (hid (by rw [hk]; rfl)) (hid (by rw [hk]; rfl)) (hid (by rw [hk]; rfl)) (by rw [hk]; rfl) (by rw [hk]; rfl) (by rw [hk]; rfl) (by rw [hk]; rfl)

set_option maxHeartbeats 4000000 in
set_option maxRecDepth 8000 in
theorem way5 {m : Mg} {w : World} (T1 : Hid (txnK m.k = true)) (T2 : Hid (atK m.k = true)) (T3 : Hid (outK m.k = false)) (q1 : (m.k == 1) = false) (q2 : (m.k == 2) = false) (q3 : (m.k == 3) = false) (q4 : (m.k == 4) = false) :
    Calls Tryd.prog 8 #[m.val] w fun e w' => e = .returned ({ pCommit m with k := m.k } : Mg).val ∧ Below w.heap.size w w' := by
  go_enter Tryd.func8, Tryd.ntmps8
  go_wp2_with fail
  refine (ofTxn_is T1.out _).mono ?_
  rintro e wn ⟨rfl, rfl⟩
  go_wp2_with fail
  refine (ofAt_is T2.out _).mono ?_
  rintro e wn ⟨rfl, rfl⟩
  go_wp2_with fail
  refine (ofOutcome_is T3.out _).mono ?_
  rintro e wn ⟨rfl, rfl⟩
  go_wp2_with fail
  refine bodyPost_ret (v := ({ pCommit m with k := m.k } : Mg).val) (by simp [results, Tryd.results8, go_sem]) rfl ⟨rfl, ?_⟩
  (repeat (first | exact Below.refl _ _ | assumption | refine Below.drew ?_ | refine Below.al ?_ _ | refine Below.setCell ?_ (by first | exact Nat.le_refl _ | (simp; omega) | (simp; done)) _ | refine Below.on ?_ (by assumption)))

theorem named5 {m : Mg} {w : World} (hk : m.k = 5) : Calls Tryd.prog 8 #[m.val] w fun e w' => e = .returned ({ pCommit m with k := m.k } : Mg).val ∧ Below w.heap.size w w' :=
  way5 (hid (by rw [hk]; rfl)) (hid (by rw [hk]; rfl)) (hid (by rw [hk]; rfl)) (by rw [hk]; rfl) (by rw [hk]; rfl) (by rw [hk]; rfl) (by rw [hk]; rfl)

set_option maxHeartbeats 4000000 in
set_option maxRecDepth 8000 in
theorem way6 {m : Mg} {w : World} (T1 : Hid (txnK m.k = true)) (T2 : Hid (atK m.k = true)) (T3 : Hid (outK m.k = true)) (q1 : (m.k == 1) = false) (q2 : (m.k == 2) = false) (q3 : (m.k == 3) = false) (q4 : (m.k == 4) = false) :
    Calls Tryd.prog 8 #[m.val] w fun e w' => e = .returned ({ pVerd 6 m with k := m.k } : Mg).val ∧ Below w.heap.size w w' := by
  go_enter Tryd.func8, Tryd.ntmps8
  go_wp2_with fail
  refine (ofTxn_is T1.out _).mono ?_
  rintro e wn ⟨rfl, rfl⟩
  go_wp2_with fail
  refine (ofAt_is T2.out _).mono ?_
  rintro e wn ⟨rfl, rfl⟩
  go_wp2_with fail
  refine (ofOutcome_is T3.out _).mono ?_
  rintro e wn ⟨rfl, rfl⟩
  go_wp2_with fail
  refine bodyPost_ret (v := ({ pVerd 6 m with k := m.k } : Mg).val) (by simp [results, Tryd.results8, go_sem]) rfl ⟨rfl, ?_⟩
  (repeat (first | exact Below.refl _ _ | assumption | refine Below.drew ?_ | refine Below.al ?_ _ | refine Below.setCell ?_ (by first | exact Nat.le_refl _ | (simp; omega) | (simp; done)) _ | refine Below.on ?_ (by assumption)))

theorem named6 {m : Mg} {w : World} (hk : m.k = 6) : Calls Tryd.prog 8 #[m.val] w fun e w' => e = .returned ({ pVerd 6 m with k := m.k } : Mg).val ∧ Below w.heap.size w w' :=
  way6 (hid (by rw [hk]; rfl)) (hid (by rw [hk]; rfl)) (hid (by rw [hk]; rfl)) (by rw [hk]; rfl) (by rw [hk]; rfl) (by rw [hk]; rfl) (by rw [hk]; rfl)

theorem named7 {m : Mg} {w : World} (hk : m.k = 7) : Calls Tryd.prog 8 #[m.val] w fun e w' => e = .returned ({ pVerd 7 m with k := m.k } : Mg).val ∧ Below w.heap.size w w' :=
  way6 (hid (by rw [hk]; rfl)) (hid (by rw [hk]; rfl)) (hid (by rw [hk]; rfl)) (by rw [hk]; rfl) (by rw [hk]; rfl) (by rw [hk]; rfl) (by rw [hk]; rfl)

theorem named9 {m : Mg} {w : World} (hk : m.k = 9) : Calls Tryd.prog 8 #[m.val] w fun e w' => e = .returned ({ pVerd 9 m with k := m.k } : Mg).val ∧ Below w.heap.size w w' :=
  way6 (hid (by rw [hk]; rfl)) (hid (by rw [hk]; rfl)) (hid (by rw [hk]; rfl)) (by rw [hk]; rfl) (by rw [hk]; rfl) (by rw [hk]; rfl) (by rw [hk]; rfl)

end Go.Proofs.YtoejdjiclgjgkaaDoor
