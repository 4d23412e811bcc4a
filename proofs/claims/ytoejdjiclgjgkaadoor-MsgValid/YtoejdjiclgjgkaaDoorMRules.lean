import Derived.Test.YtoejdjiclgjgkaaDoorMStatus
import Derived.Test.YtoejdjiclgjgkaaDoorMValids
namespace Go.Proofs.YtoejdjiclgjgkaaDoor
open Go.RowKit Go.Sort
set_option linter.unusedVariables false

set_option maxHeartbeats 4000000 in
set_option maxRecDepth 8000 in
theorem rules0 {m : Mg} {w : World} {u : Bool} (hk : m.k < 1 ∨ 9 < m.k) (hu : (true) = u) (hT : Tabs w) :
    Calls Tryd.prog 12 #[m.val] w fun e w' => e = .returned (.bool u) ∧ Below w.heap.size w w' := by
  have q1 : (m.k == 1) = false := by rw [beq_eq_false_iff_ne]; omega
  have q2 : (m.k == 2) = false := by rw [beq_eq_false_iff_ne]; omega
  have q3 : (m.k == 3) = false := by rw [beq_eq_false_iff_ne]; omega
  have q4 : (m.k == 4) = false := by rw [beq_eq_false_iff_ne]; omega
  have q6 : (m.k == 6) = false := by rw [beq_eq_false_iff_ne]; omega
  have q7 : (m.k == 7) = false := by rw [beq_eq_false_iff_ne]; omega
  have q9 : (m.k == 9) = false := by rw [beq_eq_false_iff_ne]; omega
  obtain ⟨z, hz⟩ : ∃ b, zeroSt m = b := ⟨_, rfl⟩
  have ez := run_eq0 hz
  have HT := hid hT
  obtain ⟨sd, hsd⟩ : ∃ b, said m.k m.st = b := ⟨_, rfl⟩
  have HSD := hid hsd
  have HU : Hid (true = u) := hu
  clear hT hz hsd hu hk
  go_enter Tryd.func12, Tryd.ntmps12
  go_wp2_with fail
  refine (status_is HSD.out (HT.out.later (Below.al (Below.refl _ _) _))).mono ?_
  rintro e w1 ⟨rfl, hw1⟩
  have hB := (boxM w m 35).later hw1
  replace hw1 := Below.on (Below.al (Below.refl _ _) _) hw1
  have c0 := hB.c0
  have HW := hid hw1
  clear hw1 hB ez
  all_goals go_wp2_with fail
  all_goals go_ret
  all_goals exact ⟨ret_bool (HU.out), HW.out⟩

set_option maxHeartbeats 4000000 in
set_option maxRecDepth 8000 in
theorem rules1 {m : Mg} {w : World} {u : Bool} (hk : m.k = 1) (hu : (decide (m.rs.length = 1)) = u) (hT : Tabs w) :
    Calls Tryd.prog 12 #[m.val] w fun e w' => e = .returned (.bool u) ∧ Below w.heap.size w w' := by
  have q1 : (m.k == 1) = true := by rw [hk]; rfl
  have q2 : (m.k == 2) = false := by rw [hk]; rfl
  have q3 : (m.k == 3) = false := by rw [hk]; rfl
  have q4 : (m.k == 4) = false := by rw [hk]; rfl
  have q6 : (m.k == 6) = false := by rw [hk]; rfl
  have q7 : (m.k == 7) = false := by rw [hk]; rfl
  have q9 : (m.k == 9) = false := by rw [hk]; rfl
  obtain ⟨z, hz⟩ : ∃ b, zeroSt m = b := ⟨_, rfl⟩
  have ez := run_eq0 hz
  have HT := hid hT
  obtain ⟨sd, hsd⟩ : ∃ b, said m.k m.st = b := ⟨_, rfl⟩
  have HSD := hid hsd
  have HU : Hid (decide (m.rs.length = 1) = u) := hu
  clear hT hz hsd hu hk
  go_enter Tryd.func12, Tryd.ntmps12
  go_wp2_with fail
  refine (status_is HSD.out (HT.out.later (Below.al (Below.refl _ _) _))).mono ?_
  rintro e w1 ⟨rfl, hw1⟩
  have hB := (boxM w m 35).later hw1
  replace hw1 := Below.on (Below.al (Below.refl _ _) _) hw1
  have c0 := hB.c0
  have c12 := hB.c12
  have HW := hid hw1
  clear hw1 hB ez
  all_goals go_wp2_with fail
  all_goals go_ret
  all_goals exact ⟨ret_bool (by rw [← HU.out, Bool.eq_iff_iff]; simp; try omega), HW.out⟩

set_option maxHeartbeats 4000000 in
set_option maxRecDepth 8000 in
theorem rules2 {m : Mg} {w : World} {u : Bool} (hk : m.k = 2) (hu : (dataS m.st && (m.st == 0 || decide (m.ps.length = 0))) = u) (hT : Tabs w) :
    Calls Tryd.prog 12 #[m.val] w fun e w' => e = .returned (.bool u) ∧ Below w.heap.size w w' := by
  have q1 : (m.k == 1) = false := by rw [hk]; rfl
  have q2 : (m.k == 2) = true := by rw [hk]; rfl
  have q3 : (m.k == 3) = false := by rw [hk]; rfl
  have q4 : (m.k == 4) = false := by rw [hk]; rfl
  have q6 : (m.k == 6) = false := by rw [hk]; rfl
  have q7 : (m.k == 7) = false := by rw [hk]; rfl
  have q9 : (m.k == 9) = false := by rw [hk]; rfl
  obtain ⟨z, hz⟩ : ∃ b, zeroSt m = b := ⟨_, rfl⟩
  have ez := run_eq0 hz
  have HT := hid hT
  obtain ⟨sd, hsd⟩ : ∃ b, said m.k m.st = b := ⟨_, rfl⟩
  have HSD := hid hsd
  obtain ⟨b2, h2⟩ : ∃ b, (m.st == 0) = b := ⟨_, rfl⟩
  obtain ⟨b3, h3⟩ : ∃ b, decide (m.ps.length = 0) = b := ⟨_, rfl⟩
  have h3' : ((m.ps.length : Int) == 0) = b3 := by rw [← h3, Bool.eq_iff_iff]; simp
  have HU : Hid ((sd && (b2 || b3)) = u) := by
    show _ = _
    rw [← hu, ← hsd, said, hk, h2, h3]; simp
  clear h3
  clear hT hz hsd hu hk
  go_enter Tryd.func12, Tryd.ntmps12
  go_wp2_with fail
  refine (status_is HSD.out (HT.out.later (Below.al (Below.refl _ _) _))).mono ?_
  rintro e w1 ⟨rfl, hw1⟩
  have hB := (boxM w m 35).later hw1
  replace hw1 := Below.on (Below.al (Below.refl _ _) _) hw1
  have c0 := hB.c0
  have c10 := hB.c10
  have c14 := hB.c14
  have HW := hid hw1
  clear hw1 hB ez
  cases sd
  all_goals cases b2
  all_goals go_wp2_with fail
  all_goals go_ret
  all_goals exact ⟨ret_bool (by rw [← HU.out]; simp), HW.out⟩

set_option maxHeartbeats 4000000 in
set_option maxRecDepth 8000 in
theorem rules3 {m : Mg} {w : World} {u : Bool} (hk : m.k = 3) (hu : (decide (0 < m.rs.length) || decide (0 < m.ws.length)) = u) (hT : Tabs w) :
    Calls Tryd.prog 12 #[m.val] w fun e w' => e = .returned (.bool u) ∧ Below w.heap.size w w' := by
  have q1 : (m.k == 1) = false := by rw [hk]; rfl
  have q2 : (m.k == 2) = false := by rw [hk]; rfl
  have q3 : (m.k == 3) = true := by rw [hk]; rfl
  have q4 : (m.k == 4) = false := by rw [hk]; rfl
  have q6 : (m.k == 6) = false := by rw [hk]; rfl
  have q7 : (m.k == 7) = false := by rw [hk]; rfl
  have q9 : (m.k == 9) = false := by rw [hk]; rfl
  obtain ⟨z, hz⟩ : ∃ b, zeroSt m = b := ⟨_, rfl⟩
  have ez := run_eq0 hz
  have HT := hid hT
  obtain ⟨sd, hsd⟩ : ∃ b, said m.k m.st = b := ⟨_, rfl⟩
  have HSD := hid hsd
  obtain ⟨b2, h2⟩ : ∃ b, decide (0 < m.rs.length) = b := ⟨_, rfl⟩
  obtain ⟨b3, h3⟩ : ∃ b, decide (0 < m.ws.length) = b := ⟨_, rfl⟩
  have HU : Hid ((b2 || b3) = u) := by
    show _ = _
    rw [← hu, h2, h3]
  clear hT hz hsd hu hk
  go_enter Tryd.func12, Tryd.ntmps12
  go_wp2_with fail
  refine (status_is HSD.out (HT.out.later (Below.al (Below.refl _ _) _))).mono ?_
  rintro e w1 ⟨rfl, hw1⟩
  have hB := (boxM w m 35).later hw1
  replace hw1 := Below.on (Below.al (Below.refl _ _) _) hw1
  have c0 := hB.c0
  have c12 := hB.c12
  have c13 := hB.c13
  have HW := hid hw1
  clear hw1 hB ez
  cases b2
  all_goals go_wp2_with fail
  all_goals go_ret
  all_goals exact ⟨ret_bool (by rw [← HU.out]; simp), HW.out⟩

set_option maxHeartbeats 4000000 in
set_option maxRecDepth 8000 in
theorem rules4 {m : Mg} {w : World} {u : Bool} (hk : m.k = 4) (hu : (voteS m.st && (m.st == 0 || zeroSt m)) = u) (hT : Tabs w) :
    Calls Tryd.prog 12 #[m.val] w fun e w' => e = .returned (.bool u) ∧ Below w.heap.size w w' := by
  have q1 : (m.k == 1) = false := by rw [hk]; rfl
  have q2 : (m.k == 2) = false := by rw [hk]; rfl
  have q3 : (m.k == 3) = false := by rw [hk]; rfl
  have q4 : (m.k == 4) = true := by rw [hk]; rfl
  have q6 : (m.k == 6) = false := by rw [hk]; rfl
  have q7 : (m.k == 7) = false := by rw [hk]; rfl
  have q9 : (m.k == 9) = false := by rw [hk]; rfl
  obtain ⟨z, hz⟩ : ∃ b, zeroSt m = b := ⟨_, rfl⟩
  have ez := run_eq0 hz
  have HT := hid hT
  obtain ⟨sd, hsd⟩ : ∃ b, said m.k m.st = b := ⟨_, rfl⟩
  have HSD := hid hsd
  obtain ⟨b2, h2⟩ : ∃ b, (m.st == 0) = b := ⟨_, rfl⟩
  have HU : Hid ((sd && (b2 || z)) = u) := by
    show _ = _
    rw [← hu, ← hsd, said, hk, h2, hz]; simp
  clear hT hz hsd hu hk
  go_enter Tryd.func12, Tryd.ntmps12
  go_wp2_with fail
  refine (status_is HSD.out (HT.out.later (Below.al (Below.refl _ _) _))).mono ?_
  rintro e w1 ⟨rfl, hw1⟩
  have hB := (boxM w m 35).later hw1
  replace hw1 := Below.on (Below.al (Below.refl _ _) _) hw1
  have c0 := hB.c0
  have c10 := hB.c10
  have HW := hid hw1
  clear hw1 hB ez
  cases sd
  all_goals cases b2
  all_goals go_wp2_with fail
  all_goals go_ret
  all_goals exact ⟨ret_bool (by rw [← HU.out]; simp), HW.out⟩

set_option maxHeartbeats 4000000 in
set_option maxRecDepth 8000 in
theorem rules6 {m : Mg} {w : World} {u : Bool} (hk : m.k = 6) (hu : (m.oc == 1 || (m.oc == 2 && zeroSt m)) = u) (hT : Tabs w) :
    Calls Tryd.prog 12 #[m.val] w fun e w' => e = .returned (.bool u) ∧ Below w.heap.size w w' := by
  have q1 : (m.k == 1) = false := by rw [hk]; rfl
  have q2 : (m.k == 2) = false := by rw [hk]; rfl
  have q3 : (m.k == 3) = false := by rw [hk]; rfl
  have q4 : (m.k == 4) = false := by rw [hk]; rfl
  have q6 : (m.k == 6) = true := by rw [hk]; rfl
  have q7 : (m.k == 7) = false := by rw [hk]; rfl
  have q9 : (m.k == 9) = false := by rw [hk]; rfl
  obtain ⟨z, hz⟩ : ∃ b, zeroSt m = b := ⟨_, rfl⟩
  have ez := run_eq0 hz
  have HT := hid hT
  obtain ⟨sd, hsd⟩ : ∃ b, said m.k m.st = b := ⟨_, rfl⟩
  have HSD := hid hsd
  obtain ⟨b2, h2⟩ : ∃ b, (m.oc == 1) = b := ⟨_, rfl⟩
  obtain ⟨b3, h3⟩ : ∃ b, (m.oc == 2) = b := ⟨_, rfl⟩
  have HU : Hid ((b2 || (b3 && z)) = u) := by
    show _ = _
    rw [← hu, h2, h3, hz]
  clear hT hz hsd hu hk
  go_enter Tryd.func12, Tryd.ntmps12
  go_wp2_with fail
  refine (status_is HSD.out (HT.out.later (Below.al (Below.refl _ _) _))).mono ?_
  rintro e w1 ⟨rfl, hw1⟩
  have hB := (boxM w m 35).later hw1
  replace hw1 := Below.on (Below.al (Below.refl _ _) _) hw1
  have c0 := hB.c0
  have c11 := hB.c11
  have HW := hid hw1
  clear hw1 hB ez
  cases b2
  all_goals cases b3
  all_goals go_wp2_with fail
  all_goals go_ret
  all_goals exact ⟨ret_bool (by rw [← HU.out]; simp), HW.out⟩

set_option maxHeartbeats 4000000 in
set_option maxRecDepth 8000 in
theorem rules7 {m : Mg} {w : World} {u : Bool} (hk : m.k = 7) (hu : (m.oc == 1 || (m.oc == 2 && zeroSt m)) = u) (hT : Tabs w) :
    Calls Tryd.prog 12 #[m.val] w fun e w' => e = .returned (.bool u) ∧ Below w.heap.size w w' := by
  have q1 : (m.k == 1) = false := by rw [hk]; rfl
  have q2 : (m.k == 2) = false := by rw [hk]; rfl
  have q3 : (m.k == 3) = false := by rw [hk]; rfl
  have q4 : (m.k == 4) = false := by rw [hk]; rfl
  have q6 : (m.k == 6) = false := by rw [hk]; rfl
  have q7 : (m.k == 7) = true := by rw [hk]; rfl
  have q9 : (m.k == 9) = false := by rw [hk]; rfl
  obtain ⟨z, hz⟩ : ∃ b, zeroSt m = b := ⟨_, rfl⟩
  have ez := run_eq0 hz
  have HT := hid hT
  obtain ⟨sd, hsd⟩ : ∃ b, said m.k m.st = b := ⟨_, rfl⟩
  have HSD := hid hsd
  obtain ⟨b2, h2⟩ : ∃ b, (m.oc == 1) = b := ⟨_, rfl⟩
  obtain ⟨b3, h3⟩ : ∃ b, (m.oc == 2) = b := ⟨_, rfl⟩
  have HU : Hid ((b2 || (b3 && z)) = u) := by
    show _ = _
    rw [← hu, h2, h3, hz]
  clear hT hz hsd hu hk
  go_enter Tryd.func12, Tryd.ntmps12
  go_wp2_with fail
  refine (status_is HSD.out (HT.out.later (Below.al (Below.refl _ _) _))).mono ?_
  rintro e w1 ⟨rfl, hw1⟩
  have hB := (boxM w m 35).later hw1
  replace hw1 := Below.on (Below.al (Below.refl _ _) _) hw1
  have c0 := hB.c0
  have c11 := hB.c11
  have HW := hid hw1
  clear hw1 hB ez
  cases b2
  all_goals cases b3
  all_goals go_wp2_with fail
  all_goals go_ret
  all_goals exact ⟨ret_bool (by rw [← HU.out]; simp), HW.out⟩

set_option maxHeartbeats 4000000 in
set_option maxRecDepth 8000 in
theorem rules9 {m : Mg} {w : World} {u : Bool} (hk : m.k = 9) (hu : (m.oc == 1 || (m.oc == 2 && zeroSt m)) = u) (hT : Tabs w) :
    Calls Tryd.prog 12 #[m.val] w fun e w' => e = .returned (.bool u) ∧ Below w.heap.size w w' := by
  have q1 : (m.k == 1) = false := by rw [hk]; rfl
  have q2 : (m.k == 2) = false := by rw [hk]; rfl
  have q3 : (m.k == 3) = false := by rw [hk]; rfl
  have q4 : (m.k == 4) = false := by rw [hk]; rfl
  have q6 : (m.k == 6) = false := by rw [hk]; rfl
  have q7 : (m.k == 7) = false := by rw [hk]; rfl
  have q9 : (m.k == 9) = true := by rw [hk]; rfl
  obtain ⟨z, hz⟩ : ∃ b, zeroSt m = b := ⟨_, rfl⟩
  have ez := run_eq0 hz
  have HT := hid hT
  obtain ⟨sd, hsd⟩ : ∃ b, said m.k m.st = b := ⟨_, rfl⟩
  have HSD := hid hsd
  obtain ⟨b2, h2⟩ : ∃ b, (m.oc == 1) = b := ⟨_, rfl⟩
  obtain ⟨b3, h3⟩ : ∃ b, (m.oc == 2) = b := ⟨_, rfl⟩
  have HU : Hid ((b2 || (b3 && z)) = u) := by
    show _ = _
    rw [← hu, h2, h3, hz]
  clear hT hz hsd hu hk
  go_enter Tryd.func12, Tryd.ntmps12
  go_wp2_with fail
  refine (status_is HSD.out (HT.out.later (Below.al (Below.refl _ _) _))).mono ?_
  rintro e w1 ⟨rfl, hw1⟩
  have hB := (boxM w m 35).later hw1
  replace hw1 := Below.on (Below.al (Below.refl _ _) _) hw1
  have c0 := hB.c0
  have c11 := hB.c11
  have HW := hid hw1
  clear hw1 hB ez
  cases b2
  all_goals cases b3
  all_goals go_wp2_with fail
  all_goals go_ret
  all_goals exact ⟨ret_bool (by rw [← HU.out]; simp), HW.out⟩

set_option maxHeartbeats 4000000 in
set_option maxRecDepth 8000 in
theorem rules5 {m : Mg} {w : World} {u : Bool} (hk : m.k = 5) (hu : (true) = u) (hT : Tabs w) :
    Calls Tryd.prog 12 #[m.val] w fun e w' => e = .returned (.bool u) ∧ Below w.heap.size w w' := by
  have q1 : (m.k == 1) = false := by rw [hk]; rfl
  have q2 : (m.k == 2) = false := by rw [hk]; rfl
  have q3 : (m.k == 3) = false := by rw [hk]; rfl
  have q4 : (m.k == 4) = false := by rw [hk]; rfl
  have q6 : (m.k == 6) = false := by rw [hk]; rfl
  have q7 : (m.k == 7) = false := by rw [hk]; rfl
  have q9 : (m.k == 9) = false := by rw [hk]; rfl
  obtain ⟨z, hz⟩ : ∃ b, zeroSt m = b := ⟨_, rfl⟩
  have ez := run_eq0 hz
  have HT := hid hT
  obtain ⟨sd, hsd⟩ : ∃ b, said m.k m.st = b := ⟨_, rfl⟩
  have HSD := hid hsd
  have HU : Hid (true = u) := hu
  clear hT hz hsd hu hk
  go_enter Tryd.func12, Tryd.ntmps12
  go_wp2_with fail
  refine (status_is HSD.out (HT.out.later (Below.al (Below.refl _ _) _))).mono ?_
  rintro e w1 ⟨rfl, hw1⟩
  have hB := (boxM w m 35).later hw1
  replace hw1 := Below.on (Below.al (Below.refl _ _) _) hw1
  have c0 := hB.c0
  have HW := hid hw1
  clear hw1 hB ez
  all_goals go_wp2_with fail
  all_goals go_ret
  all_goals exact ⟨ret_bool (HU.out), HW.out⟩

set_option maxHeartbeats 4000000 in
set_option maxRecDepth 8000 in
theorem rules8 {m : Mg} {w : World} {u : Bool} (hk : m.k = 8) (hu : (true) = u) (hT : Tabs w) :
    Calls Tryd.prog 12 #[m.val] w fun e w' => e = .returned (.bool u) ∧ Below w.heap.size w w' := by
  have q1 : (m.k == 1) = false := by rw [hk]; rfl
  have q2 : (m.k == 2) = false := by rw [hk]; rfl
  have q3 : (m.k == 3) = false := by rw [hk]; rfl
  have q4 : (m.k == 4) = false := by rw [hk]; rfl
  have q6 : (m.k == 6) = false := by rw [hk]; rfl
  have q7 : (m.k == 7) = false := by rw [hk]; rfl
  have q9 : (m.k == 9) = false := by rw [hk]; rfl
  obtain ⟨z, hz⟩ : ∃ b, zeroSt m = b := ⟨_, rfl⟩
  have ez := run_eq0 hz
  have HT := hid hT
  obtain ⟨sd, hsd⟩ : ∃ b, said m.k m.st = b := ⟨_, rfl⟩
  have HSD := hid hsd
  have HU : Hid (true = u) := hu
  clear hT hz hsd hu hk
  go_enter Tryd.func12, Tryd.ntmps12
  go_wp2_with fail
  refine (status_is HSD.out (HT.out.later (Below.al (Below.refl _ _) _))).mono ?_
  rintro e w1 ⟨rfl, hw1⟩
  have hB := (boxM w m 35).later hw1
  replace hw1 := Below.on (Below.al (Below.refl _ _) _) hw1
  have c0 := hB.c0
  have HW := hid hw1
  clear hw1 hB ez
  all_goals go_wp2_with fail
  all_goals go_ret
  all_goals exact ⟨ret_bool (HU.out), HW.out⟩

end Go.Proofs.YtoejdjiclgjgkaaDoor
