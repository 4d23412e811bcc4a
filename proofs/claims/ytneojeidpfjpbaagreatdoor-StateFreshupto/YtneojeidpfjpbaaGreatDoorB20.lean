import Derived.Test.YtneojeidpfjpbaaGreatDoorB19
import Derived.Test.YtneojeidpfjpbaaGreatDoorB18
set_option linter.unusedVariables false
set_option maxHeartbeats 4000000
namespace Go.Proofs.YtneojeidpfjpbaaGreatDoor
open Go.RowKit Go.Sort
theorem bare_1 {m : Rg} (hk : m.k = 1) (w : World) :
  Calls Tryz.prog 52 #[m.val] w fun e w' => e = .returned m.bare.val ∧ Below w.heap.size w w' := by
 have q1 : (m.k == 1) = true := by rw [hk]; rfl
 have hv : m.bare.val = .agg #[.int .i64 m.k, .int .u64 (0), .int .u32 (m.c), .int .u32 (m.s), .int .u32 (m.h), .int .i64 (m.oc), .int .u64 (m.w), .int .u32 (m.l), .int .u32 (m.n), .slice m.ra m.rs.length m.rc, .slice m.wa m.ws.length m.wc, .string m.im] := by
  have : m.bare = { m with x := 0 } := by unfold Rg.bare; rw [if_pos hk]
  exact congrArg Rg.val this
 rw [hv]; clear hv hk; go_enter Tryz.func52, Tryz.ntmps52
 go_wp2_with fail
 refine bodyPost_ret (v := .agg #[.int .i64 m.k, .int .u64 (0), .int .u32 (m.c), .int .u32 (m.s), .int .u32 (m.h), .int .i64 (m.oc), .int .u64 (m.w), .int .u32 (m.l), .int .u32 (m.n), .slice m.ra m.rs.length m.rc, .slice m.wa m.ws.length m.wc, .string m.im]) (by simp [results, Tryz.results52, go_sem]) rfl ⟨rfl, ?_⟩
 (repeat (first | exact Below.refl _ _ | assumption | refine Below.drew ?_ | refine Below.al ?_ _ | refine Below.setCell ?_ (by first | exact Nat.le_refl _ | (simp; omega) | (simp; done)) _ | refine Below.on ?_ (by assumption)))
theorem bare_2 {m : Rg} (hk : m.k = 2) (w : World) :
  Calls Tryz.prog 52 #[m.val] w fun e w' => e = .returned m.bare.val ∧ Below w.heap.size w w' := by
 have q1 : (m.k == 1) = false := by rw [hk]; rfl
 have q2 : (m.k == 2) = true := by rw [hk]; rfl
 have hv : m.bare.val = .agg #[.int .i64 m.k, .int .u64 (m.x), .int .u32 (0), .int .u32 (0), .int .u32 (0), .int .i64 (m.oc), .int .u64 (0), .int .u32 (0), .int .u32 (0), .slice none 0 0, .slice none 0 0, .string m.im] := by
  have : m.bare = { m with c := 0, s := 0, h := 0, w := 0, l := 0, n := 0, ra := none, rs := [], rc := 0, wa := none, ws := [], wc := 0 } := by unfold Rg.bare; rw [if_neg (by rw [hk]; decide), if_pos hk]
  exact congrArg Rg.val this
 rw [hv]; clear hv hk; go_enter Tryz.func52, Tryz.ntmps52
 go_wp2_with fail
 refine bodyPost_ret (v := .agg #[.int .i64 m.k, .int .u64 (m.x), .int .u32 (0), .int .u32 (0), .int .u32 (0), .int .i64 (m.oc), .int .u64 (0), .int .u32 (0), .int .u32 (0), .slice none 0 0, .slice none 0 0, .string m.im]) (by simp [results, Tryz.results52, go_sem]) rfl ⟨rfl, ?_⟩
 (repeat (first | exact Below.refl _ _ | assumption | refine Below.drew ?_ | refine Below.al ?_ _ | refine Below.setCell ?_ (by first | exact Nat.le_refl _ | (simp; omega) | (simp; done)) _ | refine Below.on ?_ (by assumption)))
theorem bare_3 {m : Rg} (hk : m.k = 3) (w : World) :
  Calls Tryz.prog 52 #[m.val] w fun e w' => e = .returned m.bare.val ∧ Below w.heap.size w w' := by
 have q1 : (m.k == 1) = false := by rw [hk]; rfl
 have q2 : (m.k == 2) = false := by rw [hk]; rfl
 have q3 : (m.k == 3) = true := by rw [hk]; rfl
 have hv : m.bare.val = .agg #[.int .i64 m.k, .int .u64 (m.x), .int .u32 (0), .int .u32 (0), .int .u32 (0), .int .i64 (0), .int .u64 (0), .int .u32 (0), .int .u32 (0), .slice m.ra m.rs.length m.rc, .slice m.wa m.ws.length m.wc, .string m.im] := by
  have : m.bare = { m with c := 0, s := 0, h := 0, oc := 0, w := 0, l := 0, n := 0 } := by unfold Rg.bare; rw [if_neg (by rw [hk]; decide), if_neg (by rw [hk]; decide), if_pos hk]
  exact congrArg Rg.val this
 rw [hv]; clear hv hk; go_enter Tryz.func52, Tryz.ntmps52
 go_wp2_with fail
 refine bodyPost_ret (v := .agg #[.int .i64 m.k, .int .u64 (m.x), .int .u32 (0), .int .u32 (0), .int .u32 (0), .int .i64 (0), .int .u64 (0), .int .u32 (0), .int .u32 (0), .slice m.ra m.rs.length m.rc, .slice m.wa m.ws.length m.wc, .string m.im]) (by simp [results, Tryz.results52, go_sem]) rfl ⟨rfl, ?_⟩
 (repeat (first | exact Below.refl _ _ | assumption | refine Below.drew ?_ | refine Below.al ?_ _ | refine Below.setCell ?_ (by first | exact Nat.le_refl _ | (simp; omega) | (simp; done)) _ | refine Below.on ?_ (by assumption)))
theorem bare_4 {m : Rg} (hk : m.k = 4) (w : World) :
  Calls Tryz.prog 52 #[m.val] w fun e w' => e = .returned m.bare.val ∧ Below w.heap.size w w' := by
 have q1 : (m.k == 1) = false := by rw [hk]; rfl
 have q2 : (m.k == 2) = false := by rw [hk]; rfl
 have q3 : (m.k == 3) = false := by rw [hk]; rfl
 have q4 : (m.k == 4) = true := by rw [hk]; rfl
 have hv : m.bare.val = .agg #[.int .i64 m.k, .int .u64 (m.x), .int .u32 (m.c), .int .u32 (m.s), .int .u32 (m.h), .int .i64 (m.oc), .int .u64 (0), .int .u32 (0), .int .u32 (0), .slice m.ra m.rs.length m.rc, .slice m.wa m.ws.length m.wc, .string m.im] := by
  have : m.bare = { m with w := 0, l := 0, n := 0 } := by unfold Rg.bare; rw [if_neg (by rw [hk]; decide), if_neg (by rw [hk]; decide), if_neg (by rw [hk]; decide), if_pos hk]
  exact congrArg Rg.val this
 rw [hv]; clear hv hk; go_enter Tryz.func52, Tryz.ntmps52
 go_wp2_with fail
 refine bodyPost_ret (v := .agg #[.int .i64 m.k, .int .u64 (m.x), .int .u32 (m.c), .int .u32 (m.s), .int .u32 (m.h), .int .i64 (m.oc), .int .u64 (0), .int .u32 (0), .int .u32 (0), .slice m.ra m.rs.length m.rc, .slice m.wa m.ws.length m.wc, .string m.im]) (by simp [results, Tryz.results52, go_sem]) rfl ⟨rfl, ?_⟩
 (repeat (first | exact Below.refl _ _ | assumption | refine Below.drew ?_ | refine Below.al ?_ _ | refine Below.setCell ?_ (by first | exact Nat.le_refl _ | (simp; omega) | (simp; done)) _ | refine Below.on ?_ (by assumption)))
theorem bare_5 {m : Rg} (hk : m.k = 5) (w : World) :
  Calls Tryz.prog 52 #[m.val] w fun e w' => e = .returned m.bare.val ∧ Below w.heap.size w w' := by
 have q1 : (m.k == 1) = false := by rw [hk]; rfl
 have q2 : (m.k == 2) = false := by rw [hk]; rfl
 have q3 : (m.k == 3) = false := by rw [hk]; rfl
 have q4 : (m.k == 4) = false := by rw [hk]; rfl
 have q5 : (m.k == 5) = true := by rw [hk]; rfl
 have hv : m.bare.val = .agg #[.int .i64 m.k, .int .u64 (m.x), .int .u32 (m.c), .int .u32 (m.s), .int .u32 (m.h), .int .i64 (m.oc), .int .u64 (m.w), .int .u32 (m.l), .int .u32 (m.n), .slice m.ra m.rs.length m.rc, .slice m.wa m.ws.length m.wc, .string ⟨#[]⟩] := by
  have : m.bare = { m with im := ⟨#[]⟩ } := by unfold Rg.bare; rw [if_neg (by rw [hk]; decide), if_neg (by rw [hk]; decide), if_neg (by rw [hk]; decide), if_neg (by rw [hk]; decide), if_pos hk]
  exact congrArg Rg.val this
 rw [hv]; clear hv hk; go_enter Tryz.func52, Tryz.ntmps52
 go_wp2_with fail
 refine bodyPost_ret (v := .agg #[.int .i64 m.k, .int .u64 (m.x), .int .u32 (m.c), .int .u32 (m.s), .int .u32 (m.h), .int .i64 (m.oc), .int .u64 (m.w), .int .u32 (m.l), .int .u32 (m.n), .slice m.ra m.rs.length m.rc, .slice m.wa m.ws.length m.wc, .string ⟨#[]⟩]) (by simp [results, Tryz.results52, go_sem]) rfl ⟨rfl, ?_⟩
 (repeat (first | exact Below.refl _ _ | assumption | refine Below.drew ?_ | refine Below.al ?_ _ | refine Below.setCell ?_ (by first | exact Nat.le_refl _ | (simp; omega) | (simp; done)) _ | refine Below.on ?_ (by assumption)))
theorem bare_0 {m : Rg} (g1 : m.k ≠ 1) (g2 : m.k ≠ 2) (g3 : m.k ≠ 3) (g4 : m.k ≠ 4) (g5 : m.k ≠ 5) (w : World) :
  Calls Tryz.prog 52 #[m.val] w fun e w' => e = .returned m.bare.val ∧ Below w.heap.size w w' := by
 have q1 : (m.k == 1) = false := beq_eq_false_iff_ne.2 g1; have q2 : (m.k == 2) = false := beq_eq_false_iff_ne.2 g2; have q3 : (m.k == 3) = false := beq_eq_false_iff_ne.2 g3; have q4 : (m.k == 4) = false := beq_eq_false_iff_ne.2 g4; have q5 : (m.k == 5) = false := beq_eq_false_iff_ne.2 g5; have hv : m.bare.val = .agg #[.int .i64 m.k, .int .u64 (m.x), .int .u32 (m.c), .int .u32 (m.s), .int .u32 (m.h), .int .i64 (m.oc), .int .u64 (m.w), .int .u32 (m.l), .int .u32 (m.n), .slice m.ra m.rs.length m.rc, .slice m.wa m.ws.length m.wc, .string m.im] := by
  have : m.bare = m := by unfold Rg.bare; rw [if_neg g1, if_neg g2, if_neg g3, if_neg g4, if_neg g5]
  exact congrArg Rg.val this
 rw [hv]; clear hv g1 g2 g3 g4 g5; go_enter Tryz.func52, Tryz.ntmps52
 go_wp2_with fail
 refine bodyPost_ret (v := .agg #[.int .i64 m.k, .int .u64 (m.x), .int .u32 (m.c), .int .u32 (m.s), .int .u32 (m.h), .int .i64 (m.oc), .int .u64 (m.w), .int .u32 (m.l), .int .u32 (m.n), .slice m.ra m.rs.length m.rc, .slice m.wa m.ws.length m.wc, .string m.im]) (by simp [results, Tryz.results52, go_sem]) rfl ⟨rfl, ?_⟩
 (repeat (first | exact Below.refl _ _ | assumption | refine Below.drew ?_ | refine Below.al ?_ _ | refine Below.setCell ?_ (by first | exact Nat.le_refl _ | (simp; omega) | (simp; done)) _ | refine Below.on ?_ (by assumption)))
theorem bare_is (m : Rg) (w : World) : Calls Tryz.prog 52 #[m.val] w fun e w' => e = .returned m.bare.val ∧ Below w.heap.size w w' := by
 by_cases g1 : m.k = 1
 ·exact bare_1 g1 w
 by_cases g2 : m.k = 2
 ·exact bare_2 g2 w
 by_cases g3 : m.k = 3
 ·exact bare_3 g3 w
 by_cases g4 : m.k = 4
 ·exact bare_4 g4 w
 by_cases g5 : m.k = 5
 ·exact bare_5 g5 w
 exact bare_0 g1 g2 g3 g4 g5 w
theorem may_1 {m : Rg} {w : World} (h : m.ok w) (hk : m.k = 1) :
  Calls Tryz.prog 50 #[m.val] w fun e w' => e = .returned (.bool (true)) ∧ Below w.heap.size w w' := by
 have q1 : (m.k == 1) = true := by rw [hk]; rfl
 clear hk; obtain ⟨wa, hwa⟩ : ∃ wa, wa = w.alloc (.cells m.cells 43) := ⟨_, rfl⟩; have hba : Below w.heap.size w wa := by rw [hwa]; exact Below.al (Below.refl _ _) _
 have hbx : BoxG wa w.heap.size m := by rw [hwa]; exact boxG w m _
 have HOK := hid (h.later hba); have HB := hid hbx; have HBA := hid hba; have HW := hid hwa; have c0 := HB.out.c0; have c1 := HB.out.c1; have c2 := HB.out.c2; have c3 := HB.out.c3; have c4 := HB.out.c4; have c5 := HB.out.c5; have c6 := HB.out.c6; have c7 := HB.out.c7; have c8 := HB.out.c8; have c9 := HB.out.c9; have c10 := HB.out.c10; have c11 := HB.out.c11
 clear h hba hbx hwa; go_enter Tryz.func50, Tryz.ntmps50
 go_wp2_with fail
 go_ret
 exact ⟨ret_bool (by simp), by rw [← HW.out]; exact HBA.out⟩
theorem may_0 {m : Rg} {w : World} (h : m.ok w) (g1 : m.k ≠ 1) (g2 : m.k ≠ 2) (g3 : m.k ≠ 3) (g4 : m.k ≠ 4) (g5 : m.k ≠ 5) :
  Calls Tryz.prog 50 #[m.val] w fun e w' => e = .returned (.bool (false)) ∧ Below w.heap.size w w' := by
 have q1 : (m.k == 1) = false := beq_eq_false_iff_ne.2 g1; have q2 : (m.k == 2) = false := beq_eq_false_iff_ne.2 g2; have q3 : (m.k == 3) = false := beq_eq_false_iff_ne.2 g3; have q4 : (m.k == 4) = false := beq_eq_false_iff_ne.2 g4; have q5 : (m.k == 5) = false := beq_eq_false_iff_ne.2 g5; clear g1 g2 g3 g4 g5; obtain ⟨wa, hwa⟩ : ∃ wa, wa = w.alloc (.cells m.cells 43) := ⟨_, rfl⟩; have hba : Below w.heap.size w wa := by rw [hwa]; exact Below.al (Below.refl _ _) _
 have hbx : BoxG wa w.heap.size m := by rw [hwa]; exact boxG w m _
 have HOK := hid (h.later hba); have HB := hid hbx; have HBA := hid hba; have HW := hid hwa; have c0 := HB.out.c0; have c1 := HB.out.c1; have c2 := HB.out.c2; have c3 := HB.out.c3; have c4 := HB.out.c4; have c5 := HB.out.c5; have c6 := HB.out.c6; have c7 := HB.out.c7; have c8 := HB.out.c8; have c9 := HB.out.c9; have c10 := HB.out.c10; have c11 := HB.out.c11
 clear h hba hbx hwa; go_enter Tryz.func50, Tryz.ntmps50
 go_wp2_with fail
 go_ret
 exact ⟨ret_bool (by simp), by rw [← HW.out]; exact HBA.out⟩
theorem may_5 {m : Rg} {w : World} (h : m.ok w) (hk : m.k = 5) :
  Calls Tryz.prog 50 #[m.val] w fun e w' => e = .returned (.bool (decide (m.im.size ≤ 1048560))) ∧ Below w.heap.size w w' := by
 have q1 : (m.k == 1) = false := by rw [hk]; rfl
 have q2 : (m.k == 2) = false := by rw [hk]; rfl
 have q3 : (m.k == 3) = false := by rw [hk]; rfl
 have q4 : (m.k == 4) = false := by rw [hk]; rfl
 have q5 : (m.k == 5) = true := by rw [hk]; rfl
 clear hk; obtain ⟨wa, hwa⟩ : ∃ wa, wa = w.alloc (.cells m.cells 43) := ⟨_, rfl⟩; have hba : Below w.heap.size w wa := by rw [hwa]; exact Below.al (Below.refl _ _) _
 have hbx : BoxG wa w.heap.size m := by rw [hwa]; exact boxG w m _
 have HOK := hid (h.later hba); have HB := hid hbx; have HBA := hid hba; have HW := hid hwa; have c0 := HB.out.c0; have c1 := HB.out.c1; have c2 := HB.out.c2; have c3 := HB.out.c3; have c4 := HB.out.c4; have c5 := HB.out.c5; have c6 := HB.out.c6; have c7 := HB.out.c7; have c8 := HB.out.c8; have c9 := HB.out.c9; have c10 := HB.out.c10; have c11 := HB.out.c11
 clear h hba hbx hwa; go_enter Tryz.func50, Tryz.ntmps50
 go_wp2_with fail
 go_ret
 exact ⟨ret_bool (by rw [Bool.eq_iff_iff, decide_eq_true_iff, decide_eq_true_iff]; omega), by rw [← HW.out]; exact HBA.out⟩
theorem may_4 {m : Rg} {w : World} (h : m.ok w) (hk : m.k = 4) :
  Calls Tryz.prog 50 #[m.val] w fun e w' => e = .returned (.bool (decide (m.w < 18446744073709551615))) ∧ Below w.heap.size w w' := by
 have q1 : (m.k == 1) = false := by rw [hk]; rfl
 have q2 : (m.k == 2) = false := by rw [hk]; rfl
 have q3 : (m.k == 3) = false := by rw [hk]; rfl
 have q4 : (m.k == 4) = true := by rw [hk]; rfl
 clear hk; obtain ⟨wa, hwa⟩ : ∃ wa, wa = w.alloc (.cells m.cells 43) := ⟨_, rfl⟩; have hba : Below w.heap.size w wa := by rw [hwa]; exact Below.al (Below.refl _ _) _
 have hbx : BoxG wa w.heap.size m := by rw [hwa]; exact boxG w m _
 have HOK := hid (h.later hba); have HB := hid hbx; have HBA := hid hba; have HW := hid hwa; have c0 := HB.out.c0; have c1 := HB.out.c1; have c2 := HB.out.c2; have c3 := HB.out.c3; have c4 := HB.out.c4; have c5 := HB.out.c5; have c6 := HB.out.c6; have c7 := HB.out.c7; have c8 := HB.out.c8; have c9 := HB.out.c9; have c10 := HB.out.c10; have c11 := HB.out.c11
 clear h hba hbx hwa; go_enter Tryz.func50, Tryz.ntmps50
 go_wp2_with fail
 rw [← HW.out]; refine (usable_is _).mono ?_; rintro e w1 ⟨rfl, hw1⟩; go_wp2_with fail
 go_ret
 exact ⟨ret_bool (by simp), Below.on HBA.out hw1⟩
theorem may_3 {m : Rg} {w : World} (h : m.ok w) (hk : m.k = 3) :
  Calls Tryz.prog 50 #[m.val] w fun e w' => e = .returned (.bool (decide (1 ≤ m.s) && verdOk m)) ∧ Below w.heap.size w w' := by
 have q1 : (m.k == 1) = false := by rw [hk]; rfl
 have q2 : (m.k == 2) = false := by rw [hk]; rfl
 have q3 : (m.k == 3) = true := by rw [hk]; rfl
 clear hk; obtain ⟨wa, hwa⟩ : ∃ wa, wa = w.alloc (.cells m.cells 43) := ⟨_, rfl⟩; have hba : Below w.heap.size w wa := by rw [hwa]; exact Below.al (Below.refl _ _) _
 have hbx : BoxG wa w.heap.size m := by rw [hwa]; exact boxG w m _
 have HOK := hid (h.later hba); have HB := hid hbx; have HBA := hid hba; have HW := hid hwa; have c0 := HB.out.c0; have c1 := HB.out.c1; have c2 := HB.out.c2; have c3 := HB.out.c3; have c4 := HB.out.c4; have c5 := HB.out.c5; have c6 := HB.out.c6; have c7 := HB.out.c7; have c8 := HB.out.c8; have c9 := HB.out.c9; have c10 := HB.out.c10; have c11 := HB.out.c11
 clear h hba hbx hwa; obtain ⟨b1, h1⟩ : ∃ b, decide (1 ≤ m.s) = b := ⟨_, rfl⟩; rw [h1]; have H1 := hid h1; clear h1; go_enter Tryz.func50, Tryz.ntmps50
 go_wp2_with fail
 rw [← HW.out]; refine (txn_is _).mono ?_; rintro e w1 ⟨rfl, hw1⟩; rw [H1.out]; clear c0 c1 c2 c3 c4 c5 c6 c7 c8 c9 c10 c11; have c0 := (HB.out.later hw1).c0; have c1 := (HB.out.later hw1).c1; have c2 := (HB.out.later hw1).c2; have c3 := (HB.out.later hw1).c3; have c4 := (HB.out.later hw1).c4; have c5 := (HB.out.later hw1).c5; have c6 := (HB.out.later hw1).c6; have c7 := (HB.out.later hw1).c7; have c8 := (HB.out.later hw1).c8; have c9 := (HB.out.later hw1).c9; have c10 := (HB.out.later hw1).c10; have c11 := (HB.out.later hw1).c11
 cases b1
 ·go_wp2_with fail
  go_ret
  exact ⟨ret_bool (by simp), Below.on HBA.out hw1⟩
 ·go_wp2_with fail
  refine (verd_is rfl).mono ?_; rintro e w2 ⟨rfl, hw2⟩; go_wp2_with fail
  go_ret
  exact ⟨ret_bool (by simp), Below.on (Below.on HBA.out hw1) hw2⟩
theorem may_2 {m : Rg} {w : World} (h : m.ok w) (hk : m.k = 2) :
  Calls Tryz.prog 50 #[m.val] w fun e w' => e = .returned (.bool (decide (1 ≤ m.s) && decide (m.w < 18446744073709551615) && footOk m)) ∧ Below w.heap.size w w' := by
 have q1 : (m.k == 1) = false := by rw [hk]; rfl
 have q2 : (m.k == 2) = true := by rw [hk]; rfl
 clear hk; obtain ⟨wa, hwa⟩ : ∃ wa, wa = w.alloc (.cells m.cells 43) := ⟨_, rfl⟩; have hba : Below w.heap.size w wa := by rw [hwa]; exact Below.al (Below.refl _ _) _
 have hbx : BoxG wa w.heap.size m := by rw [hwa]; exact boxG w m _
 have HOK := hid (h.later hba); have HB := hid hbx; have HBA := hid hba; have HW := hid hwa; have c0 := HB.out.c0; have c1 := HB.out.c1; have c2 := HB.out.c2; have c3 := HB.out.c3; have c4 := HB.out.c4; have c5 := HB.out.c5; have c6 := HB.out.c6; have c7 := HB.out.c7; have c8 := HB.out.c8; have c9 := HB.out.c9; have c10 := HB.out.c10; have c11 := HB.out.c11
 clear h hba hbx hwa; obtain ⟨b1, h1⟩ : ∃ b, decide (1 ≤ m.s) = b := ⟨_, rfl⟩; obtain ⟨b2, h2⟩ : ∃ b, decide (m.w < 18446744073709551615) = b := ⟨_, rfl⟩; rw [h1, h2]; have H1 := hid h1; have H2 := hid h2; clear h1 h2; go_enter Tryz.func50, Tryz.ntmps50
 go_wp2_with fail
 rw [← HW.out]; refine (txn_is _).mono ?_; rintro e w1 ⟨rfl, hw1⟩; rw [H1.out]; clear c0 c1 c2 c3 c4 c5 c6 c7 c8 c9 c10 c11; have c0 := (HB.out.later hw1).c0; have c1 := (HB.out.later hw1).c1; have c2 := (HB.out.later hw1).c2; have c3 := (HB.out.later hw1).c3; have c4 := (HB.out.later hw1).c4; have c5 := (HB.out.later hw1).c5; have c6 := (HB.out.later hw1).c6; have c7 := (HB.out.later hw1).c7; have c8 := (HB.out.later hw1).c8; have c9 := (HB.out.later hw1).c9; have c10 := (HB.out.later hw1).c10; have c11 := (HB.out.later hw1).c11
 cases b1
 ·go_wp2_with fail
  go_ret
  exact ⟨ret_bool (by simp), Below.on HBA.out hw1⟩
 go_wp2_with fail
 refine (usable_is _).mono ?_; rintro e w2 ⟨rfl, hw2⟩; rw [H2.out]; replace hw1 := Below.on hw1 hw2; clear hw2; clear c0 c1 c2 c3 c4 c5 c6 c7 c8 c9 c10 c11; have c0 := (HB.out.later hw1).c0; have c1 := (HB.out.later hw1).c1; have c2 := (HB.out.later hw1).c2; have c3 := (HB.out.later hw1).c3; have c4 := (HB.out.later hw1).c4; have c5 := (HB.out.later hw1).c5; have c6 := (HB.out.later hw1).c6; have c7 := (HB.out.later hw1).c7; have c8 := (HB.out.later hw1).c8; have c9 := (HB.out.later hw1).c9; have c10 := (HB.out.later hw1).c10; have c11 := (HB.out.later hw1).c11
 cases b2
 ·go_wp2_with fail
  go_ret
  exact ⟨ret_bool (by simp), Below.on HBA.out hw1⟩
 go_wp2_with fail
 refine (foot_is rfl (HOK.out.later hw1)).mono ?_; rintro e w2 ⟨rfl, hw2⟩; go_wp2_with fail
 go_ret
 exact ⟨ret_bool (by simp), Below.on (Below.on HBA.out hw1) hw2⟩
theorem may_is {m : Rg} {w : World} {u : Bool} (hu : m.may = u) (h : m.ok w) : Calls Tryz.prog 50 #[m.val] w fun e w' => e = .returned (.bool u) ∧ Below w.heap.size w w' := by
 subst hu; unfold Rg.may; by_cases g1 : m.k = 1
 ·rw [if_pos g1]; exact may_1 h g1
 rw [if_neg g1]; by_cases g2 : m.k = 2
 ·rw [if_pos g2]; exact may_2 h g2
 rw [if_neg g2]; by_cases g3 : m.k = 3
 ·rw [if_pos g3]; exact may_3 h g3
 rw [if_neg g3]; by_cases g4 : m.k = 4
 ·rw [if_pos g4]; exact may_4 h g4
 rw [if_neg g4]; by_cases g5 : m.k = 5
 ·rw [if_pos g5]; exact may_5 h g5
 rw [if_neg g5]; exact may_0 h g1 g2 g3 g4 g5
theorem sameT_iff (c s d t : Int) : sameT c s d t = true ↔ c = d ∧ s = t := by simp [sameT]
theorem sameB_iff' (a b c x y z : Int) : sameB a b c x y z = true ↔ a = x ∧ b = y ∧ c = z := by
 simp [sameB, Bool.and_eq_true]
theorem em_iff (a : ByteArray) : emS a = true ↔ a = ⟨#[]⟩ := by
 rw [em_size, decide_eq_true_iff]; constructor
 ·intro h; obtain ⟨d⟩ := a; have : d = #[] := Array.eq_empty_of_size_eq_zero h; rw [this]
 ·rintro rfl; rfl
theorem blank_iff (m : Rg) : m.blank = true ↔ m.x = 0 ∧ (m.c = 0 ∧ m.s = 0) ∧ m.h = 0 ∧ m.oc = 0 ∧ (m.w = 0 ∧ m.l = 0 ∧ m.n = 0) ∧ m.rs.length = 0 ∧ m.ws.length = 0 ∧ m.im = ⟨#[]⟩ := by
 unfold Rg.blank; simp only [Bool.and_eq_true, sameT_iff, sameB_iff', em_iff, beq_iff_eq]; constructor
 ·rintro ⟨⟨⟨⟨⟨⟨⟨a, b⟩, c⟩, d⟩, e⟩, f⟩, g⟩, i⟩; exact ⟨a, b, c, d, e, by omega, by omega, i⟩
 ·rintro ⟨a, b, c, d, e, f, g, i⟩; exact ⟨⟨⟨⟨⟨⟨⟨a, b⟩, c⟩, d⟩, e⟩, by omega⟩, by omega⟩, i⟩
theorem sameR_iff (m n : Rg) : sameR m n = true ↔ m.k = n.k ∧ m.x = n.x ∧ (m.c = n.c ∧ m.s = n.s) ∧ m.h = n.h ∧ m.oc = n.oc ∧ (m.w = n.w ∧ m.l = n.l ∧ m.n = n.n) ∧ m.im = n.im ∧ m.rs.length = n.rs.length ∧ m.ws.length = n.ws.length := by
 unfold sameR; simp only [Bool.and_eq_true, sameT_iff, sameB_iff', beq_iff_eq, decide_eq_true_iff, and_assoc]
theorem valid_eq {m : Rg} {w : World} (h : m.ok w) : (m.may && m.bare.blank) = m.valid := by
 obtain ⟨h1, h2, h3⟩ := h.rg; have hs : decide (1 ≤ m.s) = !(m.s == 0) := by rw [Bool.eq_iff_iff]; simp; omega
 have hw : decide (m.w < 18446744073709551615) = !(m.w == topW) := by rw [Bool.eq_iff_iff]; simp [topW]; omega
 unfold Rg.may Rg.bare Rg.valid Rg.rules Rg.named; by_cases g1 : m.k = 1
 ·simp only [if_pos g1, Bool.true_and, Bool.and_true]; rw [Bool.eq_iff_iff, blank_iff, sameR_iff]; simp [Rg.zero]; grind
 simp only [if_neg g1]; by_cases g2 : m.k = 2
 ·simp only [if_pos g2]; have e : (({ m with c := 0, s := 0, h := 0, w := 0, l := 0, n := 0, ra := none, rs := [], rc := 0, wa := none, ws := [], wc := 0 } : Rg)).blank = sameR m { m with x := 0, oc := 0, im := ⟨#[]⟩ } := by
   rw [Bool.eq_iff_iff, blank_iff, sameR_iff]; simp
  rw [e, hs, hw, footOk, Bool.and_comm, show decide (m.rs.length = 0) = ((m.rs.length : Int) == 0) by rw [Bool.eq_iff_iff]; simp, show decide (m.ws.length = 0) = ((m.ws.length : Int) == 0) by rw [Bool.eq_iff_iff]; simp]; simp only [Bool.and_assoc]
 simp only [if_neg g2]; by_cases g3 : m.k = 3
 ·simp only [if_pos g3]; have e : (({ m with c := 0, s := 0, h := 0, oc := 0, w := 0, l := 0, n := 0 } : Rg)).blank = sameR m { Rg.zero with k := m.k, c := m.c, s := m.s, h := m.h, oc := m.oc, w := m.w, l := m.l, n := m.n } := by
   rw [Bool.eq_iff_iff, blank_iff, sameR_iff]; simp [Rg.zero]; grind
  rw [e, hs, Bool.and_comm]; have ev : verdOk m = ((m.oc == 1 && !(m.w == topW)) || (m.oc == 2 && (m.w == 0 && m.l == 0 && m.n == 0))) := by
   unfold verdOk; by_cases o1 : m.oc = 1
   ·rw [if_pos o1, hw]; simp [o1]
   rw [if_neg o1]; by_cases o2 : m.oc = 2
   ·rw [if_pos o2, Bool.eq_iff_iff, sameB_iff']; simp [o2, and_assoc]
   ·rw [if_neg o2]; simp [o1, o2]
  rw [ev]
 simp only [if_neg g3]; by_cases g4 : m.k = 4
 ·simp only [if_pos g4]; have e : (({ m with w := 0, l := 0, n := 0 } : Rg)).blank = sameR m { Rg.zero with k := m.k, w := m.w, l := m.l, n := m.n } := by
   rw [Bool.eq_iff_iff, blank_iff, sameR_iff]; simp [Rg.zero]; grind
  rw [e, hw, Bool.and_comm]
 simp only [if_neg g4]; by_cases g5 : m.k = 5
 ·simp only [if_pos g5]; have e : (({ m with im := ⟨#[]⟩ } : Rg)).blank = sameR m { Rg.zero with k := m.k, im := m.im } := by
   rw [Bool.eq_iff_iff, blank_iff, sameR_iff]; simp [Rg.zero]
  rw [e, Bool.and_comm]
 simp only [if_neg g5, Bool.false_and, Bool.and_false]
theorem walvalid_is (w : World) (m : Rg) (h : m.ok w) : Calls Tryz.prog 18 #[m.val] w fun e w' => e = .returned (.int .i64 m.err) ∧ Below w.heap.size w w' := by
 obtain ⟨b1, h1⟩ : ∃ b, m.may = b := ⟨_, rfl⟩; obtain ⟨b2, h2⟩ : ∃ b, m.bare.blank = b := ⟨_, rfl⟩; have he : m.err = if (b1 && b2) then 0 else 70 := by unfold Rg.err; rw [← valid_eq h, h1, h2]
 rw [he]; obtain ⟨wa, hwa⟩ : ∃ wa, wa = w.alloc (.cells m.cells 43) := ⟨_, rfl⟩; have hba : Below w.heap.size w wa := by rw [hwa]; exact Below.al (Below.refl _ _) _
 have hbx : BoxG wa w.heap.size m := by rw [hwa]; exact boxG w m _
 have HOK := hid (h.later hba); have HB := hid hbx; have HBA := hid hba; have HW := hid hwa; have H1 := hid h1; have H2 := hid h2; clear h hba hbx hwa h1 h2 he; go_enter Tryz.func18, Tryz.ntmps18
 go_wp2_with fail
 rw [← HW.out]; refine (may_is H1.out HOK.out).mono ?_; rintro e w1 ⟨rfl, hw1⟩; have c0 := (HB.out.later hw1).c0; have c1 := (HB.out.later hw1).c1; have c2 := (HB.out.later hw1).c2; have c3 := (HB.out.later hw1).c3; have c4 := (HB.out.later hw1).c4; have c5 := (HB.out.later hw1).c5; have c6 := (HB.out.later hw1).c6; have c7 := (HB.out.later hw1).c7; have c8 := (HB.out.later hw1).c8; have c9 := (HB.out.later hw1).c9; have c10 := (HB.out.later hw1).c10; have c11 := (HB.out.later hw1).c11
 cases b1
 ·go_wp2_with fail
  go_ret
  exact ⟨rfl, Below.on HBA.out hw1⟩
 go_wp2_with fail
 refine (bare_is m _).mono ?_; rintro e w2 ⟨rfl, hw2⟩; go_wp2_with fail
 refine (blank_is H2.out).mono ?_; rintro e w3 ⟨rfl, hw3⟩; have HB3 := hid (Below.on (Below.on (Below.on HBA.out hw1) hw2) hw3); cases b2
 ·go_wp2_with fail
  go_ret
  exact ⟨rfl, HB3.out⟩
 ·go_wp2_with fail
  go_ret
  exact ⟨rfl, HB3.out⟩
end Go.Proofs.YtneojeidpfjpbaaGreatDoor
namespace Go.Proofs.YtneojeidpfjpbaaGreatDoor.Ys
open Go.RowKit Go.Sort
abbrev zero (node : Int) : Ps := ⟨node, 0, [], [], [], ⟨0, 0, 0⟩, false, ⟨0, 0, 0⟩, 0⟩
theorem stT_state : Vs.StT SS := ⟨fun k => by rcases k with e | e | e <;> exact absurd e (by decide), by decide⟩
theorem new_is (w : World) (n : Int) : Calls Tryz.prog 16 #[.int .u32 n] w fun e w' => e = .returned (sp w.heap.size) ∧ St (fun b => b = w.heap.size) w' w.heap.size none none none [] [] (zero n) ∧ Below w.heap.size w w' := by
 obtain ⟨W, hW⟩ : ∃ W, W = w.alloc (.cells (scs (zero n) none none none none) SS) := ⟨_, rfl⟩; have hb : Below w.heap.size w W := by rw [hW]; exact Below.al (Below.refl _ _) _
 have kb : W.heap[w.heap.size]? = some (.cells (scs (zero n) none none none none) SS (0, 0)) := by rw [hW]; exact World.alloc_heap_new _ _
 have HT : Hid (St (fun b => b = w.heap.size) W w.heap.size none none none [] [] (zero n)) := hid ⟨⟨none, kb⟩, ⟨⟨_, kb, rfl, rfl⟩, bare13 kb, rfl, rfl, by simp, Lk.ok_nil, by simp, by simp⟩, ⟨⟨_, kb, rfl⟩, rfl⟩, ⟨[], ⟨⟨_, kb, rfl, rfl, rfl⟩, stT_state, ⟨.nil, _, _, kb, stT_state.1, rfl, trivial, rfl, List.Pairwise.nil⟩, fun e he => (by cases he), List.Pairwise.nil, Vs.Good.nil, rfl, fun e he => (by cases he), by rintro b rfl; exact ⟨_, _, _, kb, .inl rfl⟩⟩, rfl⟩, rfl, by simp, by simp, by simp, Nat.zero_le _⟩; have HB := hid hb; clear kb hb; go_enter Tryz.func16, Tryz.ntmps16
 go_wp2_with fail
 go_ret
 refine ⟨rfl, ?_, ?_⟩
 ·exact hW ▸ HT.out
 ·exact hW ▸ HB.out
def resE (s : Ps) (r : Rg) : Int := if r.x ≤ s.ceil then 130 else 0
def resS (s : Ps) (r : Rg) : Ps := if r.x ≤ s.ceil then s else { s with ceil := r.x }
theorem reserve_is {F : Nat → Prop} {w : World} {p : Nat} {m1 m2 m : Option Nat} {V : List Lk.Hv} {I : Lk.It} {s : Ps} (T : St F w p m1 m2 m V I s) (r : Rg) :
  Calls Tryz.prog 19 #[sp p, r.val] w fun e w' => e = .returned (.int .i64 (resE s r)) ∧ St F w' p m1 m2 m V I (resS s r) ∧ Onl (fun b => b = p) w w' := by
 obtain ⟨wx, hwx⟩ : ∃ wx, wx = w.alloc (.cells r.cells 43) := ⟨_, rfl⟩; have hbx : Below w.heap.size w wx := by rw [hwx]; exact Below.al (Below.refl _ _) _
 have x1 : wx.cell? ⟨w.heap.size, 1, none⟩ = some (.int .u64 r.x) := by rw [hwx]; exact (boxG w r _).c1
 have c1 : wx.cell? ⟨p, 1, none⟩ = some (.int .u64 s.ceil) := (T.later hbx).cell fun _ => rfl
 have k1 := cell_regrown x1; have k2 := cell_regrown c1
 have HT := hid (T.later hbx); have HBX := hid hbx; by_cases hc : r.x ≤ s.ceil
 ·have hd : decide (r.x ≤ s.ceil) = true := by simpa using hc
  rw [resE, resS, if_pos hc, if_pos hc]; clear T hbx hc; go_enter Tryz.func19, Tryz.ntmps19
  go_wp2_with fail
  rw [← hwx]; clear hwx; refine wp_region_quiet_below (by kernel_rfl) (by kernel_rfl) ?_; repeat (go_big_quiet_step (fail))
  refine wpQuiet_nil ?_; intro wq hq; replace hq := below_of_regrown hq; go_wp2_with fail
  go_ret
  exact ⟨rfl, HT.out.later hq, Onl.of_below (Below.on HBX.out hq)⟩
 ·have hd : decide (r.x ≤ s.ceil) = false := by simpa using hc
  rw [resE, resS, if_neg hc, if_neg hc]; clear T hbx hc; go_enter Tryz.func19, Tryz.ntmps19
  go_wp2_with fail
  rw [← hwx]; clear hwx; refine wp_region_quiet_below (by kernel_rfl) (by kernel_rfl) ?_; repeat (go_big_quiet_step (fail))
  refine wpQuiet_nil ?_; intro wq hq; replace hq := below_of_regrown hq; have y1 := cell_later hq x1; have y2 := cell_later hq c1; have fz := (HT.out.later hq).loose; go_wp2_with fail
  go_ret
  exact ⟨rfl, (HT.out.later hq).ceiled _, onl_p _ _ _ _ (Onl.of_below (Below.on HBX.out hq))⟩
end Go.Proofs.YtneojeidpfjpbaaGreatDoor.Ys
namespace Go.Proofs.YtneojeidpfjpbaaGreatDoor.Vs
open Go.RowKit Go.Sort
def dropM (M : Mst) (k : ByteArray) (cs : Chain) (n : Nat) : Mst := if n = 0 then M else if n = cs.length then delX M k else setX M k (cs.drop n)
theorem dropM_good {M : Mst} (h : Good M) {k : ByteArray} {cs : Chain} (hr : Ris cs) {n : Nat} (hn : n ≤ cs.length) : Good (dropM M k cs n) := by
 unfold dropM; split
 ·exact h
 ·split
  ·exact ⟨delX_rising h.rising k, fun e he => h.chain e ((delX_mem _ _ _).1 he).1⟩
  ·refine ⟨setX_rising h.rising _ _, fun e he => ?_⟩; rcases (setX_mem h.rising _ _ e).1 he with rfl | ⟨he, _⟩
   ·refine ⟨fun e => ?_, List.Pairwise.drop hr⟩; have := congrArg List.length e; simp at this; omega
   ·exact h.chain e he
theorem pairwise_del {R : En → En → Prop} {l : List En} (h : l.Pairwise R) (k : ByteArray) : (delX l k).Pairwise R := List.Pairwise.filter _ h
theorem StoX.deleted {F : Nat → Prop} {w w' : World} {p o : Nat} {t : TypeId} {m : List En} {mk : Sp} {k : ByteArray} (h : StoX F w p o t m mk) (hx : Xi w' p o (delX m k)) (ho : Onl (fun b => b = p) w w') (hpt : Part p o 1 w w') : StoX F w' p o t (delX m k) mk := by
 obtain ⟨cs, bp, x1, x2, x3⟩ := h.obj; obtain ⟨cs4, bp4, s4, e4⟩ := hpt cs t (0, 0) bp; refine ⟨⟨cs4, bp4, by rw [e4 _ (by omega)]; exact x1, by rw [e4 _ (by omega)]; exact x2, by rw [e4 _ (by omega)]; exact x3⟩, h.ty, hx, fun e he => ?_, pairwise_del h.apart k, ?_, h.fp, fun e he => h.fr e ((delX_mem _ _ _).1 he).1, fun b hf => ?_⟩
 ·have r := h.row e ((delX_mem _ _ _).1 he).1; obtain ⟨cs, z, hb⟩ := r.block; exact r.keep (ho.block _ r.lt (type_ne hb bp h.ty.2.symm))
 ·rw [abs_del]; exact ⟨delX_rising h.good.rising k, fun e he => h.good.chain e ((delX_mem _ _ _).1 he).1⟩
 ·by_cases e : b = p
  ·subst e; exact ⟨_, _, _, bp4, .inl rfl⟩
  ·obtain ⟨cs, t, z, hc, ht⟩ := h.own b hf; exact ⟨cs, t, z, (ho.block b (h.lt hf) e).trans hc, ht⟩
theorem StoX.anew {F : Nat → Prop} {w w3 w4 : World} {p o : Nat} {t : TypeId} {m : List En} {mk : Sp} {k : ByteArray} (h : StoX F w p o t m mk) (hd : Hd) (row : Row w3 k hd) (hb : Below w.heap.size w w3) (hg : w.heap.size ≤ hd.g)
  (hx : Xi w4 p o (setX m k hd)) (ho : Onl (fun b => b = p) w3 w4) (hpt : Part p o 1 w3 w4) (good : Good (setX (abs m) k hd.vs)) :
  ∃ F', StoX F' w4 p o t (setX m k hd) mk ∧ (∀ b, F' b → F b ∨ w.heap.size ≤ b) :=
 let ⟨F', h1, h2, _⟩ := h.laid (ga := none) (n := 0) (cap := 0) hd (fun b hb => by simp [Value.ownBlock] at hb) (fun e _ _ hb => by simp [Value.ownBlock] at hb) row ⟨hb.os, hb.tape, hb.output, hb.size, fun k hk _ => hb.block k hk⟩ (.inr hg) hx ho hpt good
 ⟨F', h1, h2⟩
set_option maxRecDepth 8000 in
theorem drop_is {F : Nat → Prop} {w : World} {p o : Nat} {ty : TypeId} {m : List En} {mk : Sp} {k : ByteArray} {hd : Hd} {n : Nat} (h : StoX F w p o ty m mk) (r : Row w k hd) (hr : Ris hd.vs) (hn : n ≤ hd.n) (hb : (hd.n + 1) * 64 ≤ 140737488355328) (hm : m.length + 1 ≤ 1152921504606846976) :
  Calls Tryz.prog 101 #[.pointer (some ⟨p, o, none⟩), .string k, .slice (some ⟨hd.g, 0, none⟩) hd.n hd.cap, .int .i64 n] w fun e w' => (∃ v0, e = .returned v0) ∧ (∃ F' m', StoX F' w' p o ty m' mk ∧ abs m' = dropM (abs m) k hd.vs n ∧ m'.length ≤ m.length + 1 ∧ ∀ b, F' b → F b ∨ w.heap.size ≤ b) ∧ Onl (fun b => b = p) w w' ∧ Part p o 1 w w' := by
 have hlen := r.len; have hgd := dropM_good (k := k) h.good hr (n := n) (by omega); by_cases h0 : n = 0
 ·subst h0; have HE : Hid (dropM (abs m) k hd.vs 0 = abs m) := rfl; have H := hid h; clear h r hr hn hb hm hlen hgd; go_enter Tryz.func101, Tryz.ntmps101
  go_wp2_with fail
  go_end0
  exact ⟨⟨_, rfl⟩, ⟨F, m, H.out, HE.out.symm, by omega, fun b hb => .inl hb⟩, Onl.refl _ _, Part.refl _ _ _ _⟩
 ·have q0 : ((n : Int) == 0) = false := by rw [beq_eq_false_iff_ne]; omega
  by_cases h1 : n = hd.n
  ·subst h1; have HE : Hid (dropM (abs m) k hd.vs hd.n = delX (abs m) k) := by show _ = _; unfold dropM; rw [if_neg h0, if_pos hlen.symm]
   have DL := hid (del_is h.xi k hm); have H := hid h; obtain ⟨g, n, cap, vs⟩ := hd; simp only at HE q0 ⊢; clear h r hr hn hb hm hlen hgd h0; go_enter Tryz.func101, Tryz.ntmps101
   go_wp2_with (go_at_call 136; refine DL.out.mono ?_; rintro e w1 ⟨rfl, hx, ho, hpt⟩)
   go_end0
   refine ⟨⟨_, rfl⟩, ⟨F, delX m k, H.out.deleted hx ho hpt, by rw [abs_del]; exact HE.out.symm, ?_, fun b hb => .inl hb⟩, ho, hpt⟩; have : (delX m k).length ≤ m.length := List.length_filter_le _ _; omega
  ·have q1 : ((n : Int) == (hd.n : Int)) = false := by rw [beq_eq_false_iff_ne]; omega
   have HE : Hid (dropM (abs m) k hd.vs n = setX (abs m) k (hd.vs.drop n)) := by show _ = _; unfold dropM; rw [if_neg h0, if_neg (by omega)]
   rw [HE.out] at hgd; have WO : Hid (∀ W, Below w.heap.size w W → _) := fun W hb' => without_is' (r.later hb') (by omega : n < hd.n) hb
   have ST : Hid (∀ W (hd' : Hd), Below w.heap.size w W → _) := fun W hd' hb' => set_is (h.xi.later hb') k hd' hm
   have HA : Hid (∀ w3 w4 (hd' : Hd), Below w.heap.size w w3 → Row w3 k hd' → hd'.vs = hd.vs.drop n → w.heap.size ≤ hd'.g → Xi w4 p o (setX m k hd') → Onl (fun b => b = p) w3 w4 → Part p o 1 w3 w4 → ∃ F' m', StoX F' w4 p o ty m' mk ∧ abs m' = dropM (abs m) k hd.vs n ∧ m'.length ≤ m.length + 1 ∧ ∀ b, F' b → F b ∨ w.heap.size ≤ b) := fun w3 w4 hd' hb' row hvs hg hx ho hpt => by
    obtain ⟨F', s1, s2⟩ := h.anew hd' row hb' hg hx ho hpt (by rw [hvs]; exact hgd); exact ⟨F', _, s1, by rw [abs_set, hvs, HE.out], setX_len _ _ _, s2⟩
   obtain ⟨vs0, hvs0⟩ : ∃ v, v = hd.vs := ⟨_, rfl⟩; rw [← hvs0] at WO HA HE ⊢; obtain ⟨g, q, cap, vs⟩ := hd; simp only at q1 WO ⊢; clear h r hr hn hb hm hlen hgd h0 h1 hvs0; go_enter Tryz.func101, Tryz.ntmps101
   go_wp2_with fail
   go_region_held3 (fun w' => Onl (fun b => b = p) w w')
    ((repeat (first | exact Onl.refl _ _ | assumption | refine Onl.drew ?_ | refine Onl.al ?_ _)))
    (first
     | (go_at_call 137; refine (ST.out w3 hd' hc3).mono ?_; rintro e w4 ⟨rfl, hx, ho4, hp4⟩; have hO4 : Onl (fun b => b = p) w w4 := hO3.trans ho4)
     | (go_at_call 138; refine (WO.out _ (by (repeat (first | exact Below.refl _ _ | assumption | refine Below.drew ?_ | refine Below.al ?_ _ | refine Below.setCell ?_ (by first | exact Nat.le_refl _ | (simp; omega) | (simp; done)) _ | refine Below.on ?_ (by assumption))))).mono ?_; rintro e w3 ⟨hd', rfl, hr3, hv3, hg3, hb3⟩; have hc3 : Below w.heap.size w w3 := (by (repeat (first | exact Below.refl _ _ | assumption | refine Below.drew ?_ | refine Below.al ?_ _ | refine Below.setCell ?_ (by first | exact Nat.le_refl _ | (simp; omega) | (simp; done)) _ | refine Below.on ?_ (by assumption)))); have hO3 : Onl (fun b => b = p) w w3 := Onl.of_below hc3))
   go_wp2_with fail
   go_end0
   exact ⟨⟨_, rfl⟩, HA.out w3 w4 hd' hc3 hr3 hv3 (by first | exact hg3 | (have := hg3; simpa using this)) hx ho4 hp4, hO4, (Part.below hc3).trans hp4⟩
end Go.Proofs.YtneojeidpfjpbaaGreatDoor.Vs
