import Derived.Test.YtofpaldolcnmiaaGreatB46
set_option linter.unusedVariables false
set_option maxHeartbeats 8000000
namespace Go.Proofs.YtofpaldolcnmiaaGreat
open Go.RowKit Go.Sort
theorem Rg.named_ok {m : Rg} {w : World} (h : m.ok w) : m.named.ok w := by
 have hz : Rg.ok w Rg.zero := ⟨fun i hi => by simp [Rg.zero] at hi, fun i hi => by simp [Rg.zero] at hi, by simp [Rg.zero], by simp [Rg.zero], by decide⟩; unfold Rg.named; split
 ·exact ⟨hz.r, hz.w, hz.rl, hz.wl, hz.rg⟩
 split
 ·exact ⟨h.r, h.w, h.rl, h.wl, h.rg⟩
 split
 ·exact ⟨hz.r, hz.w, hz.rl, hz.wl, h.rg⟩
 split
 ·exact ⟨hz.r, hz.w, hz.rl, hz.wl, hz.rg.1, h.rg.2⟩
 split
 ·exact ⟨hz.r, hz.w, hz.rl, hz.wl, hz.rg⟩
 ·exact hz
theorem Rg.named_rs (m : Rg) : m.rs.length = m.named.rs.length → m.rs = m.named.rs := by
 have hz : m.rs.length = Rg.zero.rs.length → m.rs = Rg.zero.rs := fun h => List.length_eq_zero_iff.1 h
 unfold Rg.named; split
 ·exact hz
 split
 ·exact fun _ => rfl
 split
 ·exact hz
 split
 ·exact hz
 split
 ·exact hz
 ·exact hz
theorem Rg.named_ws (m : Rg) : m.ws.length = m.named.ws.length → m.ws = m.named.ws := by
 have hz : m.ws.length = Rg.zero.ws.length → m.ws = Rg.zero.ws := fun h => List.length_eq_zero_iff.1 h
 unfold Rg.named; split
 ·exact hz
 split
 ·exact fun _ => rfl
 split
 ·exact hz
 split
 ·exact hz
 split
 ·exact hz
 ·exact hz
theorem refvalid_no {m : Rg} {w : World} (h : m.ok w) (hs : sameR m m.named = false) :
  Calls Tryz.prog 166 #[m.val] w fun e w' => e = .returned (.bool (false)) ∧ Below w.heap.size w w' := by
 obtain ⟨wa, hwa⟩ : ∃ wa, wa = w.alloc (.cells m.cells 40) := ⟨_, rfl⟩; have hba : Below w.heap.size w wa := by rw [hwa]; exact Below.al (Below.refl _ _) _
 have hbx : BoxG wa w.heap.size m := by rw [hwa]; exact boxG w m _
 have HOK := hid (h.later hba); have HB := hid hbx; have HBA := hid hba; have HW := hid hwa; have r0 := cell_regrown hbx.c0; have r1 := cell_regrown hbx.c1; have r2 := cell_regrown hbx.c2; have r3 := cell_regrown hbx.c3; have r4 := cell_regrown hbx.c4; have r5 := cell_regrown hbx.c5
 have r6 := cell_regrown hbx.c6; have r7 := cell_regrown hbx.c7; have r8 := cell_regrown hbx.c8; have r9 := cell_regrown hbx.c9; have r10 := cell_regrown hbx.c10; have r11 := cell_regrown hbx.c11
 have HNM := hid (fun w => named_is m w); have HSM : Hid (∀ w', Below wa.heap.size wa w' → Calls Tryz.prog 212 #[m.val, m.named.val] w' fun e w'' => e = .returned (.bool false) ∧ Below w'.heap.size w' w'') := fun w' hb => rfi hs (HOK.out.later hb) (Rg.named_ok (HOK.out.later hb)) m.named_rs m.named_ws
 obtain ⟨N, hN⟩ : ∃ N, N = m.named := ⟨_, rfl⟩; rw [← hN] at HNM HSM; clear h hba hbx hwa hs hN; go_enter Tryz.func166, Tryz.ntmps166
 go_wp2_with fail
 rw [← HW.out]; refine wp_region_quiet_below (by kernel_rfl) (by kernel_rfl) ?_; repeat (go_big_quiet_step (first | (go_at_call 213; exact Calls.regrown_of (HNM.out _)) | (go_at_call 212; exact Calls.regrown_of (HSM.out _ (below_regrown _ _ _)))))
 refine wpQuiet_nil ?_; intro w1 hw1; replace hw1 := bor hw1; have HB1 := hid (HB.out.later hw1); have HBL := hid (Below.on HBA.out hw1); have HOK1 := hid (HOK.out.later hw1); have c0 := HB1.out.c0; have c1 := HB1.out.c1; have c2 := HB1.out.c2; have c3 := HB1.out.c3; have c4 := HB1.out.c4; have c5 := HB1.out.c5
 have c6 := HB1.out.c6; have c7 := HB1.out.c7; have c8 := HB1.out.c8; have c9 := HB1.out.c9; have c10 := HB1.out.c10; have c11 := HB1.out.c11
 clear hw1 r0 r1 r2 r3 r4 r5 r6 r7 r8 r9 r10 r11 HNM HSM HB HBA HOK; go_wp2_with fail
 go_ret
 exact ⟨rfl, HBL.out⟩
theorem refvalid_1 {m : Rg} {w : World} (h : m.ok w) (hs : sameR m m.named = true) (hk : m.k = 1) :
  Calls Tryz.prog 166 #[m.val] w fun e w' => e = .returned (.bool (true)) ∧ Below w.heap.size w w' := by
 have q1 : (m.k == 1) = true := by rw [hk]; rfl
 clear hk; obtain ⟨wa, hwa⟩ : ∃ wa, wa = w.alloc (.cells m.cells 40) := ⟨_, rfl⟩; have hba : Below w.heap.size w wa := by rw [hwa]; exact Below.al (Below.refl _ _) _
 have hbx : BoxG wa w.heap.size m := by rw [hwa]; exact boxG w m _
 have HOK := hid (h.later hba); have HB := hid hbx; have HBA := hid hba; have HW := hid hwa; have r0 := cell_regrown hbx.c0; have r1 := cell_regrown hbx.c1; have r2 := cell_regrown hbx.c2; have r3 := cell_regrown hbx.c3; have r4 := cell_regrown hbx.c4; have r5 := cell_regrown hbx.c5
 have r6 := cell_regrown hbx.c6; have r7 := cell_regrown hbx.c7; have r8 := cell_regrown hbx.c8; have r9 := cell_regrown hbx.c9; have r10 := cell_regrown hbx.c10; have r11 := cell_regrown hbx.c11
 have HNM := hid (fun w => named_is m w); have HSM : Hid (∀ w', Below wa.heap.size wa w' → Calls Tryz.prog 212 #[m.val, m.named.val] w' fun e w'' => e = .returned (.bool true) ∧ Below w'.heap.size w' w'') := fun w' hb => rfi hs (HOK.out.later hb) (Rg.named_ok (HOK.out.later hb)) m.named_rs m.named_ws
 obtain ⟨N, hN⟩ : ∃ N, N = m.named := ⟨_, rfl⟩; rw [← hN] at HNM HSM; clear h hba hbx hwa hs hN; go_enter Tryz.func166, Tryz.ntmps166
 go_wp2_with fail
 rw [← HW.out]; refine wp_region_quiet_below (by kernel_rfl) (by kernel_rfl) ?_; repeat (go_big_quiet_step (first | (go_at_call 213; exact Calls.regrown_of (HNM.out _)) | (go_at_call 212; exact Calls.regrown_of (HSM.out _ (below_regrown _ _ _)))))
 refine wpQuiet_nil ?_; intro w1 hw1; replace hw1 := bor hw1; have HB1 := hid (HB.out.later hw1); have HBL := hid (Below.on HBA.out hw1); have HOK1 := hid (HOK.out.later hw1); have c0 := HB1.out.c0; have c1 := HB1.out.c1; have c2 := HB1.out.c2; have c3 := HB1.out.c3; have c4 := HB1.out.c4; have c5 := HB1.out.c5
 have c6 := HB1.out.c6; have c7 := HB1.out.c7; have c8 := HB1.out.c8; have c9 := HB1.out.c9; have c10 := HB1.out.c10; have c11 := HB1.out.c11
 clear hw1 r0 r1 r2 r3 r4 r5 r6 r7 r8 r9 r10 r11 HNM HSM HB HBA HOK; go_wp2_with fail
 go_ret
 exact ⟨rfl, HBL.out⟩
theorem refvalid_4 {m : Rg} {w : World} (h : m.ok w) (hs : sameR m m.named = true) (hk : m.k = 4) :
  Calls Tryz.prog 166 #[m.val] w fun e w' => e = .returned (.bool (!(m.w == topW))) ∧ Below w.heap.size w w' := by
 have q1 : (m.k == 1) = false := by rw [hk]; rfl
 have q2 : (m.k == 2) = false := by rw [hk]; rfl
 have q3 : (m.k == 3) = false := by rw [hk]; rfl
 have q4 : (m.k == 4) = true := by rw [hk]; rfl
 clear hk; obtain ⟨wa, hwa⟩ : ∃ wa, wa = w.alloc (.cells m.cells 40) := ⟨_, rfl⟩; have hba : Below w.heap.size w wa := by rw [hwa]; exact Below.al (Below.refl _ _) _
 have hbx : BoxG wa w.heap.size m := by rw [hwa]; exact boxG w m _
 have HOK := hid (h.later hba); have HB := hid hbx; have HBA := hid hba; have HW := hid hwa; have r0 := cell_regrown hbx.c0; have r1 := cell_regrown hbx.c1; have r2 := cell_regrown hbx.c2; have r3 := cell_regrown hbx.c3; have r4 := cell_regrown hbx.c4; have r5 := cell_regrown hbx.c5
 have r6 := cell_regrown hbx.c6; have r7 := cell_regrown hbx.c7; have r8 := cell_regrown hbx.c8; have r9 := cell_regrown hbx.c9; have r10 := cell_regrown hbx.c10; have r11 := cell_regrown hbx.c11
 have HNM := hid (fun w => named_is m w); have HSM : Hid (∀ w', Below wa.heap.size wa w' → Calls Tryz.prog 212 #[m.val, m.named.val] w' fun e w'' => e = .returned (.bool true) ∧ Below w'.heap.size w' w'') := fun w' hb => rfi hs (HOK.out.later hb) (Rg.named_ok (HOK.out.later hb)) m.named_rs m.named_ws
 obtain ⟨N, hN⟩ : ∃ N, N = m.named := ⟨_, rfl⟩; rw [← hN] at HNM HSM; clear h hba hbx hwa hs hN; go_enter Tryz.func166, Tryz.ntmps166
 go_wp2_with fail
 rw [← HW.out]; refine wp_region_quiet_below (by kernel_rfl) (by kernel_rfl) ?_; repeat (go_big_quiet_step (first | (go_at_call 213; exact Calls.regrown_of (HNM.out _)) | (go_at_call 212; exact Calls.regrown_of (HSM.out _ (below_regrown _ _ _)))))
 refine wpQuiet_nil ?_; intro w1 hw1; replace hw1 := bor hw1; have HB1 := hid (HB.out.later hw1); have HBL := hid (Below.on HBA.out hw1); have HOK1 := hid (HOK.out.later hw1); have c0 := HB1.out.c0; have c1 := HB1.out.c1; have c2 := HB1.out.c2; have c3 := HB1.out.c3; have c4 := HB1.out.c4; have c5 := HB1.out.c5
 have c6 := HB1.out.c6; have c7 := HB1.out.c7; have c8 := HB1.out.c8; have c9 := HB1.out.c9; have c10 := HB1.out.c10; have c11 := HB1.out.c11
 clear hw1 r0 r1 r2 r3 r4 r5 r6 r7 r8 r9 r10 r11 HNM HSM HB HBA HOK; go_wp2_with fail
 go_ret
 exact ⟨rtb (by simp [topW, bne]), HBL.out⟩
theorem refvalid_5 {m : Rg} {w : World} (h : m.ok w) (hs : sameR m m.named = true) (hk : m.k = 5) :
  Calls Tryz.prog 166 #[m.val] w fun e w' => e = .returned (.bool (decide (m.im.size ≤ 1048560))) ∧ Below w.heap.size w w' := by
 have q1 : (m.k == 1) = false := by rw [hk]; rfl
 have q2 : (m.k == 2) = false := by rw [hk]; rfl
 have q3 : (m.k == 3) = false := by rw [hk]; rfl
 have q4 : (m.k == 4) = false := by rw [hk]; rfl
 have q5 : (m.k == 5) = true := by rw [hk]; rfl
 clear hk; obtain ⟨wa, hwa⟩ : ∃ wa, wa = w.alloc (.cells m.cells 40) := ⟨_, rfl⟩; have hba : Below w.heap.size w wa := by rw [hwa]; exact Below.al (Below.refl _ _) _
 have hbx : BoxG wa w.heap.size m := by rw [hwa]; exact boxG w m _
 have HOK := hid (h.later hba); have HB := hid hbx; have HBA := hid hba; have HW := hid hwa; have r0 := cell_regrown hbx.c0; have r1 := cell_regrown hbx.c1; have r2 := cell_regrown hbx.c2; have r3 := cell_regrown hbx.c3; have r4 := cell_regrown hbx.c4; have r5 := cell_regrown hbx.c5
 have r6 := cell_regrown hbx.c6; have r7 := cell_regrown hbx.c7; have r8 := cell_regrown hbx.c8; have r9 := cell_regrown hbx.c9; have r10 := cell_regrown hbx.c10; have r11 := cell_regrown hbx.c11
 have HNM := hid (fun w => named_is m w); have HSM : Hid (∀ w', Below wa.heap.size wa w' → Calls Tryz.prog 212 #[m.val, m.named.val] w' fun e w'' => e = .returned (.bool true) ∧ Below w'.heap.size w' w'') := fun w' hb => rfi hs (HOK.out.later hb) (Rg.named_ok (HOK.out.later hb)) m.named_rs m.named_ws
 obtain ⟨N, hN⟩ : ∃ N, N = m.named := ⟨_, rfl⟩; rw [← hN] at HNM HSM; clear h hba hbx hwa hs hN; go_enter Tryz.func166, Tryz.ntmps166
 go_wp2_with fail
 rw [← HW.out]; refine wp_region_quiet_below (by kernel_rfl) (by kernel_rfl) ?_; repeat (go_big_quiet_step (first | (go_at_call 213; exact Calls.regrown_of (HNM.out _)) | (go_at_call 212; exact Calls.regrown_of (HSM.out _ (below_regrown _ _ _)))))
 refine wpQuiet_nil ?_; intro w1 hw1; replace hw1 := bor hw1; have HB1 := hid (HB.out.later hw1); have HBL := hid (Below.on HBA.out hw1); have HOK1 := hid (HOK.out.later hw1); have c0 := HB1.out.c0; have c1 := HB1.out.c1; have c2 := HB1.out.c2; have c3 := HB1.out.c3; have c4 := HB1.out.c4; have c5 := HB1.out.c5
 have c6 := HB1.out.c6; have c7 := HB1.out.c7; have c8 := HB1.out.c8; have c9 := HB1.out.c9; have c10 := HB1.out.c10; have c11 := HB1.out.c11
 clear hw1 r0 r1 r2 r3 r4 r5 r6 r7 r8 r9 r10 r11 HNM HSM HB HBA HOK; go_wp2_with fail
 go_ret
 exact ⟨rtb (by rw [Bool.eq_iff_iff, decide_eq_true_iff, decide_eq_true_iff]; omega), HBL.out⟩
theorem refvalid_0 {m : Rg} {w : World} (h : m.ok w) (hs : sameR m m.named = true) (g1 : m.k ≠ 1) (g2 : m.k ≠ 2) (g3 : m.k ≠ 3) (g4 : m.k ≠ 4) (g5 : m.k ≠ 5) :
  Calls Tryz.prog 166 #[m.val] w fun e w' => e = .returned (.bool (false)) ∧ Below w.heap.size w w' := by
 have q1 : (m.k == 1) = false := beq_eq_false_iff_ne.2 g1; have q2 : (m.k == 2) = false := beq_eq_false_iff_ne.2 g2; have q3 : (m.k == 3) = false := beq_eq_false_iff_ne.2 g3; have q4 : (m.k == 4) = false := beq_eq_false_iff_ne.2 g4; have q5 : (m.k == 5) = false := beq_eq_false_iff_ne.2 g5; clear g1 g2 g3 g4 g5; obtain ⟨wa, hwa⟩ : ∃ wa, wa = w.alloc (.cells m.cells 40) := ⟨_, rfl⟩; have hba : Below w.heap.size w wa := by rw [hwa]; exact Below.al (Below.refl _ _) _
 have hbx : BoxG wa w.heap.size m := by rw [hwa]; exact boxG w m _
 have HOK := hid (h.later hba); have HB := hid hbx; have HBA := hid hba; have HW := hid hwa; have r0 := cell_regrown hbx.c0; have r1 := cell_regrown hbx.c1; have r2 := cell_regrown hbx.c2; have r3 := cell_regrown hbx.c3; have r4 := cell_regrown hbx.c4; have r5 := cell_regrown hbx.c5
 have r6 := cell_regrown hbx.c6; have r7 := cell_regrown hbx.c7; have r8 := cell_regrown hbx.c8; have r9 := cell_regrown hbx.c9; have r10 := cell_regrown hbx.c10; have r11 := cell_regrown hbx.c11
 have HNM := hid (fun w => named_is m w); have HSM : Hid (∀ w', Below wa.heap.size wa w' → Calls Tryz.prog 212 #[m.val, m.named.val] w' fun e w'' => e = .returned (.bool true) ∧ Below w'.heap.size w' w'') := fun w' hb => rfi hs (HOK.out.later hb) (Rg.named_ok (HOK.out.later hb)) m.named_rs m.named_ws
 obtain ⟨N, hN⟩ : ∃ N, N = m.named := ⟨_, rfl⟩; rw [← hN] at HNM HSM; clear h hba hbx hwa hs hN; go_enter Tryz.func166, Tryz.ntmps166
 go_wp2_with fail
 rw [← HW.out]; refine wp_region_quiet_below (by kernel_rfl) (by kernel_rfl) ?_; repeat (go_big_quiet_step (first | (go_at_call 213; exact Calls.regrown_of (HNM.out _)) | (go_at_call 212; exact Calls.regrown_of (HSM.out _ (below_regrown _ _ _)))))
 refine wpQuiet_nil ?_; intro w1 hw1; replace hw1 := bor hw1; have HB1 := hid (HB.out.later hw1); have HBL := hid (Below.on HBA.out hw1); have HOK1 := hid (HOK.out.later hw1); have c0 := HB1.out.c0; have c1 := HB1.out.c1; have c2 := HB1.out.c2; have c3 := HB1.out.c3; have c4 := HB1.out.c4; have c5 := HB1.out.c5
 have c6 := HB1.out.c6; have c7 := HB1.out.c7; have c8 := HB1.out.c8; have c9 := HB1.out.c9; have c10 := HB1.out.c10; have c11 := HB1.out.c11
 clear hw1 r0 r1 r2 r3 r4 r5 r6 r7 r8 r9 r10 r11 HNM HSM HB HBA HOK; go_wp2_with fail
 go_ret
 exact ⟨rfl, HBL.out⟩
theorem refvalid_3 {m : Rg} {w : World} (h : m.ok w) (hs : sameR m m.named = true) (hk : m.k = 3) :
  Calls Tryz.prog 166 #[m.val] w fun e w' => e = .returned (.bool (!(m.s == 0) && ((m.oc == 1 && !(m.w == topW)) || (m.oc == 2 && (m.w == 0 && m.l == 0 && m.n == 0))))) ∧ Below w.heap.size w w' := by
 have q1 : (m.k == 1) = false := by rw [hk]; rfl
 have q2 : (m.k == 2) = false := by rw [hk]; rfl
 have q3 : (m.k == 3) = true := by rw [hk]; rfl
 clear hk; obtain ⟨wa, hwa⟩ : ∃ wa, wa = w.alloc (.cells m.cells 40) := ⟨_, rfl⟩; have hba : Below w.heap.size w wa := by rw [hwa]; exact Below.al (Below.refl _ _) _
 have hbx : BoxG wa w.heap.size m := by rw [hwa]; exact boxG w m _
 have HOK := hid (h.later hba); have HB := hid hbx; have HBA := hid hba; have HW := hid hwa; have r0 := cell_regrown hbx.c0; have r1 := cell_regrown hbx.c1; have r2 := cell_regrown hbx.c2; have r3 := cell_regrown hbx.c3; have r4 := cell_regrown hbx.c4; have r5 := cell_regrown hbx.c5
 have r6 := cell_regrown hbx.c6; have r7 := cell_regrown hbx.c7; have r8 := cell_regrown hbx.c8; have r9 := cell_regrown hbx.c9; have r10 := cell_regrown hbx.c10; have r11 := cell_regrown hbx.c11
 have HNM := hid (fun w => named_is m w); have HSM : Hid (∀ w', Below wa.heap.size wa w' → Calls Tryz.prog 212 #[m.val, m.named.val] w' fun e w'' => e = .returned (.bool true) ∧ Below w'.heap.size w' w'') := fun w' hb => rfi hs (HOK.out.later hb) (Rg.named_ok (HOK.out.later hb)) m.named_rs m.named_ws
 obtain ⟨N, hN⟩ : ∃ N, N = m.named := ⟨_, rfl⟩; rw [← hN] at HNM HSM; clear h hba hbx hwa hs hN; go_enter Tryz.func166, Tryz.ntmps166
 go_wp2_with fail
 rw [← HW.out]; refine wp_region_quiet_below (by kernel_rfl) (by kernel_rfl) ?_; repeat (go_big_quiet_step (first | (go_at_call 213; exact Calls.regrown_of (HNM.out _)) | (go_at_call 212; exact Calls.regrown_of (HSM.out _ (below_regrown _ _ _)))))
 refine wpQuiet_nil ?_; intro w1 hw1; replace hw1 := bor hw1; have HB1 := hid (HB.out.later hw1); have HBL := hid (Below.on HBA.out hw1); have HOK1 := hid (HOK.out.later hw1); have c0 := HB1.out.c0; have c1 := HB1.out.c1; have c2 := HB1.out.c2; have c3 := HB1.out.c3; have c4 := HB1.out.c4; have c5 := HB1.out.c5
 have c6 := HB1.out.c6; have c7 := HB1.out.c7; have c8 := HB1.out.c8; have c9 := HB1.out.c9; have c10 := HB1.out.c10; have c11 := HB1.out.c11
 clear hw1 r0 r1 r2 r3 r4 r5 r6 r7 r8 r9 r10 r11 HNM HSM HB HBA HOK; go_wp2_with fail
 all_goals go_ret
 all_goals refine ⟨rtb ?_, HBL.out⟩
 all_goals simp_all [topW]
theorem refvalid_2 {m : Rg} {w : World} (h : m.ok w) (hs : sameR m m.named = true) (hk : m.k = 2) :
  Calls Tryz.prog 166 #[m.val] w fun e w' => e = .returned (.bool (!(m.s == 0) && !(m.w == topW) && !(decide (m.rs.length = 0) && decide (m.ws.length = 0)) && readsOk m.rs && writesOk m.ws)) ∧ Below w.heap.size w w' := by
 have q1 : (m.k == 1) = false := by rw [hk]; rfl
 have q2 : (m.k == 2) = true := by rw [hk]; rfl
 clear hk; obtain ⟨b1, h1⟩ : ∃ b, (m.s == 0) = b := ⟨_, rfl⟩; obtain ⟨b2, h2⟩ : ∃ b, (m.w == 18446744073709551615) = b := ⟨_, rfl⟩; obtain ⟨b3, h3⟩ : ∃ b, ((m.rs.length : Int) == 0) = b := ⟨_, rfl⟩; obtain ⟨b4, h4⟩ : ∃ b, ((m.ws.length : Int) == 0) = b := ⟨_, rfl⟩; obtain ⟨ur, hur⟩ : ∃ b, readsOk m.rs = b := ⟨_, rfl⟩; obtain ⟨uw, huw⟩ : ∃ b, writesOk m.ws = b := ⟨_, rfl⟩; have hq : (!(m.s == 0) && !(m.w == topW) && !(decide (m.rs.length = 0) && decide (m.ws.length = 0)) && readsOk m.rs && writesOk m.ws) = (!b1 && !b2 && !(b3 && b4) && ur && uw) := by
  rw [h1, hur, huw, show topW = 18446744073709551615 from rfl, h2, show decide (m.rs.length = 0) = b3 by rw [← h3, Bool.eq_iff_iff]; simp, show decide (m.ws.length = 0) = b4 by rw [← h4, Bool.eq_iff_iff]; simp]
 rw [hq]; have HUR := hid hur; have HUW := hid huw; clear hq hur huw; have go : ∀ b1 b2 b3 b4 : Bool, b1 = true ∨ (b1 = false ∧ b2 = true) ∨ (b1 = false ∧ b2 = false ∧ b3 = true ∧ b4 = true) ∨ (b1 = false ∧ b2 = false ∧ b3 = true ∧ b4 = false) ∨ (b1 = false ∧ b2 = false ∧ b3 = false) := by decide
 rcases go b1 b2 b3 b4 with e | ⟨e, e'⟩ | ⟨e, e', e'', e4⟩ | ⟨e, e', e'', e4⟩ | ⟨e, e', e''⟩
 all_goals (try subst e)
 all_goals (try subst e')
 all_goals (try subst e'')
 all_goals (try subst e4)
 all_goals clear go
 ·obtain ⟨wa, hwa⟩ : ∃ wa, wa = w.alloc (.cells m.cells 40) := ⟨_, rfl⟩; have hba : Below w.heap.size w wa := by rw [hwa]; exact Below.al (Below.refl _ _) _
  have hbx : BoxG wa w.heap.size m := by rw [hwa]; exact boxG w m _
  have HOK := hid (h.later hba); have HB := hid hbx; have HBA := hid hba; have HW := hid hwa; have r0 := cell_regrown hbx.c0; have r1 := cell_regrown hbx.c1; have r2 := cell_regrown hbx.c2; have r3 := cell_regrown hbx.c3; have r4 := cell_regrown hbx.c4; have r5 := cell_regrown hbx.c5
  have r6 := cell_regrown hbx.c6; have r7 := cell_regrown hbx.c7; have r8 := cell_regrown hbx.c8; have r9 := cell_regrown hbx.c9; have r10 := cell_regrown hbx.c10; have r11 := cell_regrown hbx.c11
  have HNM := hid (fun w => named_is m w); have HSM : Hid (∀ w', Below wa.heap.size wa w' → Calls Tryz.prog 212 #[m.val, m.named.val] w' fun e w'' => e = .returned (.bool true) ∧ Below w'.heap.size w' w'') := fun w' hb => rfi hs (HOK.out.later hb) (Rg.named_ok (HOK.out.later hb)) m.named_rs m.named_ws
  obtain ⟨N, hN⟩ : ∃ N, N = m.named := ⟨_, rfl⟩; rw [← hN] at HNM HSM; clear h hba hbx hwa hs hN; go_enter Tryz.func166, Tryz.ntmps166
  go_wp2_with fail
  rw [← HW.out]; refine wp_region_quiet_below (by kernel_rfl) (by kernel_rfl) ?_; repeat (go_big_quiet_step (first | (go_at_call 213; exact Calls.regrown_of (HNM.out _)) | (go_at_call 212; exact Calls.regrown_of (HSM.out _ (below_regrown _ _ _)))))
  refine wpQuiet_nil ?_; intro w1 hw1; replace hw1 := bor hw1; have HB1 := hid (HB.out.later hw1); have HBL := hid (Below.on HBA.out hw1); have HOK1 := hid (HOK.out.later hw1); have c0 := HB1.out.c0; have c1 := HB1.out.c1; have c2 := HB1.out.c2; have c3 := HB1.out.c3; have c4 := HB1.out.c4; have c5 := HB1.out.c5
  have c6 := HB1.out.c6; have c7 := HB1.out.c7; have c8 := HB1.out.c8; have c9 := HB1.out.c9; have c10 := HB1.out.c10; have c11 := HB1.out.c11
  clear hw1 r0 r1 r2 r3 r4 r5 r6 r7 r8 r9 r10 r11 HNM HSM HB HBA HOK; go_wp2_with fail
  go_ret
  exact ⟨rtb (by simp), HBL.out⟩
 ·obtain ⟨wa, hwa⟩ : ∃ wa, wa = w.alloc (.cells m.cells 40) := ⟨_, rfl⟩; have hba : Below w.heap.size w wa := by rw [hwa]; exact Below.al (Below.refl _ _) _
  have hbx : BoxG wa w.heap.size m := by rw [hwa]; exact boxG w m _
  have HOK := hid (h.later hba); have HB := hid hbx; have HBA := hid hba; have HW := hid hwa; have r0 := cell_regrown hbx.c0; have r1 := cell_regrown hbx.c1; have r2 := cell_regrown hbx.c2; have r3 := cell_regrown hbx.c3; have r4 := cell_regrown hbx.c4; have r5 := cell_regrown hbx.c5
  have r6 := cell_regrown hbx.c6; have r7 := cell_regrown hbx.c7; have r8 := cell_regrown hbx.c8; have r9 := cell_regrown hbx.c9; have r10 := cell_regrown hbx.c10; have r11 := cell_regrown hbx.c11
  have HNM := hid (fun w => named_is m w); have HSM : Hid (∀ w', Below wa.heap.size wa w' → Calls Tryz.prog 212 #[m.val, m.named.val] w' fun e w'' => e = .returned (.bool true) ∧ Below w'.heap.size w' w'') := fun w' hb => rfi hs (HOK.out.later hb) (Rg.named_ok (HOK.out.later hb)) m.named_rs m.named_ws
  obtain ⟨N, hN⟩ : ∃ N, N = m.named := ⟨_, rfl⟩; rw [← hN] at HNM HSM; clear h hba hbx hwa hs hN; go_enter Tryz.func166, Tryz.ntmps166
  go_wp2_with fail
  rw [← HW.out]; refine wp_region_quiet_below (by kernel_rfl) (by kernel_rfl) ?_; repeat (go_big_quiet_step (first | (go_at_call 213; exact Calls.regrown_of (HNM.out _)) | (go_at_call 212; exact Calls.regrown_of (HSM.out _ (below_regrown _ _ _)))))
  refine wpQuiet_nil ?_; intro w1 hw1; replace hw1 := bor hw1; have HB1 := hid (HB.out.later hw1); have HBL := hid (Below.on HBA.out hw1); have HOK1 := hid (HOK.out.later hw1); have c0 := HB1.out.c0; have c1 := HB1.out.c1; have c2 := HB1.out.c2; have c3 := HB1.out.c3; have c4 := HB1.out.c4; have c5 := HB1.out.c5
  have c6 := HB1.out.c6; have c7 := HB1.out.c7; have c8 := HB1.out.c8; have c9 := HB1.out.c9; have c10 := HB1.out.c10; have c11 := HB1.out.c11
  clear hw1 r0 r1 r2 r3 r4 r5 r6 r7 r8 r9 r10 r11 HNM HSM HB HBA HOK; go_wp2_with fail
  go_ret
  exact ⟨rtb (by simp), HBL.out⟩
 ·obtain ⟨wa, hwa⟩ : ∃ wa, wa = w.alloc (.cells m.cells 40) := ⟨_, rfl⟩; have hba : Below w.heap.size w wa := by rw [hwa]; exact Below.al (Below.refl _ _) _
  have hbx : BoxG wa w.heap.size m := by rw [hwa]; exact boxG w m _
  have HOK := hid (h.later hba); have HB := hid hbx; have HBA := hid hba; have HW := hid hwa; have r0 := cell_regrown hbx.c0; have r1 := cell_regrown hbx.c1; have r2 := cell_regrown hbx.c2; have r3 := cell_regrown hbx.c3; have r4 := cell_regrown hbx.c4; have r5 := cell_regrown hbx.c5
  have r6 := cell_regrown hbx.c6; have r7 := cell_regrown hbx.c7; have r8 := cell_regrown hbx.c8; have r9 := cell_regrown hbx.c9; have r10 := cell_regrown hbx.c10; have r11 := cell_regrown hbx.c11
  have HNM := hid (fun w => named_is m w); have HSM : Hid (∀ w', Below wa.heap.size wa w' → Calls Tryz.prog 212 #[m.val, m.named.val] w' fun e w'' => e = .returned (.bool true) ∧ Below w'.heap.size w' w'') := fun w' hb => rfi hs (HOK.out.later hb) (Rg.named_ok (HOK.out.later hb)) m.named_rs m.named_ws
  obtain ⟨N, hN⟩ : ∃ N, N = m.named := ⟨_, rfl⟩; rw [← hN] at HNM HSM; clear h hba hbx hwa hs hN; go_enter Tryz.func166, Tryz.ntmps166
  go_wp2_with fail
  rw [← HW.out]; refine wp_region_quiet_below (by kernel_rfl) (by kernel_rfl) ?_; repeat (go_big_quiet_step (first | (go_at_call 213; exact Calls.regrown_of (HNM.out _)) | (go_at_call 212; exact Calls.regrown_of (HSM.out _ (below_regrown _ _ _)))))
  refine wpQuiet_nil ?_; intro w1 hw1; replace hw1 := bor hw1; have HB1 := hid (HB.out.later hw1); have HBL := hid (Below.on HBA.out hw1); have HOK1 := hid (HOK.out.later hw1); have c0 := HB1.out.c0; have c1 := HB1.out.c1; have c2 := HB1.out.c2; have c3 := HB1.out.c3; have c4 := HB1.out.c4; have c5 := HB1.out.c5
  have c6 := HB1.out.c6; have c7 := HB1.out.c7; have c8 := HB1.out.c8; have c9 := HB1.out.c9; have c10 := HB1.out.c10; have c11 := HB1.out.c11
  clear hw1 r0 r1 r2 r3 r4 r5 r6 r7 r8 r9 r10 r11 HNM HSM HB HBA HOK; go_wp2_with fail
  go_ret
  exact ⟨rtb (by simp), HBL.out⟩
 ·obtain ⟨wa, hwa⟩ : ∃ wa, wa = w.alloc (.cells m.cells 40) := ⟨_, rfl⟩; have hba : Below w.heap.size w wa := by rw [hwa]; exact Below.al (Below.refl _ _) _
  have hbx : BoxG wa w.heap.size m := by rw [hwa]; exact boxG w m _
  have HOK := hid (h.later hba); have HB := hid hbx; have HBA := hid hba; have HW := hid hwa; have r0 := cell_regrown hbx.c0; have r1 := cell_regrown hbx.c1; have r2 := cell_regrown hbx.c2; have r3 := cell_regrown hbx.c3; have r4 := cell_regrown hbx.c4; have r5 := cell_regrown hbx.c5
  have r6 := cell_regrown hbx.c6; have r7 := cell_regrown hbx.c7; have r8 := cell_regrown hbx.c8; have r9 := cell_regrown hbx.c9; have r10 := cell_regrown hbx.c10; have r11 := cell_regrown hbx.c11
  have HNM := hid (fun w => named_is m w); have HSM : Hid (∀ w', Below wa.heap.size wa w' → Calls Tryz.prog 212 #[m.val, m.named.val] w' fun e w'' => e = .returned (.bool true) ∧ Below w'.heap.size w' w'') := fun w' hb => rfi hs (HOK.out.later hb) (Rg.named_ok (HOK.out.later hb)) m.named_rs m.named_ws
  obtain ⟨N, hN⟩ : ∃ N, N = m.named := ⟨_, rfl⟩; rw [← hN] at HNM HSM; clear h hba hbx hwa hs hN; go_enter Tryz.func166, Tryz.ntmps166
  go_wp2_with fail
  rw [← HW.out]; refine wp_region_quiet_below (by kernel_rfl) (by kernel_rfl) ?_; repeat (go_big_quiet_step (first | (go_at_call 213; exact Calls.regrown_of (HNM.out _)) | (go_at_call 212; exact Calls.regrown_of (HSM.out _ (below_regrown _ _ _)))))
  refine wpQuiet_nil ?_; intro w1 hw1; replace hw1 := bor hw1; have HB1 := hid (HB.out.later hw1); have HBL := hid (Below.on HBA.out hw1); have HOK1 := hid (HOK.out.later hw1); have c0 := HB1.out.c0; have c1 := HB1.out.c1; have c2 := HB1.out.c2; have c3 := HB1.out.c3; have c4 := HB1.out.c4; have c5 := HB1.out.c5
  have c6 := HB1.out.c6; have c7 := HB1.out.c7; have c8 := HB1.out.c8; have c9 := HB1.out.c9; have c10 := HB1.out.c10; have c11 := HB1.out.c11
  clear hw1 r0 r1 r2 r3 r4 r5 r6 r7 r8 r9 r10 r11 HNM HSM HB HBA HOK; go_wp2_with fail
  refine (refreads_is HUR.out HOK1.out.r HOK1.out.rl).mono ?_; rintro e w2 ⟨rfl, hb2⟩; have HBL2 := hid (Below.on HBL.out hb2); have d10 := cell_later hb2 c10; have HW2 := hid (HOK1.out.w.later hb2); clear hb2; cases ur
  ·go_wp2_with fail
   go_ret
   exact ⟨rtb (by simp), HBL2.out⟩
  ·go_wp2_with fail
   refine (refwrites_is HUW.out HW2.out HOK1.out.wl).mono ?_; rintro e w3 ⟨rfl, hb3⟩; have HBL3 := hid (Below.on HBL2.out hb3); clear hb3; go_wp2_with fail
   go_ret
   exact ⟨rtb (by simp), HBL3.out⟩
 ·obtain ⟨wa, hwa⟩ : ∃ wa, wa = w.alloc (.cells m.cells 40) := ⟨_, rfl⟩; have hba : Below w.heap.size w wa := by rw [hwa]; exact Below.al (Below.refl _ _) _
  have hbx : BoxG wa w.heap.size m := by rw [hwa]; exact boxG w m _
  have HOK := hid (h.later hba); have HB := hid hbx; have HBA := hid hba; have HW := hid hwa; have r0 := cell_regrown hbx.c0; have r1 := cell_regrown hbx.c1; have r2 := cell_regrown hbx.c2; have r3 := cell_regrown hbx.c3; have r4 := cell_regrown hbx.c4; have r5 := cell_regrown hbx.c5
  have r6 := cell_regrown hbx.c6; have r7 := cell_regrown hbx.c7; have r8 := cell_regrown hbx.c8; have r9 := cell_regrown hbx.c9; have r10 := cell_regrown hbx.c10; have r11 := cell_regrown hbx.c11
  have HNM := hid (fun w => named_is m w); have HSM : Hid (∀ w', Below wa.heap.size wa w' → Calls Tryz.prog 212 #[m.val, m.named.val] w' fun e w'' => e = .returned (.bool true) ∧ Below w'.heap.size w' w'') := fun w' hb => rfi hs (HOK.out.later hb) (Rg.named_ok (HOK.out.later hb)) m.named_rs m.named_ws
  obtain ⟨N, hN⟩ : ∃ N, N = m.named := ⟨_, rfl⟩; rw [← hN] at HNM HSM; clear h hba hbx hwa hs hN; go_enter Tryz.func166, Tryz.ntmps166
  go_wp2_with fail
  rw [← HW.out]; refine wp_region_quiet_below (by kernel_rfl) (by kernel_rfl) ?_; repeat (go_big_quiet_step (first | (go_at_call 213; exact Calls.regrown_of (HNM.out _)) | (go_at_call 212; exact Calls.regrown_of (HSM.out _ (below_regrown _ _ _)))))
  refine wpQuiet_nil ?_; intro w1 hw1; replace hw1 := bor hw1; have HB1 := hid (HB.out.later hw1); have HBL := hid (Below.on HBA.out hw1); have HOK1 := hid (HOK.out.later hw1); have c0 := HB1.out.c0; have c1 := HB1.out.c1; have c2 := HB1.out.c2; have c3 := HB1.out.c3; have c4 := HB1.out.c4; have c5 := HB1.out.c5
  have c6 := HB1.out.c6; have c7 := HB1.out.c7; have c8 := HB1.out.c8; have c9 := HB1.out.c9; have c10 := HB1.out.c10; have c11 := HB1.out.c11
  clear hw1 r0 r1 r2 r3 r4 r5 r6 r7 r8 r9 r10 r11 HNM HSM HB HBA HOK; go_wp2_with fail
  refine (refreads_is HUR.out HOK1.out.r HOK1.out.rl).mono ?_; rintro e w2 ⟨rfl, hb2⟩; have HBL2 := hid (Below.on HBL.out hb2); have d10 := cell_later hb2 c10; have HW2 := hid (HOK1.out.w.later hb2); clear hb2; cases ur
  ·go_wp2_with fail
   go_ret
   exact ⟨rtb (by simp), HBL2.out⟩
  ·go_wp2_with fail
   refine (refwrites_is HUW.out HW2.out HOK1.out.wl).mono ?_; rintro e w3 ⟨rfl, hb3⟩; have HBL3 := hid (Below.on HBL2.out hb3); clear hb3; go_wp2_with fail
   go_ret
   exact ⟨rtb (by simp), HBL3.out⟩
theorem refvalid_is {m : Rg} {w : World} {u : Bool} (hu : m.valid = u) (h : m.ok w) :
  Calls Tryz.prog 166 #[m.val] w fun e w' => e = .returned (.bool u) ∧ Below w.heap.size w w' := by
 subst hu; unfold Rg.valid; cases hs : sameR m m.named
 ·exact refvalid_no h hs
 rw [Bool.true_and]; unfold Rg.rules; by_cases g1 : m.k = 1
 ·rw [if_pos g1]; exact refvalid_1 h hs g1
 rw [if_neg g1]; by_cases g2 : m.k = 2
 ·rw [if_pos g2]; exact refvalid_2 h hs g2
 rw [if_neg g2]; by_cases g3 : m.k = 3
 ·rw [if_pos g3]; exact refvalid_3 h hs g3
 rw [if_neg g3]; by_cases g4 : m.k = 4
 ·rw [if_pos g4]; exact refvalid_4 h hs g4
 rw [if_neg g4]; by_cases g5 : m.k = 5
 ·rw [if_pos g5]; exact refvalid_5 h hs g5
 rw [if_neg g5]; exact refvalid_0 h hs g1 g2 g3 g4 g5
theorem refValid_is {m : Rg} {w : World} (h : m.ok w) :
  Calls Tryz.prog 103 #[m.val] w fun e w' => e = .returned (.int .i64 m.err) ∧ Below w.heap.size w w' := by
 obtain ⟨u, hu⟩ : ∃ u, m.valid = u := ⟨_, rfl⟩; have HU := hid hu; have he : m.err = if u then 0 else 70 := by unfold Rg.err; rw [hu]
 rw [he]; have H := hid h; clear h hu he; go_enter Tryz.func103, Tryz.ntmps103
 go_wp2_with fail
 refine (refvalid_is HU.out (H.out.later (Below.al (Below.refl _ _) _))).mono ?_; rintro e w1 ⟨rfl, hb⟩; have HB : Hid (Below w.heap.size w w1) := Below.on (Below.al (Below.refl _ _) _) hb; clear hb; cases u
 ·go_wp2_with fail
  go_ret
  exact ⟨rfl, HB.out⟩
 ·go_wp2_with fail
  go_ret
  exact ⟨rfl, HB.out⟩
end Go.Proofs.YtofpaldolcnmiaaGreat
