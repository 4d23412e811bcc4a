import Derived.Test.YtmloaddbmkonoaaKBook
namespace Go.Proofs.Ytmloaddbmkonoaa
open Go.RowKit Go.Sort
set_option linter.unusedVariables false

set_option maxHeartbeats 2000000 in
theorem use_m_first (b p : Nat) (g kp n r sw sl sn uw ul un K : Int) (l : St) (w : World) (HC : Hid (Ck.ok ⟨g, kp, n, r, l⟩)) (HS : Hid (St.ok ⟨sw, sl, sn⟩)) (H0 : Hid (ClockAt w p ⟨g, kp, n, r, l⟩)) (B0 : Hid (BookAt w b kp ⟨uw, ul, un⟩ false)) (hbp : b ≠ p) (HN : Hid (needN ⟨g, kp, n, r, l⟩ sw = K)) (HM : Hid (mustB ⟨g, kp, n, r, l⟩ sw = true)) (HX : Hid (maxI kp K = K)) (hgt : kp < K) (hlt : sw < K) :
    Calls Try.prog 21 #[.pointer (some ⟨b, 0, none⟩), .pointer (some ⟨p, 0, none⟩), stv sw sl sn] w fun e w' => e = .returned (.bool true) ∧ Only2 b p w w' ∧ BookAt w' b K ⟨sw, sl, sn⟩ true ∧ ClockAt w' p ⟨g, K, n, r, l⟩ := by
  go_enter Try.func21, Try.ntmps21
  go_wp2_with fail
  have RA : UseAt w (w3c w sw sl sn) w.heap.size b p ⟨sw, sl, sn⟩ kp ⟨uw, ul, un⟩ false ⟨g, kp, n, r, l⟩ :=
    ⟨(Only2.refl _ _ _).on (w3c_below _ _ _ _), w3c_at _ _ _ _, B0.out.later (w3c_below _ _ _ _), H0.out.later (w3c_below _ _ _ _), by have := B0.out.lt; omega, by have := H0.out.lt; omega, hbp⟩
  obtain ⟨wa, hwa⟩ : ∃ wa, wa = w3c w sw sl sn := ⟨_, rfl⟩
  rw [← hwa] at RA
  show Code.wp _ _ _ _ (w3c w sw sl sn)
  rw [← hwa]
  obtain ⟨N, hN⟩ : ∃ N, N = w.heap.size := ⟨_, rfl⟩
  rw [← hN] at RA ⊢
  have HRA := hid RA
  have ⟨s0, s1, s2⟩ := RA.st
  have ks0 := cell_regrown s0; have ks1 := cell_regrown s1; have ks2 := cell_regrown s2
  clear RA hwa hN hbp s0 s1 s2
  refine wp_region_quiet_below (by kernel_rfl) (by kernel_rfl) ?_
  repeat (go_big_quiet_step ((go_at_call 18; exact Calls.regrown_of (need_is (s := ⟨sw, sl, sn⟩) HN.out HM.out _ (HRA.out.ck.later (below_regrown _ _ _)) HC.out HS.out))))
  refine wpQuiet_nil ?_
  intro w1 hw
  have R1 := hid (HRA.out.later (below_of_regrown hw))
  clear hw HRA ks0 ks1 ks2
  go_wp2_with (first
    | (go_at_call 27; refine (reserve_any p _ K _ R1.out.ck).mono ?_; rw [HX.out]; rintro e w2 ⟨rfl, ho, hk⟩; have R2 := hid (R1.out.onC ho hk); have k0 := R2.out.bk.c0; have kf : ∀ o, w2.frozen? ⟨b, o, none⟩ = false := R2.out.bk.loose; clear ho hk))
  obtain ⟨w3, hw3⟩ : ∃ w3, w3 = setK w2 b K := ⟨_, rfl⟩
  have R3 := hid (R2.out.onB (setK_only w2 b K) (R2.out.bk.setK K))
  rw [← hw3] at R3
  show Code.wp _ _ _ _ (setK w2 b K)
  rw [← hw3]
  clear hw3 R2 k0 kf R1
  have ⟨s0, s1, s2⟩ := R3.out.st
  have b1 := R3.out.bk.c1; have b2 := R3.out.bk.c2; have b3 := R3.out.bk.c3; have b4 := R3.out.bk.c4
  have ks0 := cell_regrown s0; have ks1 := cell_regrown s1; have ks2 := cell_regrown s2
  have kb1 := cell_regrown b1; have kb2 := cell_regrown b2; have kb3 := cell_regrown b3; have kb4 := cell_regrown b4
  refine wp_region_quiet_below (by kernel_rfl) (by kernel_rfl) ?_
  repeat (go_big_quiet_step ((fail)))
  refine wpQuiet_nil ?_
  intro w4 hw
  have R4 := hid (R3.out.later (below_of_regrown hw))
  clear hw R3 s0 s1 s2 b1 b2 b3 b4 ks0 ks1 ks2 kb1 kb2 kb3 kb4
  have ⟨s0, s1, s2⟩ := R4.out.st
  have b1 := R4.out.bk.c1; have b2 := R4.out.bk.c2; have b3 := R4.out.bk.c3; have b4 := R4.out.bk.c4
  have kf : ∀ o, w4.frozen? ⟨b, o, none⟩ = false := R4.out.bk.loose
  have hnb := R4.out.nb
  go_wp2_with fail
  obtain ⟨w5, hw5⟩ : ∃ w5, w5 = setY (setU w4 b ⟨sw, sl, sn⟩) b := ⟨_, rfl⟩
  have R5 := hid ((R4.out.onB (setU_only w4 b ⟨sw, sl, sn⟩) (R4.out.bk.setU ⟨sw, sl, sn⟩)).onB (setY_only _ b) (R4.out.bk.setU ⟨sw, sl, sn⟩).setY)
  rw [← hw5] at R5
  show Code.wp _ _ _ _ (setY (setU w4 b ⟨sw, sl, sn⟩) b)
  rw [← hw5]
  clear hw5 R4 s0 s1 s2 b1 b2 b3 b4 kf hnb
  have ⟨s0, s1, s2⟩ := R5.out.st
  have b0 := R5.out.bk.c0
  have ks0 := cell_regrown s0; have kb0 := cell_regrown b0
  refine wp_region_quiet_below (by kernel_rfl) (by kernel_rfl) ?_
  repeat (go_big_quiet_step ((go_at_call 28; exact Calls.regrown_of (ceiling_any p _ _ (R5.out.ck.later (below_regrown _ _ _))))))
  refine wpQuiet_nil ?_
  intro w6 hw
  have R6 := hid (R5.out.later (below_of_regrown hw))
  clear hw R5 s0 s1 s2 b0 ks0 kb0
  go_wp2_with fail
  go_ret
  exact ⟨by simp, R6.out.only, R6.out.bk, R6.out.ck⟩

set_option maxHeartbeats 2000000 in
theorem use_m_less (b p : Nat) (g kp n r sw sl sn uw ul un K : Int) (l : St) (w : World) (HC : Hid (Ck.ok ⟨g, kp, n, r, l⟩)) (HS : Hid (St.ok ⟨sw, sl, sn⟩)) (H0 : Hid (ClockAt w p ⟨g, kp, n, r, l⟩)) (B0 : Hid (BookAt w b kp ⟨uw, ul, un⟩ true)) (hbp : b ≠ p) (HN : Hid (needN ⟨g, kp, n, r, l⟩ sw = K)) (HM : Hid (mustB ⟨g, kp, n, r, l⟩ sw = true)) (HX : Hid (maxI kp K = K)) (hgt : kp < K) (hlt : sw < K) (HA : Hid (lessB uw ul un sw sl sn = true)) :
    Calls Try.prog 21 #[.pointer (some ⟨b, 0, none⟩), .pointer (some ⟨p, 0, none⟩), stv sw sl sn] w fun e w' => e = .returned (.bool true) ∧ Only2 b p w w' ∧ BookAt w' b K ⟨sw, sl, sn⟩ true ∧ ClockAt w' p ⟨g, K, n, r, l⟩ := by
  go_enter Try.func21, Try.ntmps21
  go_wp2_with fail
  have RA : UseAt w (w3c w sw sl sn) w.heap.size b p ⟨sw, sl, sn⟩ kp ⟨uw, ul, un⟩ true ⟨g, kp, n, r, l⟩ :=
    ⟨(Only2.refl _ _ _).on (w3c_below _ _ _ _), w3c_at _ _ _ _, B0.out.later (w3c_below _ _ _ _), H0.out.later (w3c_below _ _ _ _), by have := B0.out.lt; omega, by have := H0.out.lt; omega, hbp⟩
  obtain ⟨wa, hwa⟩ : ∃ wa, wa = w3c w sw sl sn := ⟨_, rfl⟩
  rw [← hwa] at RA
  show Code.wp _ _ _ _ (w3c w sw sl sn)
  rw [← hwa]
  obtain ⟨N, hN⟩ : ∃ N, N = w.heap.size := ⟨_, rfl⟩
  rw [← hN] at RA ⊢
  have HRA := hid RA
  have ⟨s0, s1, s2⟩ := RA.st
  have ks0 := cell_regrown s0; have ks1 := cell_regrown s1; have ks2 := cell_regrown s2
  clear RA hwa hN hbp s0 s1 s2
  refine wp_region_quiet_below (by kernel_rfl) (by kernel_rfl) ?_
  repeat (go_big_quiet_step ((go_at_call 18; exact Calls.regrown_of (need_is (s := ⟨sw, sl, sn⟩) HN.out HM.out _ (HRA.out.ck.later (below_regrown _ _ _)) HC.out HS.out))))
  refine wpQuiet_nil ?_
  intro w1 hw
  have R1 := hid (HRA.out.later (below_of_regrown hw))
  clear hw HRA ks0 ks1 ks2
  go_wp2_with (first
    | (go_at_call 27; refine (reserve_any p _ K _ R1.out.ck).mono ?_; rw [HX.out]; rintro e w2 ⟨rfl, ho, hk⟩; have R2 := hid (R1.out.onC ho hk); have k0 := R2.out.bk.c0; have kf : ∀ o, w2.frozen? ⟨b, o, none⟩ = false := R2.out.bk.loose; clear ho hk))
  obtain ⟨w3, hw3⟩ : ∃ w3, w3 = setK w2 b K := ⟨_, rfl⟩
  have R3 := hid (R2.out.onB (setK_only w2 b K) (R2.out.bk.setK K))
  rw [← hw3] at R3
  show Code.wp _ _ _ _ (setK w2 b K)
  rw [← hw3]
  clear hw3 R2 k0 kf R1
  have ⟨s0, s1, s2⟩ := R3.out.st
  have b1 := R3.out.bk.c1; have b2 := R3.out.bk.c2; have b3 := R3.out.bk.c3; have b4 := R3.out.bk.c4
  have ks0 := cell_regrown s0; have ks1 := cell_regrown s1; have ks2 := cell_regrown s2
  have kb1 := cell_regrown b1; have kb2 := cell_regrown b2; have kb3 := cell_regrown b3; have kb4 := cell_regrown b4
  refine wp_region_quiet_below (by kernel_rfl) (by kernel_rfl) ?_
  repeat (go_big_quiet_step ((go_at_call 15; exact Calls.regrown_of (after_is HA.out _))))
  refine wpQuiet_nil ?_
  intro w4 hw
  have R4 := hid (R3.out.later (below_of_regrown hw))
  clear hw R3 s0 s1 s2 b1 b2 b3 b4 ks0 ks1 ks2 kb1 kb2 kb3 kb4
  have ⟨s0, s1, s2⟩ := R4.out.st
  have b1 := R4.out.bk.c1; have b2 := R4.out.bk.c2; have b3 := R4.out.bk.c3; have b4 := R4.out.bk.c4
  have kf : ∀ o, w4.frozen? ⟨b, o, none⟩ = false := R4.out.bk.loose
  have hnb := R4.out.nb
  go_wp2_with fail
  obtain ⟨w5, hw5⟩ : ∃ w5, w5 = setY (setU w4 b ⟨sw, sl, sn⟩) b := ⟨_, rfl⟩
  have R5 := hid ((R4.out.onB (setU_only w4 b ⟨sw, sl, sn⟩) (R4.out.bk.setU ⟨sw, sl, sn⟩)).onB (setY_only _ b) (R4.out.bk.setU ⟨sw, sl, sn⟩).setY)
  rw [← hw5] at R5
  show Code.wp _ _ _ _ (setY (setU w4 b ⟨sw, sl, sn⟩) b)
  rw [← hw5]
  clear hw5 R4 s0 s1 s2 b1 b2 b3 b4 kf hnb
  have ⟨s0, s1, s2⟩ := R5.out.st
  have b0 := R5.out.bk.c0
  have ks0 := cell_regrown s0; have kb0 := cell_regrown b0
  refine wp_region_quiet_below (by kernel_rfl) (by kernel_rfl) ?_
  repeat (go_big_quiet_step ((go_at_call 28; exact Calls.regrown_of (ceiling_any p _ _ (R5.out.ck.later (below_regrown _ _ _))))))
  refine wpQuiet_nil ?_
  intro w6 hw
  have R6 := hid (R5.out.later (below_of_regrown hw))
  clear hw R5 s0 s1 s2 b0 ks0 kb0
  go_wp2_with fail
  go_ret
  exact ⟨by simp, R6.out.only, R6.out.bk, R6.out.ck⟩

set_option maxHeartbeats 2000000 in
theorem use_m_not (b p : Nat) (g kp n r sw sl sn uw ul un K : Int) (l : St) (w : World) (HC : Hid (Ck.ok ⟨g, kp, n, r, l⟩)) (HS : Hid (St.ok ⟨sw, sl, sn⟩)) (H0 : Hid (ClockAt w p ⟨g, kp, n, r, l⟩)) (B0 : Hid (BookAt w b kp ⟨uw, ul, un⟩ true)) (hbp : b ≠ p) (HN : Hid (needN ⟨g, kp, n, r, l⟩ sw = K)) (HM : Hid (mustB ⟨g, kp, n, r, l⟩ sw = true)) (HX : Hid (maxI kp K = K)) (hgt : kp < K) (hlt : sw < K) (HA : Hid (lessB uw ul un sw sl sn = false)) :
    Calls Try.prog 21 #[.pointer (some ⟨b, 0, none⟩), .pointer (some ⟨p, 0, none⟩), stv sw sl sn] w fun e w' => e = .returned (.bool true) ∧ Only2 b p w w' ∧ BookAt w' b K ⟨uw, ul, un⟩ true ∧ ClockAt w' p ⟨g, K, n, r, l⟩ := by
  go_enter Try.func21, Try.ntmps21
  go_wp2_with fail
  have RA : UseAt w (w3c w sw sl sn) w.heap.size b p ⟨sw, sl, sn⟩ kp ⟨uw, ul, un⟩ true ⟨g, kp, n, r, l⟩ :=
    ⟨(Only2.refl _ _ _).on (w3c_below _ _ _ _), w3c_at _ _ _ _, B0.out.later (w3c_below _ _ _ _), H0.out.later (w3c_below _ _ _ _), by have := B0.out.lt; omega, by have := H0.out.lt; omega, hbp⟩
  obtain ⟨wa, hwa⟩ : ∃ wa, wa = w3c w sw sl sn := ⟨_, rfl⟩
  rw [← hwa] at RA
  show Code.wp _ _ _ _ (w3c w sw sl sn)
  rw [← hwa]
  obtain ⟨N, hN⟩ : ∃ N, N = w.heap.size := ⟨_, rfl⟩
  rw [← hN] at RA ⊢
  have HRA := hid RA
  have ⟨s0, s1, s2⟩ := RA.st
  have ks0 := cell_regrown s0; have ks1 := cell_regrown s1; have ks2 := cell_regrown s2
  clear RA hwa hN hbp s0 s1 s2
  refine wp_region_quiet_below (by kernel_rfl) (by kernel_rfl) ?_
  repeat (go_big_quiet_step ((go_at_call 18; exact Calls.regrown_of (need_is (s := ⟨sw, sl, sn⟩) HN.out HM.out _ (HRA.out.ck.later (below_regrown _ _ _)) HC.out HS.out))))
  refine wpQuiet_nil ?_
  intro w1 hw
  have R1 := hid (HRA.out.later (below_of_regrown hw))
  clear hw HRA ks0 ks1 ks2
  go_wp2_with (first
    | (go_at_call 27; refine (reserve_any p _ K _ R1.out.ck).mono ?_; rw [HX.out]; rintro e w2 ⟨rfl, ho, hk⟩; have R2 := hid (R1.out.onC ho hk); have k0 := R2.out.bk.c0; have kf : ∀ o, w2.frozen? ⟨b, o, none⟩ = false := R2.out.bk.loose; clear ho hk))
  obtain ⟨w3, hw3⟩ : ∃ w3, w3 = setK w2 b K := ⟨_, rfl⟩
  have R3 := hid (R2.out.onB (setK_only w2 b K) (R2.out.bk.setK K))
  rw [← hw3] at R3
  show Code.wp _ _ _ _ (setK w2 b K)
  rw [← hw3]
  clear hw3 R2 k0 kf R1
  have ⟨s0, s1, s2⟩ := R3.out.st
  have b1 := R3.out.bk.c1; have b2 := R3.out.bk.c2; have b3 := R3.out.bk.c3; have b4 := R3.out.bk.c4
  have ks0 := cell_regrown s0; have ks1 := cell_regrown s1; have ks2 := cell_regrown s2
  have kb1 := cell_regrown b1; have kb2 := cell_regrown b2; have kb3 := cell_regrown b3; have kb4 := cell_regrown b4
  refine wp_region_quiet_below (by kernel_rfl) (by kernel_rfl) ?_
  repeat (go_big_quiet_step ((go_at_call 15; exact Calls.regrown_of (after_is HA.out _))))
  refine wpQuiet_nil ?_
  intro w4 hw
  have R4 := hid (R3.out.later (below_of_regrown hw))
  clear hw R3 s0 s1 s2 b1 b2 b3 b4 ks0 ks1 ks2 kb1 kb2 kb3 kb4
  have ⟨s0, s1, s2⟩ := R4.out.st
  have b1 := R4.out.bk.c1; have b2 := R4.out.bk.c2; have b3 := R4.out.bk.c3; have b4 := R4.out.bk.c4
  have kf : ∀ o, w4.frozen? ⟨b, o, none⟩ = false := R4.out.bk.loose
  have hnb := R4.out.nb
  go_wp2_with fail
  obtain ⟨w5, hw5⟩ : ∃ w5, w5 = setY w4 b := ⟨_, rfl⟩
  have R5 := hid (R4.out.onB (setY_only w4 b) R4.out.bk.setY)
  rw [← hw5] at R5
  show Code.wp _ _ _ _ (setY w4 b)
  rw [← hw5]
  clear hw5 R4 s0 s1 s2 b1 b2 b3 b4 kf hnb
  have ⟨s0, s1, s2⟩ := R5.out.st
  have b0 := R5.out.bk.c0
  have ks0 := cell_regrown s0; have kb0 := cell_regrown b0
  refine wp_region_quiet_below (by kernel_rfl) (by kernel_rfl) ?_
  repeat (go_big_quiet_step ((go_at_call 28; exact Calls.regrown_of (ceiling_any p _ _ (R5.out.ck.later (below_regrown _ _ _))))))
  refine wpQuiet_nil ?_
  intro w6 hw
  have R6 := hid (R5.out.later (below_of_regrown hw))
  clear hw R5 s0 s1 s2 b0 ks0 kb0
  go_wp2_with fail
  go_ret
  exact ⟨by simp, R6.out.only, R6.out.bk, R6.out.ck⟩

set_option maxHeartbeats 2000000 in
theorem use_n_first (b p : Nat) (g kp n r sw sl sn uw ul un : Int) (l : St) (w : World) (HC : Hid (Ck.ok ⟨g, kp, n, r, l⟩)) (HS : Hid (St.ok ⟨sw, sl, sn⟩)) (H0 : Hid (ClockAt w p ⟨g, kp, n, r, l⟩)) (B0 : Hid (BookAt w b kp ⟨uw, ul, un⟩ false)) (hbp : b ≠ p) (HN : Hid (needN ⟨g, kp, n, r, l⟩ sw = 0)) (HM : Hid (mustB ⟨g, kp, n, r, l⟩ sw = false)) (hlt : sw < kp) :
    Calls Try.prog 21 #[.pointer (some ⟨b, 0, none⟩), .pointer (some ⟨p, 0, none⟩), stv sw sl sn] w fun e w' => e = .returned (.bool true) ∧ Only2 b p w w' ∧ BookAt w' b kp ⟨sw, sl, sn⟩ true ∧ ClockAt w' p ⟨g, kp, n, r, l⟩ := by
  go_enter Try.func21, Try.ntmps21
  go_wp2_with fail
  have RA : UseAt w (w3c w sw sl sn) w.heap.size b p ⟨sw, sl, sn⟩ kp ⟨uw, ul, un⟩ false ⟨g, kp, n, r, l⟩ :=
    ⟨(Only2.refl _ _ _).on (w3c_below _ _ _ _), w3c_at _ _ _ _, B0.out.later (w3c_below _ _ _ _), H0.out.later (w3c_below _ _ _ _), by have := B0.out.lt; omega, by have := H0.out.lt; omega, hbp⟩
  obtain ⟨wa, hwa⟩ : ∃ wa, wa = w3c w sw sl sn := ⟨_, rfl⟩
  rw [← hwa] at RA
  show Code.wp _ _ _ _ (w3c w sw sl sn)
  rw [← hwa]
  obtain ⟨N, hN⟩ : ∃ N, N = w.heap.size := ⟨_, rfl⟩
  rw [← hN] at RA ⊢
  have HRA := hid RA
  have ⟨s0, s1, s2⟩ := RA.st
  have ks0 := cell_regrown s0; have ks1 := cell_regrown s1; have ks2 := cell_regrown s2
  clear RA hwa hN hbp s0 s1 s2
  refine wp_region_quiet_below (by kernel_rfl) (by kernel_rfl) ?_
  repeat (go_big_quiet_step ((go_at_call 18; exact Calls.regrown_of (need_is (s := ⟨sw, sl, sn⟩) HN.out HM.out _ (HRA.out.ck.later (below_regrown _ _ _)) HC.out HS.out))))
  refine wpQuiet_nil ?_
  intro w1 hw
  have R1 := hid (HRA.out.later (below_of_regrown hw))
  clear hw HRA ks0 ks1 ks2
  go_wp2_with fail
  have R3 := R1
  obtain ⟨w3, hw3⟩ : ∃ w3, w3 = w1 := ⟨_, rfl⟩
  rw [← hw3] at R3
  rw [← hw3]
  clear hw3 R1
  have ⟨s0, s1, s2⟩ := R3.out.st
  have b1 := R3.out.bk.c1; have b2 := R3.out.bk.c2; have b3 := R3.out.bk.c3; have b4 := R3.out.bk.c4
  have ks0 := cell_regrown s0; have ks1 := cell_regrown s1; have ks2 := cell_regrown s2
  have kb1 := cell_regrown b1; have kb2 := cell_regrown b2; have kb3 := cell_regrown b3; have kb4 := cell_regrown b4
  refine wp_region_quiet_below (by kernel_rfl) (by kernel_rfl) ?_
  repeat (go_big_quiet_step ((fail)))
  refine wpQuiet_nil ?_
  intro w4 hw
  have R4 := hid (R3.out.later (below_of_regrown hw))
  clear hw R3 s0 s1 s2 b1 b2 b3 b4 ks0 ks1 ks2 kb1 kb2 kb3 kb4
  have ⟨s0, s1, s2⟩ := R4.out.st
  have b1 := R4.out.bk.c1; have b2 := R4.out.bk.c2; have b3 := R4.out.bk.c3; have b4 := R4.out.bk.c4
  have kf : ∀ o, w4.frozen? ⟨b, o, none⟩ = false := R4.out.bk.loose
  have hnb := R4.out.nb
  go_wp2_with fail
  obtain ⟨w5, hw5⟩ : ∃ w5, w5 = setY (setU w4 b ⟨sw, sl, sn⟩) b := ⟨_, rfl⟩
  have R5 := hid ((R4.out.onB (setU_only w4 b ⟨sw, sl, sn⟩) (R4.out.bk.setU ⟨sw, sl, sn⟩)).onB (setY_only _ b) (R4.out.bk.setU ⟨sw, sl, sn⟩).setY)
  rw [← hw5] at R5
  show Code.wp _ _ _ _ (setY (setU w4 b ⟨sw, sl, sn⟩) b)
  rw [← hw5]
  clear hw5 R4 s0 s1 s2 b1 b2 b3 b4 kf hnb
  have ⟨s0, s1, s2⟩ := R5.out.st
  have b0 := R5.out.bk.c0
  have ks0 := cell_regrown s0; have kb0 := cell_regrown b0
  refine wp_region_quiet_below (by kernel_rfl) (by kernel_rfl) ?_
  repeat (go_big_quiet_step ((go_at_call 28; exact Calls.regrown_of (ceiling_any p _ _ (R5.out.ck.later (below_regrown _ _ _))))))
  refine wpQuiet_nil ?_
  intro w6 hw
  have R6 := hid (R5.out.later (below_of_regrown hw))
  clear hw R5 s0 s1 s2 b0 ks0 kb0
  go_wp2_with fail
  go_ret
  exact ⟨by simp, R6.out.only, R6.out.bk, R6.out.ck⟩

set_option maxHeartbeats 2000000 in
theorem use_n_less (b p : Nat) (g kp n r sw sl sn uw ul un : Int) (l : St) (w : World) (HC : Hid (Ck.ok ⟨g, kp, n, r, l⟩)) (HS : Hid (St.ok ⟨sw, sl, sn⟩)) (H0 : Hid (ClockAt w p ⟨g, kp, n, r, l⟩)) (B0 : Hid (BookAt w b kp ⟨uw, ul, un⟩ true)) (hbp : b ≠ p) (HN : Hid (needN ⟨g, kp, n, r, l⟩ sw = 0)) (HM : Hid (mustB ⟨g, kp, n, r, l⟩ sw = false)) (hlt : sw < kp) (HA : Hid (lessB uw ul un sw sl sn = true)) :
    Calls Try.prog 21 #[.pointer (some ⟨b, 0, none⟩), .pointer (some ⟨p, 0, none⟩), stv sw sl sn] w fun e w' => e = .returned (.bool true) ∧ Only2 b p w w' ∧ BookAt w' b kp ⟨sw, sl, sn⟩ true ∧ ClockAt w' p ⟨g, kp, n, r, l⟩ := by
  go_enter Try.func21, Try.ntmps21
  go_wp2_with fail
  have RA : UseAt w (w3c w sw sl sn) w.heap.size b p ⟨sw, sl, sn⟩ kp ⟨uw, ul, un⟩ true ⟨g, kp, n, r, l⟩ :=
    ⟨(Only2.refl _ _ _).on (w3c_below _ _ _ _), w3c_at _ _ _ _, B0.out.later (w3c_below _ _ _ _), H0.out.later (w3c_below _ _ _ _), by have := B0.out.lt; omega, by have := H0.out.lt; omega, hbp⟩
  obtain ⟨wa, hwa⟩ : ∃ wa, wa = w3c w sw sl sn := ⟨_, rfl⟩
  rw [← hwa] at RA
  show Code.wp _ _ _ _ (w3c w sw sl sn)
  rw [← hwa]
  obtain ⟨N, hN⟩ : ∃ N, N = w.heap.size := ⟨_, rfl⟩
  rw [← hN] at RA ⊢
  have HRA := hid RA
  have ⟨s0, s1, s2⟩ := RA.st
  have ks0 := cell_regrown s0; have ks1 := cell_regrown s1; have ks2 := cell_regrown s2
  clear RA hwa hN hbp s0 s1 s2
  refine wp_region_quiet_below (by kernel_rfl) (by kernel_rfl) ?_
  repeat (go_big_quiet_step ((go_at_call 18; exact Calls.regrown_of (need_is (s := ⟨sw, sl, sn⟩) HN.out HM.out _ (HRA.out.ck.later (below_regrown _ _ _)) HC.out HS.out))))
  refine wpQuiet_nil ?_
  intro w1 hw
  have R1 := hid (HRA.out.later (below_of_regrown hw))
  clear hw HRA ks0 ks1 ks2
  go_wp2_with fail
  have R3 := R1
  obtain ⟨w3, hw3⟩ : ∃ w3, w3 = w1 := ⟨_, rfl⟩
  rw [← hw3] at R3
  rw [← hw3]
  clear hw3 R1
  have ⟨s0, s1, s2⟩ := R3.out.st
  have b1 := R3.out.bk.c1; have b2 := R3.out.bk.c2; have b3 := R3.out.bk.c3; have b4 := R3.out.bk.c4
  have ks0 := cell_regrown s0; have ks1 := cell_regrown s1; have ks2 := cell_regrown s2
  have kb1 := cell_regrown b1; have kb2 := cell_regrown b2; have kb3 := cell_regrown b3; have kb4 := cell_regrown b4
  refine wp_region_quiet_below (by kernel_rfl) (by kernel_rfl) ?_
  repeat (go_big_quiet_step ((go_at_call 15; exact Calls.regrown_of (after_is HA.out _))))
  refine wpQuiet_nil ?_
  intro w4 hw
  have R4 := hid (R3.out.later (below_of_regrown hw))
  clear hw R3 s0 s1 s2 b1 b2 b3 b4 ks0 ks1 ks2 kb1 kb2 kb3 kb4
  have ⟨s0, s1, s2⟩ := R4.out.st
  have b1 := R4.out.bk.c1; have b2 := R4.out.bk.c2; have b3 := R4.out.bk.c3; have b4 := R4.out.bk.c4
  have kf : ∀ o, w4.frozen? ⟨b, o, none⟩ = false := R4.out.bk.loose
  have hnb := R4.out.nb
  go_wp2_with fail
  obtain ⟨w5, hw5⟩ : ∃ w5, w5 = setY (setU w4 b ⟨sw, sl, sn⟩) b := ⟨_, rfl⟩
  have R5 := hid ((R4.out.onB (setU_only w4 b ⟨sw, sl, sn⟩) (R4.out.bk.setU ⟨sw, sl, sn⟩)).onB (setY_only _ b) (R4.out.bk.setU ⟨sw, sl, sn⟩).setY)
  rw [← hw5] at R5
  show Code.wp _ _ _ _ (setY (setU w4 b ⟨sw, sl, sn⟩) b)
  rw [← hw5]
  clear hw5 R4 s0 s1 s2 b1 b2 b3 b4 kf hnb
  have ⟨s0, s1, s2⟩ := R5.out.st
  have b0 := R5.out.bk.c0
  have ks0 := cell_regrown s0; have kb0 := cell_regrown b0
  refine wp_region_quiet_below (by kernel_rfl) (by kernel_rfl) ?_
  repeat (go_big_quiet_step ((go_at_call 28; exact Calls.regrown_of (ceiling_any p _ _ (R5.out.ck.later (below_regrown _ _ _))))))
  refine wpQuiet_nil ?_
  intro w6 hw
  have R6 := hid (R5.out.later (below_of_regrown hw))
  clear hw R5 s0 s1 s2 b0 ks0 kb0
  go_wp2_with fail
  go_ret
  exact ⟨by simp, R6.out.only, R6.out.bk, R6.out.ck⟩

set_option maxHeartbeats 2000000 in
theorem use_n_not (b p : Nat) (g kp n r sw sl sn uw ul un : Int) (l : St) (w : World) (HC : Hid (Ck.ok ⟨g, kp, n, r, l⟩)) (HS : Hid (St.ok ⟨sw, sl, sn⟩)) (H0 : Hid (ClockAt w p ⟨g, kp, n, r, l⟩)) (B0 : Hid (BookAt w b kp ⟨uw, ul, un⟩ true)) (hbp : b ≠ p) (HN : Hid (needN ⟨g, kp, n, r, l⟩ sw = 0)) (HM : Hid (mustB ⟨g, kp, n, r, l⟩ sw = false)) (hlt : sw < kp) (HA : Hid (lessB uw ul un sw sl sn = false)) :
    Calls Try.prog 21 #[.pointer (some ⟨b, 0, none⟩), .pointer (some ⟨p, 0, none⟩), stv sw sl sn] w fun e w' => e = .returned (.bool true) ∧ Only2 b p w w' ∧ BookAt w' b kp ⟨uw, ul, un⟩ true ∧ ClockAt w' p ⟨g, kp, n, r, l⟩ := by
  go_enter Try.func21, Try.ntmps21
  go_wp2_with fail
  have RA : UseAt w (w3c w sw sl sn) w.heap.size b p ⟨sw, sl, sn⟩ kp ⟨uw, ul, un⟩ true ⟨g, kp, n, r, l⟩ :=
    ⟨(Only2.refl _ _ _).on (w3c_below _ _ _ _), w3c_at _ _ _ _, B0.out.later (w3c_below _ _ _ _), H0.out.later (w3c_below _ _ _ _), by have := B0.out.lt; omega, by have := H0.out.lt; omega, hbp⟩
  obtain ⟨wa, hwa⟩ : ∃ wa, wa = w3c w sw sl sn := ⟨_, rfl⟩
  rw [← hwa] at RA
  show Code.wp _ _ _ _ (w3c w sw sl sn)
  rw [← hwa]
  obtain ⟨N, hN⟩ : ∃ N, N = w.heap.size := ⟨_, rfl⟩
  rw [← hN] at RA ⊢
  have HRA := hid RA
  have ⟨s0, s1, s2⟩ := RA.st
  have ks0 := cell_regrown s0; have ks1 := cell_regrown s1; have ks2 := cell_regrown s2
  clear RA hwa hN hbp s0 s1 s2
  refine wp_region_quiet_below (by kernel_rfl) (by kernel_rfl) ?_
  repeat (go_big_quiet_step ((go_at_call 18; exact Calls.regrown_of (need_is (s := ⟨sw, sl, sn⟩) HN.out HM.out _ (HRA.out.ck.later (below_regrown _ _ _)) HC.out HS.out))))
  refine wpQuiet_nil ?_
  intro w1 hw
  have R1 := hid (HRA.out.later (below_of_regrown hw))
  clear hw HRA ks0 ks1 ks2
  go_wp2_with fail
  have R3 := R1
  obtain ⟨w3, hw3⟩ : ∃ w3, w3 = w1 := ⟨_, rfl⟩
  rw [← hw3] at R3
  rw [← hw3]
  clear hw3 R1
  have ⟨s0, s1, s2⟩ := R3.out.st
  have b1 := R3.out.bk.c1; have b2 := R3.out.bk.c2; have b3 := R3.out.bk.c3; have b4 := R3.out.bk.c4
  have ks0 := cell_regrown s0; have ks1 := cell_regrown s1; have ks2 := cell_regrown s2
  have kb1 := cell_regrown b1; have kb2 := cell_regrown b2; have kb3 := cell_regrown b3; have kb4 := cell_regrown b4
  refine wp_region_quiet_below (by kernel_rfl) (by kernel_rfl) ?_
  repeat (go_big_quiet_step ((go_at_call 15; exact Calls.regrown_of (after_is HA.out _))))
  refine wpQuiet_nil ?_
  intro w4 hw
  have R4 := hid (R3.out.later (below_of_regrown hw))
  clear hw R3 s0 s1 s2 b1 b2 b3 b4 ks0 ks1 ks2 kb1 kb2 kb3 kb4
  have ⟨s0, s1, s2⟩ := R4.out.st
  have b1 := R4.out.bk.c1; have b2 := R4.out.bk.c2; have b3 := R4.out.bk.c3; have b4 := R4.out.bk.c4
  have kf : ∀ o, w4.frozen? ⟨b, o, none⟩ = false := R4.out.bk.loose
  have hnb := R4.out.nb
  go_wp2_with fail
  obtain ⟨w5, hw5⟩ : ∃ w5, w5 = setY w4 b := ⟨_, rfl⟩
  have R5 := hid (R4.out.onB (setY_only w4 b) R4.out.bk.setY)
  rw [← hw5] at R5
  show Code.wp _ _ _ _ (setY w4 b)
  rw [← hw5]
  clear hw5 R4 s0 s1 s2 b1 b2 b3 b4 kf hnb
  have ⟨s0, s1, s2⟩ := R5.out.st
  have b0 := R5.out.bk.c0
  have ks0 := cell_regrown s0; have kb0 := cell_regrown b0
  refine wp_region_quiet_below (by kernel_rfl) (by kernel_rfl) ?_
  repeat (go_big_quiet_step ((go_at_call 28; exact Calls.regrown_of (ceiling_any p _ _ (R5.out.ck.later (below_regrown _ _ _))))))
  refine wpQuiet_nil ?_
  intro w6 hw
  have R6 := hid (R5.out.later (below_of_regrown hw))
  clear hw R5 s0 s1 s2 b0 ks0 kb0
  go_wp2_with fail
  go_ret
  exact ⟨by simp, R6.out.only, R6.out.bk, R6.out.ck⟩

end Go.Proofs.Ytmloaddbmkonoaa
