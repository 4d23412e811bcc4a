import Derived.Test.YtfkiccdjffhhhaaGreatDoorRMay
/- fit: the statement's own question whether a configuration is valid. -/
namespace Go.Proofs.YtfkiccdjffhhhaaGreatDoor.Rt
open Go.RowKit Go.Sort
set_option linter.unusedVariables false

theorem ok_not {c : Cf} (h : ¬ (1 ≤ c.sh ∧ c.sh ≤ 6 ∧ 1 ≤ c.cl ∧ c.cl ≤ 6 ∧ 256 ≤ c.ca ∧ c.ca ≤ 1048576 ∧ 0 ≤ c.pk ∧ c.pk ≤ 16 ∧ (c.ss.length : Int) = c.sh - 1)) : c.okB = false := by
  rw [Bool.eq_false_iff]
  intro h2
  simp only [Cf.okB, wiB, Bool.and_eq_true, decide_eq_true_eq, beq_iff_eq] at h2
  exact h ⟨h2.1.1.1.1.1.1, h2.1.1.1.1.1.2, h2.1.1.1.1.2.1, h2.1.1.1.1.2.2, h2.1.1.1.2.1, h2.1.1.1.2.2, h2.1.1.2.1, h2.1.1.2.2, h2.1.2⟩
theorem ok_yes {c : Cf} (h : 1 ≤ c.sh ∧ c.sh ≤ 6 ∧ 1 ≤ c.cl ∧ c.cl ≤ 6 ∧ 256 ≤ c.ca ∧ c.ca ≤ 1048576 ∧ 0 ≤ c.pk ∧ c.pk ≤ 16 ∧ (c.ss.length : Int) = c.sh - 1) : c.okB = risB c.ss := by
  obtain ⟨h1, h2, h3, h4, h5, h6, h7, h8, h9⟩ := h
  simp [Cf.okB, wiB, h1, h2, h3, h4, h5, h6, h7, h8, h9]

set_option maxHeartbeats 4000000 in
set_option maxRecDepth 100000 in
theorem fit_yes {c : Cf} {w : World} (h : c.Ok w) (A : 1 ≤ c.sh ∧ c.sh ≤ 6 ∧ 1 ≤ c.cl ∧ c.cl ≤ 6 ∧ 256 ≤ c.ca ∧ c.ca ≤ 1048576 ∧ 0 ≤ c.pk ∧ c.pk ≤ 16 ∧ (c.ss.length : Int) = c.sh - 1) {u : Bool} (hu : c.okB = u) :
    Calls Tryz.prog 4 #[c.val] w fun e w' => e = .returned (.bool u) ∧ Below w.heap.size w w' := by
  subst hu
  have H := hid h
  obtain ⟨sh, cl, a, cp, ss, ca, pk, wi⟩ := c
  have hs := h.sh
  have hl := h.len
  simp only at hs hl A
  clear h
  have HU := hid (ok_yes (c := ⟨sh, cl, a, cp, ss, ca, pk, wi⟩) A)
  obtain ⟨h1, h2, h3, h4, h5, h6, h7, h8, h9⟩ := A
  have hl5 : ss.length ≤ 5 := by omega
  have h9' : ((ss.length : Int) == sh - 1) = true := by simpa using h9
  have h9'' : sh = (ss.length : Int) + 1 := by omega
  subst h9''
  clear h9 h9'
  go_enter Tryz.func4, Tryz.ntmps4
  go_wp2_with fail
  go_loopg [3] ss.length (fun g s3 wr => ∃ k : Nat, k ≤ ss.length ∧ g = ss.length - k ∧ s3 = .int .i64 k ∧ Hid (allB (fun i => keyOk (prevS ss i) (nthS ss i)) k = true) ∧ Hid (BoxC wr w.heap.size ⟨(ss.length : Int) + 1, cl, a, cp, ss, ca, pk, wi⟩ ∧ RowS wr a ss ∧ Below w.heap.size w wr))
  case atStart => exact ⟨0, by omega, by omega, rfl, hid rfl, hid ⟨BoxC.new w ⟨(ss.length : Int) + 1, cl, a, cp, ss, ca, pk, wi⟩ _, H.out.row.later (by (repeat (first | exact Below.refl _ _ | assumption | refine Below.drew ?_ | refine Below.al ?_ _ | refine Below.setCell ?_ (by first | exact Nat.le_refl _ | (simp; omega) | (simp; done)) _ | refine Below.on ?_ (by assumption)))), by (repeat (first | exact Below.refl _ _ | assumption | refine Below.drew ?_ | refine Below.al ?_ _ | refine Below.setCell ?_ (by first | exact Nat.le_refl _ | (simp; omega) | (simp; done)) _ | refine Below.on ?_ (by assumption)))⟩⟩
  case round =>
    obtain ⟨k, hk, rfl, rfl, HK, HW⟩ := hrel
    have c2 := HW.out.1.c2
    simp only at c2
    by_cases hlt : k < ss.length
    · obtain ⟨b, off, rfl, c0⟩ := HW.out.2.1 k hlt
      obtain ⟨y, hy⟩ : ∃ y, y = nthS ss k := ⟨_, rfl⟩
      obtain ⟨p, hp⟩ : ∃ p, p = prevS ss k := ⟨_, rfl⟩
      rw [← hy] at c0
      have HY : Hid (y = nthS ss k ∧ p = prevS ss k) := hid ⟨hy, hp⟩
      have HF : Hid (keyOk p y = false → risB ss = false) := hid (fun h => allB_no (k := k) (by rw [← HY.out.1, ← HY.out.2, h]) _ hlt)
      have kk := fun w' (hb : Below wr.heap.size wr w') => cell_later hb c2
      clear hy
      cases he : emS y
      · have he' : y.toList.isEmpty = false := he
        cases h32 : decide (y.size ≤ 32)
        · have h32' : ¬ y.size ≤ 32 := by simpa using h32
          have hd : decide ((32 : Int) < (y.size : Int)) = true := by simp; omega
          have HN := hid (HF.out (by rw [keyOk, h32, Bool.and_false]))
          go_wp2_with fail
          have k2 := cell_regrown c2; have k0 := cell_regrown c0
          refine wp_region_quiet_below (by kernel_rfl) (by kernel_rfl) ?_
          repeat (go_big_quiet_step (fail))
          refine wpQuiet_nil ?_
          intro w1 hw
          replace hw := below_of_regrown hw
          have HB := hid (Below.on HW.out.2.2 hw)
          clear hw
          go_wp2_with fail
          go_ret
          exact ⟨ret_bool (by rw [HU.out, HN.out]), HB.out⟩
        · have h32' : y.size ≤ 32 := by simpa using h32
          have hd : decide ((32 : Int) < (y.size : Int)) = false := by simp; omega
          by_cases hk0 : k ≤ 0
          · have hd0 : decide ((0 : Int) < (k : Int)) = false := by simp; omega
            have hd1 : decide (0 < k) = false := by simp; omega
            have HT : Hid (keyOk (prevS ss k) (nthS ss k) = true) := hid (by rw [← HY.out.1, show k = 0 by omega, keyOk, h32]; show (ltS mt y && true) = true; rw [lt_empty, he]; rfl)
            go_wp2_with fail
            have k2 := cell_regrown c2; have k0 := cell_regrown c0
            refine wp_region_quiet_below (by kernel_rfl) (by kernel_rfl) ?_
            repeat (go_big_quiet_step (fail))
            refine wpQuiet_nil ?_
            intro w1 hw
            replace hw := below_of_regrown hw
            have HB := hid (Below.on HW.out.2.2 hw)
            have HBX := hid ((HW.out.1.later hw))
            have HRX := hid ((HW.out.2.1.later hw))
            clear hw
            go_wp2_with fail
            go_roundg (ss.length - (k + 1))
            case measure => omega
            case rel => exact ⟨k + 1, by omega, rfl, by go_num, hid (allB_yes HK.out HT.out), hid ⟨HBX.out, HRX.out, HB.out⟩⟩
          · obtain ⟨j, rfl⟩ : ∃ j, k = j + 1 := ⟨k - 1, by omega⟩
            have hd0 : decide ((0 : Int) < (j : Int) + 1) = true := decide_eq_true (by omega)
            obtain ⟨b', off', e', cj⟩ := HW.out.2.1 j (by omega)
            injection e' with e'; injection e' with e1 e2
            subst e1 e2
            have hpj : nthS ss j = p := by rw [hp]; simp [prevS]
            rw [hpj] at cj
            clear hpj hp
            cases hlp : ltS p y
            · have hlp' : Op.bytesLess p.toList y.toList = false := hlp
              have HN := hid (HF.out (by rw [keyOk, hlp, Bool.false_and]))
              go_wp2_with fail
              have k2 := cell_regrown c2; have k0 := cell_regrown c0; have kj := cell_regrown cj
              refine wp_region_quiet_below (by kernel_rfl) (by kernel_rfl) ?_
              repeat (go_big_quiet_step (fail))
              refine wpQuiet_nil ?_
              intro w1 hw
              replace hw := below_of_regrown hw
              have HB := hid (Below.on HW.out.2.2 hw)
              clear hw
              go_wp2_with fail
              go_ret
              exact ⟨ret_bool (by rw [HU.out, HN.out]), HB.out⟩
            · have hlp' : Op.bytesLess p.toList y.toList = true := hlp
              have HT : Hid (keyOk (prevS ss (j + 1)) (nthS ss (j + 1)) = true) := hid (by rw [← HY.out.1, ← HY.out.2, keyOk, h32, hlp]; rfl)
              go_wp2_with fail
              have k2 := cell_regrown c2; have k0 := cell_regrown c0; have kj := cell_regrown cj
              refine wp_region_quiet_below (by kernel_rfl) (by kernel_rfl) ?_
              repeat (go_big_quiet_step (fail))
              refine wpQuiet_nil ?_
              intro w1 hw
              replace hw := below_of_regrown hw
              have HB := hid (Below.on HW.out.2.2 hw)
              have HBX := hid ((HW.out.1.later hw))
              have HRX := hid ((HW.out.2.1.later hw))
              clear hw
              go_wp2_with fail
              go_roundg (ss.length - (j + 1 + 1))
              case measure => omega
              case rel => exact ⟨j + 1 + 1, by omega, rfl, by go_num, hid (allB_yes HK.out HT.out), hid ⟨HBX.out, HRX.out, HB.out⟩⟩
      · have he' : y.toList.isEmpty = true := he
        have HN := hid (HF.out (by rw [(em_iff _).1 he, keyOk, lt_nil]; rfl))
        go_wp2_with fail
        have k2 := cell_regrown c2; have k0 := cell_regrown c0
        refine wp_region_quiet_below (by kernel_rfl) (by kernel_rfl) ?_
        repeat (go_big_quiet_step (fail))
        refine wpQuiet_nil ?_
        intro w1 hw
        replace hw := below_of_regrown hw
        have HB := hid (Below.on HW.out.2.2 hw)
        clear hw
        go_wp2_with fail
        go_ret
        exact ⟨ret_bool (by rw [HU.out, HN.out]), HB.out⟩
    · obtain rfl : k = ss.length := by omega
      go_wp2_with fail
      go_ret
      exact ⟨ret_bool (by rw [HU.out, risB, HK.out]), HW.out.2.2⟩

end Go.Proofs.YtfkiccdjffhhhaaGreatDoor.Rt
