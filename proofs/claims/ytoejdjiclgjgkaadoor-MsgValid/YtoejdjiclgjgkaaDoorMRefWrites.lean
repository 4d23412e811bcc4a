import Derived.Test.YtoejdjiclgjgkaaDoorMRefPairs
namespace Go.Proofs.YtoejdjiclgjgkaaDoor
open Go.RowKit Go.Sort
set_option linter.unusedVariables false

set_option maxHeartbeats 4000000 in
theorem refwrites_is {a : Option Addr} {c : Nat} {xs : List Wr} {w : World} {u : Bool} (hu : writesOk xs = u) (h : RowW w a xs) (hl : xs.length ≤ 9223372036854775807) :
    Calls Tryd.prog 10 #[.slice a xs.length c] w fun e w' => e = .returned (.bool u) ∧ Below w.heap.size w w' := by
  subst hu
  go_enter Tryd.func10, Tryd.ntmps10
  go_wp2_with fail
  go_loopg [3] xs.length (fun g s3 wr => ∃ k : Nat, k ≤ xs.length ∧ g = xs.length - k ∧ s3 = .int .i64 k ∧ Below w.heap.size w wr ∧ Hid (allB (writeAt xs) k = true))
  case atStart => exact ⟨0, by omega, by omega, rfl, Below.refl _ _, rfl⟩
  case round =>
    obtain ⟨k, hk, rfl, rfl, hb, HA⟩ := hrel
    by_cases hlt : k < xs.length
    · obtain ⟨b, off, rfl, c0, c1, c2⟩ := (h.later hb) k hlt
      have HU : Hid (writeAt xs k = (keyOk (prevW xs k) (nthW xs k).key && decide ((nthW xs k).val.size ≤ 64) && !((nthW xs k).del && !emS (nthW xs k).val))) := rfl
      obtain ⟨x, hx⟩ : ∃ x, x = nthW xs k := ⟨_, rfl⟩
      rw [← hx] at c0 c1 c2 HU
      clear hx
      obtain ⟨key, del, val⟩ := x
      obtain ⟨b1, h1⟩ : ∃ b, (!emS key && decide (key.size ≤ 32)) = b := ⟨_, rfl⟩
      obtain ⟨b2, h2⟩ : ∃ b, decide (64 < (val.size : Int)) = b := ⟨_, rfl⟩
      obtain ⟨b4, h4⟩ : ∃ b, val.toList.isEmpty = b := ⟨_, rfl⟩
      have H1 := hid h1
      have hs2 : decide (val.size ≤ 64) = !b2 := by rw [← h2, Bool.eq_iff_iff]; simp; omega
      have h4' : (val.toList = []) = (b4 = true) := by rw [← h4]; simp
      have HV : Hid (decide (val.size ≤ 64) = !b2 ∧ emS val = b4) := ⟨hs2, h4⟩
      clear hs2
      have H11 := hid h1
      clear h1
      go_wp2_with fail
      refine (key_is H1.out _).mono ?_
      rintro e w1 ⟨rfl, hw1⟩
      have c0 := cell_later hw1 c0
      have c1 := cell_later hw1 c1
      have c2 := cell_later hw1 c2
      replace hb := Below.on hb hw1
      clear hw1 H1
      obtain ⟨b5, h5⟩ : ∃ b, (!b1 || b2 || (del && !b4)) = b := ⟨_, rfl⟩
      have go : ∀ b1 b2 d b4 b5 : Bool, (!b1 || b2 || (d && !b4)) = b5 → (b1 = false ∧ b5 = true) ∨ (b1 = true ∧ b2 = true ∧ b5 = true) ∨ (b1 = true ∧ b2 = false ∧ d = true ∧ b4 = false ∧ b5 = true) ∨ (b1 = true ∧ b2 = false ∧ d = true ∧ b4 = true ∧ b5 = false) ∨ (b1 = true ∧ b2 = false ∧ d = false ∧ b5 = false) := by
        intro b1 b2 d b4 b5
        cases b1 <;> cases b2 <;> cases d <;> cases b4 <;> cases b5 <;> simp
      by_cases h0 : k = 0
      · subst h0
        have HQ : Hid (writeAt xs 0 = (b1 && !b2 && !(del && !b4))) := by
          show _ = _
          rw [HU.out, show prevW xs 0 = ⟨#[]⟩ from rfl, keyOk_first, H11.out, HV.out.1, HV.out.2]
        clear HU HV H11
        rcases go b1 b2 del b4 b5 h5 with ⟨e, e'⟩ | ⟨e, e', e''⟩ | ⟨e, e', e'', e3, e4⟩ | ⟨e, e', e'', e3, e4⟩ | ⟨e, e', e'', e3⟩
        all_goals (try subst e)
        all_goals (try subst e')
        all_goals (try subst e'')
        all_goals (try subst e3)
        all_goals (try subst e4)
        all_goals (clear h5 go; try simp only [Bool.false_eq_true] at h4')
        all_goals go_wp2_with fail
        · go_ret
          refine ⟨ret_bool ?_, hb⟩
          rw [writesOk, allB_no (HQ.out.trans (by simp)) _ hlt, Bool.and_false]
        · go_ret
          refine ⟨ret_bool ?_, hb⟩
          rw [writesOk, allB_no (HQ.out.trans (by simp)) _ hlt, Bool.and_false]
        · go_ret
          refine ⟨ret_bool ?_, hb⟩
          rw [writesOk, allB_no (HQ.out.trans (by simp)) _ hlt, Bool.and_false]
        all_goals
          refine wp_region_quiet_below (by kernel_rfl) (by kernel_rfl) ?_
          repeat (go_big_quiet_step (fail))
          refine wpQuiet_nil ?_
          intro w2 hw
          replace hw := below_of_regrown hw
          replace hb := Below.on hb hw
          clear hw
          go_wp2_with fail
          go_roundg (xs.length - (0 + 1))
          case measure => omega
          case rel => exact ⟨0 + 1, by omega, rfl, by go_num, hb, allB_yes HA.out (HQ.out.trans (by simp))⟩
      · obtain ⟨j, rfl⟩ : ∃ j, k = j + 1 := ⟨k - 1, by omega⟩
        obtain ⟨b', off', he, d0, -⟩ := (h.later hb) j (by omega)
        obtain ⟨rfl, rfl⟩ : b' = b ∧ off' = off := by simpa using he.symm
        clear he
        obtain ⟨pk, hpk⟩ : ∃ pk, pk = (nthW xs j).key := ⟨_, rfl⟩
        rw [← hpk] at d0
        obtain ⟨b3, h3⟩ : ∃ b, Op.bytesLess pk.toList key.toList = b := ⟨_, rfl⟩
        have HQ : Hid (writeAt xs (j + 1) = (b1 && b3 && !b2 && !(del && !b4))) := by
          show _ = _
          rw [HU.out, prevW_succ, ← hpk, keyOk_next, H11.out, HV.out.1, HV.out.2, ltS, h3]
        have hgeq := binOp_string_geq 9 pk key
        have kd0 := cell_regrown d0
        have kc0 := cell_regrown c0
        clear HU HV H11 hpk h0
        have hi1 : IntKind.i64.wrap (((j + 1 : Nat) : Int) - 1) = (j : Int) := by rw [IntKind.wrap_i64]; omega
        rcases go b1 b2 del b4 b5 h5 with ⟨e, e'⟩ | ⟨e, e', e''⟩ | ⟨e, e', e'', e3, e4⟩ | ⟨e, e', e'', e3, e4⟩ | ⟨e, e', e'', e3⟩
        all_goals (try subst e)
        all_goals (try subst e')
        all_goals (try subst e'')
        all_goals (try subst e3)
        all_goals (try subst e4)
        all_goals (clear h5 go; try simp only [Bool.false_eq_true] at h4')
        all_goals go_wp2_with fail
        · go_ret
          refine ⟨ret_bool ?_, hb⟩
          rw [writesOk, allB_no (HQ.out.trans (by simp)) _ hlt, Bool.and_false]
        · go_ret
          refine ⟨ret_bool ?_, hb⟩
          rw [writesOk, allB_no (HQ.out.trans (by simp)) _ hlt, Bool.and_false]
        · go_ret
          refine ⟨ret_bool ?_, hb⟩
          rw [writesOk, allB_no (HQ.out.trans (by simp)) _ hlt, Bool.and_false]
        all_goals
          cases b3
          all_goals
            refine wp_region_quiet_below (by kernel_rfl) (by kernel_rfl) ?_
            repeat (go_big_quiet_step (fail))
            refine wpQuiet_nil ?_
            intro w2 hw
            replace hw := below_of_regrown hw
            replace hb := Below.on hb hw
            clear hw kd0 kc0
            go_wp2_with fail
          · go_ret
            refine ⟨ret_bool ?_, hb⟩
            rw [writesOk, allB_no (HQ.out.trans (by simp)) _ hlt, Bool.and_false]
          · go_roundg (xs.length - (j + 1 + 1))
            case measure => omega
            case rel => exact ⟨j + 1 + 1, by omega, rfl, by go_num, hb, allB_yes HA.out (HQ.out.trans (by simp))⟩
    · obtain rfl : k = xs.length := by omega
      go_wp2_with fail
      go_ret
      refine ⟨ret_bool ?_, hb⟩
      rw [writesOk, HA.out, Bool.and_true, Bool.eq_iff_iff]
      simp
      omega

end Go.Proofs.YtoejdjiclgjgkaaDoor
