import Derived.Test.YtoejdjiclgjgkaaDoorMRefReads
namespace Go.Proofs.YtoejdjiclgjgkaaDoor
open Go.RowKit Go.Sort
set_option linter.unusedVariables false

theorem lt_full {a b : ByteArray} (h : emS b = true) : ltS a b = false := by
  unfold emS at h
  unfold ltS
  rw [List.isEmpty_iff.1 h]
  cases a.toList <;> rfl
/-- how the document's answer asks the same of a key -/
theorem keyOk_first (k : ByteArray) : keyOk ⟨#[]⟩ k = (!emS k && decide (k.size ≤ 32)) := by rw [keyOk, lt_empty]
theorem keyOk_next (p k : ByteArray) : keyOk p k = ((!emS k && decide (k.size ≤ 32)) && ltS p k) := by
  rw [keyOk]
  cases h : emS k
  · cases ltS p k <;> simp
  · rw [lt_full h]; simp

set_option maxHeartbeats 2000000 in
theorem refpairs_is {a : Option Addr} {c : Nat} {xs : List T2} {w : World} {u : Bool} (hu : pairsOk xs = u) (h : Row2 w a xs) (hl : xs.length ≤ 9223372036854775807) :
    Calls Tryd.prog 11 #[.slice a xs.length c] w fun e w' => e = .returned (.bool u) ∧ Below w.heap.size w w' := by
  subst hu
  go_enter Tryd.func11, Tryd.ntmps11
  go_wp2_with fail
  go_loopg [3] xs.length (fun g s3 wr => ∃ k : Nat, k ≤ xs.length ∧ g = xs.length - k ∧ s3 = .int .i64 k ∧ Below w.heap.size w wr ∧ Hid (allB (pairAt xs) k = true))
  case atStart => exact ⟨0, by omega, by omega, rfl, Below.refl _ _, rfl⟩
  case round =>
    obtain ⟨k, hk, rfl, rfl, hb, HA⟩ := hrel
    by_cases hlt : k < xs.length
    · obtain ⟨b, off, rfl, c0, c1⟩ := (h.later hb) k hlt
      have HU : Hid (pairAt xs k = (keyOk (prev2 xs k) (nth2 xs k).1 && decide ((nth2 xs k).2.size ≤ 64))) := rfl
      obtain ⟨x, hx⟩ : ∃ x, x = nth2 xs k := ⟨_, rfl⟩
      rw [← hx] at c0 c1 HU
      clear hx
      obtain ⟨key, val⟩ := x
      obtain ⟨b1, h1⟩ : ∃ b, (!emS key && decide (key.size ≤ 32)) = b := ⟨_, rfl⟩
      obtain ⟨b2, h2⟩ : ∃ b, decide (64 < (val.size : Int)) = b := ⟨_, rfl⟩
      have H1 := hid h1
      have hs2 : decide (val.size ≤ 64) = !b2 := by rw [← h2, Bool.eq_iff_iff]; simp; omega
      go_wp2_with fail
      refine (key_is H1.out _).mono ?_
      rintro e w1 ⟨rfl, hw1⟩
      have c0 := cell_later hw1 c0
      have c1 := cell_later hw1 c1
      replace hb := Below.on hb hw1
      clear hw1
      have kc0 := cell_regrown c0; have kc1 := cell_regrown c1
      by_cases h0 : k = 0
      · subst h0
        have HQ : Hid (pairAt xs 0 = (b1 && !b2)) := by
          show _ = _
          rw [HU.out, show prev2 xs 0 = ⟨#[]⟩ from rfl, keyOk_first, h1, hs2]
        clear HU h1 hs2 H1
        have go : ∀ b1 b2 : Bool, b1 = false ∨ (b1 = true ∧ b2 = true) ∨ (b1 = true ∧ b2 = false) := by decide
        rcases go b1 b2 with e | ⟨e, e'⟩ | ⟨e, e'⟩
        all_goals (try subst e)
        all_goals (try subst e')
        all_goals
          go_wp2_with fail
          refine wp_region_quiet_below (by kernel_rfl) (by kernel_rfl) ?_
          repeat (go_big_quiet_step (fail))
          refine wpQuiet_nil ?_
          intro w2 hw
          replace hw := below_of_regrown hw
          replace hb := Below.on hb hw
          clear hw kc0 kc1
          go_wp2_with fail
        · go_ret
          refine ⟨ret_bool ?_, hb⟩
          rw [pairsOk, allB_no (HQ.out.trans (by simp)) _ hlt, Bool.and_false]
        · go_ret
          refine ⟨ret_bool ?_, hb⟩
          rw [pairsOk, allB_no (HQ.out.trans (by simp)) _ hlt, Bool.and_false]
        · go_roundg (xs.length - (0 + 1))
          case measure => omega
          case rel => exact ⟨0 + 1, by omega, rfl, by go_num, hb, allB_yes HA.out (HQ.out.trans (by simp))⟩
      · obtain ⟨j, rfl⟩ : ∃ j, k = j + 1 := ⟨k - 1, by omega⟩
        obtain ⟨b', off', he, d0, -⟩ := (h.later hb) j (by omega)
        obtain ⟨rfl, rfl⟩ : b' = b ∧ off' = off := by simpa using he.symm
        clear he
        obtain ⟨pk, hpk⟩ : ∃ pk, pk = (nth2 xs j).1 := ⟨_, rfl⟩
        rw [← hpk] at d0
        obtain ⟨b3, h3⟩ : ∃ b, Op.bytesLess pk.toList key.toList = b := ⟨_, rfl⟩
        have HQ : Hid (pairAt xs (j + 1) = (b1 && b3 && !b2)) := by
          show _ = _
          rw [HU.out, prev2_succ, ← hpk, keyOk_next, h1, hs2, ltS, h3]
        have hgeq := binOp_string_geq 9 pk key
        have kd0 := cell_regrown d0
        clear HU h1 hs2 H1 hpk h0
        have hi1 : IntKind.i64.wrap (((j + 1 : Nat) : Int) - 1) = (j : Int) := by rw [IntKind.wrap_i64]; omega
        have go : ∀ b1 b2 b3 : Bool, b1 = false ∨ (b1 = true ∧ b2 = true) ∨ (b1 = true ∧ b2 = false ∧ b3 = false) ∨ (b1 = true ∧ b2 = false ∧ b3 = true) := by decide
        rcases go b1 b2 b3 with e | ⟨e, e'⟩ | ⟨e, e', e''⟩ | ⟨e, e', e''⟩
        all_goals (try subst e)
        all_goals (try subst e')
        all_goals (try subst e'')
        all_goals
          go_wp2_with fail
          refine wp_region_quiet_below (by kernel_rfl) (by kernel_rfl) ?_
          repeat (go_big_quiet_step (fail))
          refine wpQuiet_nil ?_
          intro w2 hw
          replace hw := below_of_regrown hw
          replace hb := Below.on hb hw
          clear hw kc0 kc1 kd0
          go_wp2_with fail
        · go_ret
          refine ⟨ret_bool ?_, hb⟩
          rw [pairsOk, allB_no (HQ.out.trans (by simp)) _ hlt, Bool.and_false]
        · go_ret
          refine ⟨ret_bool ?_, hb⟩
          rw [pairsOk, allB_no (HQ.out.trans (by simp)) _ hlt, Bool.and_false]
        · go_ret
          refine ⟨ret_bool ?_, hb⟩
          rw [pairsOk, allB_no (HQ.out.trans (by simp)) _ hlt, Bool.and_false]
        · go_roundg (xs.length - (j + 1 + 1))
          case measure => omega
          case rel => exact ⟨j + 1 + 1, by omega, rfl, by go_num, hb, allB_yes HA.out (HQ.out.trans (by simp))⟩
    · obtain rfl : k = xs.length := by omega
      go_wp2_with fail
      go_ret
      refine ⟨ret_bool ?_, hb⟩
      rw [pairsOk, HA.out, Bool.and_true, Bool.eq_iff_iff]
      simp
      omega

end Go.Proofs.YtoejdjiclgjgkaaDoor
