import Derived.Test.YtoejdjiclgjgkaaDoorMPairs
namespace Go.Proofs.YtoejdjiclgjgkaaDoor
open Go.RowKit Go.Sort
set_option linter.unusedVariables false

set_option maxHeartbeats 2000000 in
theorem refreads_is {a : Option Addr} {c : Nat} {xs : List T2} {w : World} {u : Bool} (hu : readsOk xs = u) (h : Row2 w a xs) (hl : xs.length ≤ 9223372036854775807) :
    Calls Tryd.prog 9 #[.slice a xs.length c] w fun e w' => e = .returned (.bool u) ∧ Below w.heap.size w w' := by
  subst hu
  go_enter Tryd.func9, Tryd.ntmps9
  go_wp2_with fail
  go_loopg [3] xs.length (fun g s3 wr => ∃ k : Nat, k ≤ xs.length ∧ g = xs.length - k ∧ s3 = .int .i64 k ∧ Below w.heap.size w wr ∧ Hid (allB (spanAt xs) k = true))
  case atStart => exact ⟨0, by omega, by omega, rfl, Below.refl _ _, rfl⟩
  case round =>
    obtain ⟨k, hk, rfl, rfl, hb, HA⟩ := hrel
    by_cases hlt : k < xs.length
    · obtain ⟨b, off, rfl, c0, c1⟩ := (h.later hb) k hlt
      have HU : Hid (spanAt xs k = spanOk (nth2 xs k)) := rfl
      obtain ⟨x, hx⟩ : ∃ x, x = nth2 xs k := ⟨_, rfl⟩
      rw [← hx] at c0 c1 HU
      clear hx
      obtain ⟨lo, hi⟩ := x
      have kc0 := cell_regrown c0; have kc1 := cell_regrown c1
      have hgeq := binOp_string_geq 9 lo hi
      obtain ⟨b1, h1⟩ : ∃ b, decide (33 < (lo.size : Int)) = b := ⟨_, rfl⟩
      obtain ⟨b2, h2⟩ : ∃ b, decide (33 < (hi.size : Int)) = b := ⟨_, rfl⟩
      obtain ⟨b3, h3⟩ : ∃ b, hi.toList.isEmpty = b := ⟨_, rfl⟩
      obtain ⟨b4, h4⟩ : ∃ b, Op.bytesLess lo.toList hi.toList = b := ⟨_, rfl⟩
      have HS : Hid (spanOk (lo, hi) = (!b1 && !b2 && (b3 || b4))) := by
        show _ = _
        rw [spanOk, emS, ltS, h3, h4, ← h1, ← h2]
        congr 2 <;> (rw [Bool.eq_iff_iff]; simp; try omega)
      have go : ∀ b1 b2 b3 b4 : Bool, b1 = true ∨ (b1 = false ∧ b2 = true) ∨ (b1 = false ∧ b2 = false ∧ b3 = true) ∨ (b1 = false ∧ b2 = false ∧ b3 = false ∧ b4 = true) ∨ (b1 = false ∧ b2 = false ∧ b3 = false ∧ b4 = false) := by decide
      have HQ := hid (HU.out.trans HS.out)
      clear HU HS
      rcases go b1 b2 b3 b4 with e | ⟨e, e'⟩ | ⟨e, e', e''⟩ | ⟨e, e', e'', e4⟩ | ⟨e, e', e'', e4⟩
      all_goals (try subst e)
      all_goals (try subst e')
      all_goals (try subst e'')
      all_goals (try subst e4)
      all_goals
        go_wp2_with fail
        refine wp_region_quiet_below (by kernel_rfl) (by kernel_rfl) ?_
        repeat (go_big_quiet_step (fail))
        refine wpQuiet_nil ?_
        intro w1 hw
        replace hw := below_of_regrown hw
        replace hb := Below.on hb hw
        clear hw kc0 kc1
        go_wp2_with fail
      · go_ret
        refine ⟨ret_bool ?_, hb⟩
        rw [readsOk, allB_no (HQ.out.trans (by simp)) _ hlt, Bool.and_false]
      · go_ret
        refine ⟨ret_bool ?_, hb⟩
        rw [readsOk, allB_no (HQ.out.trans (by simp)) _ hlt, Bool.and_false]
      · go_roundg (xs.length - (k + 1))
        case measure => omega
        case rel => exact ⟨k + 1, by omega, rfl, by go_num, hb, allB_yes HA.out (HQ.out.trans (by simp))⟩
      · go_roundg (xs.length - (k + 1))
        case measure => omega
        case rel => exact ⟨k + 1, by omega, rfl, by go_num, hb, allB_yes HA.out (HQ.out.trans (by simp))⟩
      · go_ret
        refine ⟨ret_bool ?_, hb⟩
        rw [readsOk, allB_no (HQ.out.trans (by simp)) _ hlt, Bool.and_false]
    · obtain rfl : k = xs.length := by omega
      go_wp2_with fail
      go_ret
      refine ⟨ret_bool ?_, hb⟩
      rw [readsOk, HA.out, Bool.and_true, Bool.eq_iff_iff]
      simp
      omega

end Go.Proofs.YtoejdjiclgjgkaaDoor
