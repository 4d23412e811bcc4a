import Derived.Test.YtngnifemghahkaaGBase
namespace Go.Proofs.Ytngnifemghahkaa
open Go.RowKit Go.Sort
set_option linter.unusedVariables false

theorem refspan_is {x : T2} {u : Bool} (hu : spanOk x = u) (w : World) :
    Calls Try.prog 25 #[.agg #[.string x.1, .string x.2]] w fun e w' => e = .returned (.bool u) ∧ Below w.heap.size w w' := by
  subst hu
  obtain ⟨lo, hi⟩ := x
  go_enter Try.func25, Try.ntmps25
  go_wp2_with fail
  all_goals go_ret
  all_goals refine ⟨ret_bool ?_, by (repeat (first | exact Below.refl _ _ | assumption | refine Below.drew ?_ | refine Below.al ?_ _ | refine Below.setCell ?_ (by first | exact Nat.le_refl _ | (simp; omega) | (simp; done)) _ | refine Below.on ?_ (by assumption)))⟩
  all_goals simp only [spanOk, emS, ltS]
  all_goals rw [Bool.eq_iff_iff]
  all_goals simp_all
  all_goals omega

set_option maxHeartbeats 1000000 in
theorem refreads_is {a : Option Addr} {c : Nat} {xs : List T2} {w : World} {u : Bool} (hu : readsOk xs = u) (h : Row2 w a xs) (hl : xs.length ≤ 9223372036854775807) :
    Calls Try.prog 21 #[.slice a xs.length c] w fun e w' => e = .returned (.bool u) ∧ Below w.heap.size w w' := by
  subst hu
  by_cases h16 : 16 < (xs.length : Int)
  · go_enter Try.func21, Try.ntmps21
    go_wp2_with fail
    go_ret
    refine ⟨ret_bool ?_, by (repeat (first | exact Below.refl _ _ | assumption | refine Below.drew ?_ | refine Below.al ?_ _ | refine Below.setCell ?_ (by first | exact Nat.le_refl _ | (simp; omega) | (simp; done)) _ | refine Below.on ?_ (by assumption)))⟩
    rw [readsOk, decide_eq_false (by omega)]; rfl
  have H16 := hid h16
  have h16' : decide (16 < (xs.length : Int)) = false := decide_eq_false h16
  clear h16
  go_enter Try.func21, Try.ntmps21
  go_wp2_with fail
  go_loopg [3] xs.length (fun g s3 wr => ∃ k : Nat, k ≤ xs.length ∧ g = xs.length - k ∧ s3 = .int .i64 k ∧ Below w.heap.size w wr ∧ Hid (allB (spanAt xs) k = true))
  case atStart => exact ⟨0, by omega, by omega, rfl, Below.refl _ _, rfl⟩
  case round =>
    obtain ⟨k, hk, rfl, rfl, hb, HA⟩ := hrel
    by_cases hlt : k < xs.length
    · obtain ⟨b, off, rfl, c0, c1⟩ := (h.later hb) k hlt
      obtain ⟨u, hu⟩ : ∃ u, spanOk (nth2 xs k) = u := ⟨_, rfl⟩
      have HU : Hid (spanAt xs k = u) := hu
      obtain ⟨x, hx⟩ : ∃ x, x = nth2 xs k := ⟨_, rfl⟩
      rw [← hx] at c0 c1 hu
      clear hx
      go_wp2_with fail
      refine (refspan_is hu _).mono ?_
      rintro e w1 ⟨rfl, hw1⟩
      replace hb : Below w.heap.size w w1 := Below.on hb hw1
      clear hw1 hu
      cases u
      · go_wp2_with fail
        go_ret
        refine ⟨ret_bool ?_, hb⟩
        rw [readsOk, allB_no HU.out _ hlt, Bool.and_false]
      · go_wp2_with fail
        go_roundg (xs.length - (k + 1))
        case measure => omega
        case rel => exact ⟨k + 1, by omega, rfl, by go_num, hb, allB_yes HA.out HU.out⟩
    · obtain rfl : k = xs.length := by omega
      go_wp2_with fail
      go_ret
      refine ⟨ret_bool ?_, hb⟩
      have := H16.out
      rw [readsOk, HA.out, Bool.and_true, Bool.eq_iff_iff]
      simp
      omega

set_option maxHeartbeats 4000000 in
theorem refwrites_is {a : Option Addr} {c : Nat} {xs : List Wr} {w : World} {u : Bool} (hu : writesOk xs = u) (h : RowW w a xs) (hl : xs.length ≤ 9223372036854775807) :
    Calls Try.prog 22 #[.slice a xs.length c] w fun e w' => e = .returned (.bool u) ∧ Below w.heap.size w w' := by
  subst hu
  by_cases h16 : 16 < (xs.length : Int)
  · go_enter Try.func22, Try.ntmps22
    go_wp2_with fail
    go_ret
    refine ⟨ret_bool ?_, by (repeat (first | exact Below.refl _ _ | assumption | refine Below.drew ?_ | refine Below.al ?_ _ | refine Below.setCell ?_ (by first | exact Nat.le_refl _ | (simp; omega) | (simp; done)) _ | refine Below.on ?_ (by assumption)))⟩
    rw [writesOk, decide_eq_false (by omega)]; rfl
  have H16 := hid h16
  have h16' : decide (16 < (xs.length : Int)) = false := decide_eq_false h16
  clear h16
  go_enter Try.func22, Try.ntmps22
  go_wp2_with fail
  go_loopg [3, 4] xs.length (fun g s3 s4 wr => ∃ k : Nat, k ≤ xs.length ∧ g = xs.length - k ∧ s4 = .int .i64 k ∧ s3 = .string (prevW xs k) ∧ Below w.heap.size w wr ∧ Hid (allB (writeAt xs) k = true))
  case atStart => exact ⟨0, by omega, by omega, rfl, rfl, Below.refl _ _, rfl⟩
  case round =>
    obtain ⟨k, hk, rfl, rfl, rfl, hb, HA⟩ := hrel
    by_cases hlt : k < xs.length
    · obtain ⟨b, off, rfl, c0, c1, c2⟩ := (h.later hb) k hlt
      have HU : Hid (writeAt xs k = (keyOk (prevW xs k) (nthW xs k).key && decide ((nthW xs k).val.size ≤ 64) && !((nthW xs k).del && !emS (nthW xs k).val))) := rfl
      have HP : Hid (prevW xs (k + 1) = (nthW xs k).key) := prevW_succ xs k
      obtain ⟨x, hx⟩ : ∃ x, x = nthW xs k := ⟨_, rfl⟩
      rw [← hx] at c0 c1 c2 HU HP
      clear hx
      obtain ⟨key, del, val⟩ := x
      obtain ⟨pk, hpk⟩ : ∃ pk, pk = prevW xs k := ⟨_, rfl⟩
      rw [← hpk] at HU ⊢
      clear hpk
      obtain ⟨b3, h3⟩ : ∃ b, Op.bytesLess pk.toList key.toList = b := ⟨_, rfl⟩
      obtain ⟨b1, h1⟩ : ∃ b, decide (32 < (key.size : Int)) = b := ⟨_, rfl⟩
      obtain ⟨b2, h2⟩ : ∃ b, decide (64 < (val.size : Int)) = b := ⟨_, rfl⟩
      obtain ⟨b4, h4⟩ : ∃ b, val.toList.isEmpty = b := ⟨_, rfl⟩
      have hle : (Op.bytesLess key.toList pk.toList || key.toList == pk.toList) = !b3 := by rw [leq_less, h3]
      have h4' : (val.toList = []) = (b4 = true) := by rw [← h4]; simp
      have HQ : Hid (writeAt xs k = (b3 && !b1 && !b2 && !(del && !b4))) := by
        show _ = _
        rw [HU.out, keyOk, ltS, h3, emS, h4, show decide (key.size ≤ 32) = !b1 by rw [← h1, Bool.eq_iff_iff]; simp; omega, show decide (val.size ≤ 64) = !b2 by rw [← h2, Bool.eq_iff_iff]; simp; omega]
      have go : ∀ b3 b1 b2 d b4 : Bool, b3 = false ∨ (b3 = true ∧ b1 = true) ∨ (b3 = true ∧ b1 = false ∧ b2 = true) ∨ (b3 = true ∧ b1 = false ∧ b2 = false ∧ d = true ∧ b4 = false) ∨ (b3 = true ∧ b1 = false ∧ b2 = false ∧ d = true ∧ b4 = true) ∨ (b3 = true ∧ b1 = false ∧ b2 = false ∧ d = false) := by
        intro b3 b1 b2 d b4
        cases b3 <;> cases b1 <;> cases b2 <;> cases d <;> cases b4 <;> simp
      clear HU h3
      rcases go b3 b1 b2 del b4 with e | ⟨e, e'⟩ | ⟨e, e', e''⟩ | ⟨e, e', e'', e4, e5⟩ | ⟨e, e', e'', e4, e5⟩ | ⟨e, e', e'', e4⟩
      all_goals (try subst e)
      all_goals (try subst e')
      all_goals (try subst e'')
      all_goals (try subst e4)
      all_goals (try subst e5)
      all_goals (clear go; try simp only [Bool.false_eq_true] at h4')
      all_goals go_wp2_with fail
      · go_ret
        refine ⟨ret_bool ?_, by (repeat (first | exact Below.refl _ _ | assumption | refine Below.drew ?_ | refine Below.al ?_ _ | refine Below.setCell ?_ (by first | exact Nat.le_refl _ | (simp; omega) | (simp; done)) _ | refine Below.on ?_ (by assumption)))⟩
        rw [writesOk, allB_no (HQ.out.trans (by simp)) _ hlt, Bool.and_false]
      · go_ret
        refine ⟨ret_bool ?_, by (repeat (first | exact Below.refl _ _ | assumption | refine Below.drew ?_ | refine Below.al ?_ _ | refine Below.setCell ?_ (by first | exact Nat.le_refl _ | (simp; omega) | (simp; done)) _ | refine Below.on ?_ (by assumption)))⟩
        rw [writesOk, allB_no (HQ.out.trans (by simp)) _ hlt, Bool.and_false]
      · go_ret
        refine ⟨ret_bool ?_, by (repeat (first | exact Below.refl _ _ | assumption | refine Below.drew ?_ | refine Below.al ?_ _ | refine Below.setCell ?_ (by first | exact Nat.le_refl _ | (simp; omega) | (simp; done)) _ | refine Below.on ?_ (by assumption)))⟩
        rw [writesOk, allB_no (HQ.out.trans (by simp)) _ hlt, Bool.and_false]
      · go_ret
        refine ⟨ret_bool ?_, by (repeat (first | exact Below.refl _ _ | assumption | refine Below.drew ?_ | refine Below.al ?_ _ | refine Below.setCell ?_ (by first | exact Nat.le_refl _ | (simp; omega) | (simp; done)) _ | refine Below.on ?_ (by assumption)))⟩
        rw [writesOk, allB_no (HQ.out.trans (by simp)) _ hlt, Bool.and_false]
      · go_roundg (xs.length - (k + 1))
        case measure => omega
        case rel => exact ⟨k + 1, by omega, rfl, by go_num, by rw [HP.out], by (repeat (first | exact Below.refl _ _ | assumption | refine Below.drew ?_ | refine Below.al ?_ _ | refine Below.setCell ?_ (by first | exact Nat.le_refl _ | (simp; omega) | (simp; done)) _ | refine Below.on ?_ (by assumption))), allB_yes HA.out (HQ.out.trans (by simp))⟩
      · go_roundg (xs.length - (k + 1))
        case measure => omega
        case rel => exact ⟨k + 1, by omega, rfl, by go_num, by rw [HP.out], by (repeat (first | exact Below.refl _ _ | assumption | refine Below.drew ?_ | refine Below.al ?_ _ | refine Below.setCell ?_ (by first | exact Nat.le_refl _ | (simp; omega) | (simp; done)) _ | refine Below.on ?_ (by assumption))), allB_yes HA.out (HQ.out.trans (by simp))⟩
    · obtain rfl : k = xs.length := by omega
      go_wp2_with fail
      go_ret
      refine ⟨ret_bool ?_, hb⟩
      have := H16.out
      rw [writesOk, HA.out, Bool.and_true, Bool.eq_iff_iff]
      simp
      omega

end Go.Proofs.Ytngnifemghahkaa
