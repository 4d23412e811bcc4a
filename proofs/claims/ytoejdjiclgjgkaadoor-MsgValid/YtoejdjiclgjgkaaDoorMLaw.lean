import Derived.Test.YtoejdjiclgjgkaaDoorMRefValid
import Derived.Test.YtoejdjiclgjgkaaDoorMNone
import Derived.Test.YtoejdjiclgjgkaaDoorMBodies
namespace Go.Proofs.YtoejdjiclgjgkaaDoor
open Go.RowKit Go.Sort
set_option linter.unusedVariables false

theorem no_reads {m : Mg} (h : m.rs.length = 0) : readsOk m.rs = true := by rw [List.length_eq_zero_iff.1 h]; rfl
theorem no_writes {m : Mg} (h : m.ws.length = 0) : writesOk m.ws = true := by rw [List.length_eq_zero_iff.1 h]; rfl
theorem no_pairs {m : Mg} (h : m.ps.length = 0) : pairsOk m.ps = true := by rw [List.length_eq_zero_iff.1 h]; rfl
theorem some_of (a b : Nat) : (!(decide (a = 0) && decide (b = 0))) = (decide (0 < a) || decide (0 < b)) := by
  rw [Bool.eq_iff_iff]; simp; omega
theorem seq_zero {m : Mg} (h : 0 ≤ m.s) : seqOk m = !(m.s == 0) := by
  rw [seqOk, Bool.eq_iff_iff]; simp; omega

/-- the program's answer is the document's -/
theorem validBody_is {m : Mg} {w : World} {u : Bool} (hu : refOk m = u) (h : m.ok w) (hs : 0 ≤ m.s) :
    Calls Tryd.prog 6 #[m.val] w fun e w' => (∃ v, e = .returned (.tuple #[v, .bool u])) ∧ Below w.heap.size w w' := by
  subst hu
  have hq := seq_zero hs
  rcases kinds m with hk | hk | hk | hk | hk | hk | hk | hk | hk | hk
  · have e : refOk m = false := by
      have : kindOk m = false := by rw [kindOk, Bool.eq_iff_iff]; simp; omega
      rw [refOk, this]; rfl
    rw [e]; exact body0 hk
  · refine body1 hk ?_ h
    have e1 : kindOk m = true := by rw [kindOk, hk]; rfl
    have e2 : txnK m.k = false := by rw [hk]; rfl
    have e3 : rulesM m = decide (m.rs.length = 1) := by unfold rulesM; rw [if_pos hk]
    have e4 : sameM m (namedM m) = sameM m (pRead m) := by unfold namedM; rw [if_pos hk]; rfl
    rw [refOk, e1, e2, e3, e4]
    cases hS : sameM m (pRead m)
    · simp
    · have hz : m.ws.length = 0 ∧ m.ps.length = 0 := by
        unfold sameM at hS
        simp only [Bool.and_eq_true, decide_eq_true_eq] at hS
        exact ⟨hS.1.2, hS.2⟩
      rw [no_writes hz.1, no_pairs hz.2]
      cases decide (m.rs.length = 1) <;> cases readsOk m.rs <;> rfl
  · refine body2 hk ?_ h
    have e1 : kindOk m = true := by rw [kindOk, hk]; rfl
    have e2 : txnK m.k = false := by rw [hk]; rfl
    have e3 : rulesM m = (dataS m.st && (m.st == 0 || decide (m.ps.length = 0))) := by unfold rulesM; rw [if_neg (by omega), if_pos hk]
    have e4 : sameM m (namedM m) = sameM m (pData m) := by unfold namedM; rw [if_neg (by omega), if_pos hk]; rfl
    rw [refOk, e1, e2, e3, e4]
    cases hS : sameM m (pData m)
    · simp
    · have hz : m.rs.length = 0 ∧ m.ws.length = 0 := by
        unfold sameM at hS
        simp only [Bool.and_eq_true, decide_eq_true_eq] at hS
        exact ⟨hS.1.1.2, hS.1.2⟩
      rw [no_reads hz.1, no_writes hz.2]
      cases (m.st == 0 || decide (m.ps.length = 0)) <;> cases dataS m.st <;> cases pairsOk m.ps <;> rfl
  · refine body3 hk ?_ h
    have e1 : kindOk m = true := by rw [kindOk, hk]; rfl
    have e2 : txnK m.k = true := by rw [hk]; rfl
    have e3 : rulesM m = (decide (0 < m.rs.length) || decide (0 < m.ws.length)) := by unfold rulesM; rw [if_neg (by omega), if_neg (by omega), if_pos hk]
    have e4 : sameM m (namedM m) = sameM m (pPrep m) := by unfold namedM; rw [if_neg (by omega), if_neg (by omega), if_pos hk]; rfl
    have e5 : (!(decide (m.rs.length = 0) && decide (m.ws.length = 0))) = (decide (0 < m.rs.length) || decide (0 < m.ws.length)) := some_of _ _
    rw [refOk, e1, e2, e3, e4, e5, hq]
    cases hS : sameM m (pPrep m)
    · simp
    · have hz : m.ps.length = 0 := by
        unfold sameM at hS
        simp only [Bool.and_eq_true, decide_eq_true_eq] at hS
        exact hS.2
      rw [no_pairs hz]
      cases (decide (0 < m.rs.length) || decide (0 < m.ws.length)) <;> cases (m.s == 0) <;> cases readsOk m.rs <;> cases writesOk m.ws <;> rfl
  · refine body4 hk ?_ h
    have e1 : kindOk m = true := by rw [kindOk, hk]; rfl
    have e2 : txnK m.k = true := by rw [hk]; rfl
    have e3 : rulesM m = (voteS m.st && (m.st == 0 || zeroSt m)) := by unfold rulesM; rw [if_neg (by omega), if_neg (by omega), if_neg (by omega), if_pos hk]
    have e4 : sameM m (namedM m) = sameM m (pVote m) := by unfold namedM; rw [if_neg (by omega), if_neg (by omega), if_neg (by omega), if_pos hk]; rfl
    rw [refOk, e1, e2, e3, e4, hq]
    cases hS : sameM m (pVote m)
    · simp
    · have hz : m.rs.length = 0 ∧ m.ws.length = 0 ∧ m.ps.length = 0 := by
        unfold sameM at hS
        simp only [Bool.and_eq_true, decide_eq_true_eq] at hS
        exact ⟨hS.1.1.2, hS.1.2, hS.2⟩
      rw [no_reads hz.1, no_writes hz.2.1, no_pairs hz.2.2]
      cases (m.st == 0 || zeroSt m) <;> cases (m.s == 0) <;> cases voteS m.st <;> rfl
  · refine body5 hk ?_ h
    have e1 : kindOk m = true := by rw [kindOk, hk]; rfl
    have e2 : txnK m.k = true := by rw [hk]; rfl
    have e3 : rulesM m = true := by unfold rulesM; rw [if_neg (by omega), if_neg (by omega), if_neg (by omega), if_neg (by omega), if_neg (by omega)]
    have e4 : sameM m (namedM m) = sameM m (pCommit m) := by unfold namedM; rw [if_neg (by omega), if_neg (by omega), if_neg (by omega), if_neg (by omega), if_pos hk]; rfl
    rw [refOk, e1, e2, e3, e4, hq]
    cases hS : sameM m (pCommit m)
    · simp
    · have hz : m.rs.length = 0 ∧ m.ws.length = 0 ∧ m.ps.length = 0 := by
        unfold sameM at hS
        simp only [Bool.and_eq_true, decide_eq_true_eq] at hS
        exact ⟨hS.1.1.2, hS.1.2, hS.2⟩
      rw [no_reads hz.1, no_writes hz.2.1, no_pairs hz.2.2]
      cases (m.s == 0) <;> rfl
  · refine body6 hk ?_ h
    have e1 : kindOk m = true := by rw [kindOk, hk]; rfl
    have e2 : txnK m.k = true := by rw [hk]; rfl
    have e3 : rulesM m = (m.oc == 1 || (m.oc == 2 && zeroSt m)) := by unfold rulesM; rw [if_neg (by omega), if_neg (by omega), if_neg (by omega), if_neg (by omega), if_pos (by omega)]
    have e4 : sameM m (namedM m) = sameM m (pVerd 6 m) := by unfold namedM; rw [if_neg (by omega), if_neg (by omega), if_neg (by omega), if_neg (by omega), if_neg (by omega), if_pos hk]; rfl
    rw [refOk, e1, e2, e3, e4, hq]
    cases hS : sameM m (pVerd 6 m)
    · simp
    · have hz : m.rs.length = 0 ∧ m.ws.length = 0 ∧ m.ps.length = 0 := by
        unfold sameM at hS
        simp only [Bool.and_eq_true, decide_eq_true_eq] at hS
        exact ⟨hS.1.1.2, hS.1.2, hS.2⟩
      rw [no_reads hz.1, no_writes hz.2.1, no_pairs hz.2.2]
      cases (m.oc == 1 || (m.oc == 2 && zeroSt m)) <;> cases (m.s == 0) <;> rfl
  · refine body7 hk ?_ h
    have e1 : kindOk m = true := by rw [kindOk, hk]; rfl
    have e2 : txnK m.k = true := by rw [hk]; rfl
    have e3 : rulesM m = (m.oc == 1 || (m.oc == 2 && zeroSt m)) := by unfold rulesM; rw [if_neg (by omega), if_neg (by omega), if_neg (by omega), if_neg (by omega), if_pos (by omega)]
    have e4 : sameM m (namedM m) = sameM m (pVerd 7 m) := by unfold namedM; rw [if_neg (by omega), if_neg (by omega), if_neg (by omega), if_neg (by omega), if_neg (by omega), if_neg (by omega), if_pos hk]; rfl
    rw [refOk, e1, e2, e3, e4, hq]
    cases hS : sameM m (pVerd 7 m)
    · simp
    · have hz : m.rs.length = 0 ∧ m.ws.length = 0 ∧ m.ps.length = 0 := by
        unfold sameM at hS
        simp only [Bool.and_eq_true, decide_eq_true_eq] at hS
        exact ⟨hS.1.1.2, hS.1.2, hS.2⟩
      rw [no_reads hz.1, no_writes hz.2.1, no_pairs hz.2.2]
      cases (m.oc == 1 || (m.oc == 2 && zeroSt m)) <;> cases (m.s == 0) <;> rfl
  · refine body8 hk ?_ h
    have e1 : kindOk m = true := by rw [kindOk, hk]; rfl
    have e2 : txnK m.k = true := by rw [hk]; rfl
    have e3 : rulesM m = true := by unfold rulesM; rw [if_neg (by omega), if_neg (by omega), if_neg (by omega), if_neg (by omega), if_neg (by omega)]
    have e4 : sameM m (namedM m) = sameM m (pQuery m) := by unfold namedM; rw [if_neg (by omega), if_neg (by omega), if_neg (by omega), if_neg (by omega), if_neg (by omega), if_neg (by omega), if_neg (by omega), if_pos hk]; rfl
    rw [refOk, e1, e2, e3, e4, hq]
    cases hS : sameM m (pQuery m)
    · simp
    · have hz : m.rs.length = 0 ∧ m.ws.length = 0 ∧ m.ps.length = 0 := by
        unfold sameM at hS
        simp only [Bool.and_eq_true, decide_eq_true_eq] at hS
        exact ⟨hS.1.1.2, hS.1.2, hS.2⟩
      rw [no_reads hz.1, no_writes hz.2.1, no_pairs hz.2.2]
      cases (m.s == 0) <;> rfl
  · refine body9 hk ?_ h
    have e1 : kindOk m = true := by rw [kindOk, hk]; rfl
    have e2 : txnK m.k = true := by rw [hk]; rfl
    have e3 : rulesM m = (m.oc == 1 || (m.oc == 2 && zeroSt m)) := by unfold rulesM; rw [if_neg (by omega), if_neg (by omega), if_neg (by omega), if_neg (by omega), if_pos (by omega)]
    have e4 : sameM m (namedM m) = sameM m (pVerd 9 m) := by unfold namedM; rw [if_neg (by omega), if_neg (by omega), if_neg (by omega), if_neg (by omega), if_neg (by omega), if_neg (by omega), if_neg (by omega), if_neg (by omega), if_pos hk]; rfl
    rw [refOk, e1, e2, e3, e4, hq]
    cases hS : sameM m (pVerd 9 m)
    · simp
    · have hz : m.rs.length = 0 ∧ m.ws.length = 0 ∧ m.ps.length = 0 := by
        unfold sameM at hS
        simp only [Bool.and_eq_true, decide_eq_true_eq] at hS
        exact ⟨hS.1.1.2, hS.1.2, hS.2⟩
      rw [no_reads hz.1, no_writes hz.2.1, no_pairs hz.2.2]
      cases (m.oc == 1 || (m.oc == 2 && zeroSt m)) <;> cases (m.s == 0) <;> rfl

set_option maxHeartbeats 2000000 in
theorem valid_is {m : Mg} {w : World} {u : Bool} (hu : refOk m = u) (h : m.ok w) (hs : 0 ≤ m.s) :
    Calls Tryd.prog 4 #[m.val] w fun e w' => e = .returned (.int .i64 (if u then 0 else 50)) ∧ Below w.heap.size w w' := by
  have H := hid h; have HU := hid hu; have HS := hid hs
  clear h hu hs
  go_enter Tryd.func4, Tryd.ntmps4
  go_wp2_with fail
  refine (validBody_is HU.out (H.out.later (Below.al (Below.refl _ _) _)) HS.out).mono ?_
  rintro e w1 ⟨⟨v, rfl⟩, hw1⟩
  replace hw1 := Below.on (Below.al (Below.refl _ _) _) hw1
  have HW := hid hw1
  clear hw1
  cases u
  all_goals
    go_wp2_with fail
    go_ret
    exact ⟨rfl, HW.out⟩

set_option maxHeartbeats 2000000 in
theorem law_is {m : Mg} {w : World} (h : m.ok w) (hT : Tabs w) (hs : 0 ≤ m.s) :
    Calls Tryd.prog 3 #[m.val] w fun e w' => e = .returned (.bool true) ∧ Below w.heap.size w w' := by
  have H := hid h; have HT := hid hT; have HS := hid hs
  clear h hT hs
  obtain ⟨u, hu⟩ : ∃ b, refOk m = b := ⟨_, rfl⟩
  obtain ⟨r, hr⟩ : ∃ r : Int, (if u then 0 else 50) = r := ⟨_, rfl⟩
  have HU := hid hu; have HR := hid hr
  have hrr : (r == r) = true := beq_self_eq_true r
  clear hu hr
  go_enter Tryd.func3, Tryd.ntmps3
  go_wp2_with fail
  have hB := boxM w m 35
  have hb0 : Below w.heap.size w (w.alloc (.cells m.cells 35)) := Below.al (Below.refl _ _) _
  obtain ⟨wa, hwa⟩ : ∃ wa, wa = w.alloc (.cells m.cells 35) := ⟨_, rfl⟩
  rw [← hwa] at hB hb0 ⊢
  clear hwa
  replace H := hid (H.out.later hb0)
  replace HT := hid (HT.out.later hb0)
  have HB0 := hid hb0
  have ⟨c0, c1, c2, c3, c4, c5, c6, c7, c8, c9, c10, c11, c12, c13, c14⟩ := hB
  clear hb0 hB
  have k0 := cell_regrown c0; have k1 := cell_regrown c1; have k2 := cell_regrown c2; have k3 := cell_regrown c3; have k4 := cell_regrown c4; have k5 := cell_regrown c5; have k6 := cell_regrown c6; have k7 := cell_regrown c7; have k8 := cell_regrown c8; have k9 := cell_regrown c9; have k10 := cell_regrown c10; have k11 := cell_regrown c11; have k12 := cell_regrown c12; have k13 := cell_regrown c13; have k14 := cell_regrown c14
  clear c0 c1 c2 c3 c4 c5 c6 c7 c8 c9 c10 c11 c12 c13 c14
  refine wp_region_quiet_below (by kernel_rfl) (by kernel_rfl) ?_
  repeat (go_big_quiet_step (first | (go_at_call 4; exact Calls.regrown_of (HR.out ▸ valid_is (m := m) HU.out (H.out.later (below_regrown _ _ _)) HS.out)) | (go_at_call 5; exact Calls.regrown_of (HR.out ▸ refvalid_is (m := m) HU.out (H.out.later (below_regrown _ _ _)) (HT.out.later (below_regrown _ _ _))))))
  refine wpQuiet_nil ?_
  intro w1 hw
  replace hw := below_of_regrown hw
  go_wp2_with fail
  go_ret
  exact ⟨rfl, Below.on HB0.out hw⟩

end Go.Proofs.YtoejdjiclgjgkaaDoor
