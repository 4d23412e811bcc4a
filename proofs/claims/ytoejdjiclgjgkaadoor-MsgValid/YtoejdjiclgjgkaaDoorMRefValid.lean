import Derived.Test.YtoejdjiclgjgkaaDoorMRefSame
import Derived.Test.YtoejdjiclgjgkaaDoorMRefWrites
import Derived.Test.YtoejdjiclgjgkaaDoorMNamed
import Derived.Test.YtoejdjiclgjgkaaDoorMNamed2
import Derived.Test.YtoejdjiclgjgkaaDoorMRules
namespace Go.Proofs.YtoejdjiclgjgkaaDoor
open Go.RowKit Go.Sort
set_option linter.unusedVariables false

/-- what its kind names -/
def namedM (m : Mg) : Mg :=
  if m.k = 1 then { pRead m with k := m.k } else if m.k = 2 then { pData m with k := m.k } else if m.k = 3 then { pPrep m with k := m.k }
  else if m.k = 4 then { pVote m with k := m.k } else if m.k = 5 then { pCommit m with k := m.k } else if m.k = 6 then { pVerd 6 m with k := m.k }
  else if m.k = 7 then { pVerd 7 m with k := m.k } else if m.k = 8 then { pQuery m with k := m.k } else if m.k = 9 then { pVerd 9 m with k := m.k }
  else { zM m with k := m.k }
def rulesM (m : Mg) : Bool :=
  if m.k = 1 then decide (m.rs.length = 1) else if m.k = 2 then dataS m.st && (m.st == 0 || decide (m.ps.length = 0))
  else if m.k = 3 then decide (0 < m.rs.length) || decide (0 < m.ws.length) else if m.k = 4 then voteS m.st && (m.st == 0 || zeroSt m)
  else if m.k = 6 ∨ m.k = 7 ∨ m.k = 9 then m.oc == 1 || (m.oc == 2 && zeroSt m) else true
def kindOk (m : Mg) : Bool := decide (1 ≤ m.k) && decide (m.k ≤ 9)
theorem kinds (m : Mg) : (m.k < 1 ∨ 9 < m.k) ∨ m.k = 1 ∨ m.k = 2 ∨ m.k = 3 ∨ m.k = 4 ∨ m.k = 5 ∨ m.k = 6 ∨ m.k = 7 ∨ m.k = 8 ∨ m.k = 9 := by omega

theorem named_is {m n : Mg} (hn : namedM m = n) (w : World) :
    Calls Tryd.prog 8 #[m.val] w fun e w' => e = .returned n.val ∧ Below w.heap.size w w' := by
  subst hn
  rcases kinds m with h | h | h | h | h | h | h | h | h | h
  · have e : namedM m = { zM m with k := m.k } := by
      unfold namedM
      rw [if_neg (by omega), if_neg (by omega), if_neg (by omega), if_neg (by omega), if_neg (by omega), if_neg (by omega), if_neg (by omega), if_neg (by omega), if_neg (by omega)]
    rw [e]; exact named0 h
  · have e : namedM m = { pRead m with k := m.k } := by unfold namedM; rw [if_pos h]
    rw [e]; exact named1 h
  · have e : namedM m = { pData m with k := m.k } := by unfold namedM; rw [if_neg (by omega), if_pos h]
    rw [e]; exact named2 h
  · have e : namedM m = { pPrep m with k := m.k } := by unfold namedM; rw [if_neg (by omega), if_neg (by omega), if_pos h]
    rw [e]; exact named3 h
  · have e : namedM m = { pVote m with k := m.k } := by unfold namedM; rw [if_neg (by omega), if_neg (by omega), if_neg (by omega), if_pos h]
    rw [e]; exact named4 h
  · have e : namedM m = { pCommit m with k := m.k } := by unfold namedM; rw [if_neg (by omega), if_neg (by omega), if_neg (by omega), if_neg (by omega), if_pos h]
    rw [e]; exact named5 h
  · have e : namedM m = { pVerd 6 m with k := m.k } := by unfold namedM; rw [if_neg (by omega), if_neg (by omega), if_neg (by omega), if_neg (by omega), if_neg (by omega), if_pos h]
    rw [e]; exact named6 h
  · have e : namedM m = { pVerd 7 m with k := m.k } := by unfold namedM; rw [if_neg (by omega), if_neg (by omega), if_neg (by omega), if_neg (by omega), if_neg (by omega), if_neg (by omega), if_pos h]
    rw [e]; exact named7 h
  · have e : namedM m = { pQuery m with k := m.k } := by unfold namedM; rw [if_neg (by omega), if_neg (by omega), if_neg (by omega), if_neg (by omega), if_neg (by omega), if_neg (by omega), if_neg (by omega), if_pos h]
    rw [e]; exact named8 h
  · have e : namedM m = { pVerd 9 m with k := m.k } := by unfold namedM; rw [if_neg (by omega), if_neg (by omega), if_neg (by omega), if_neg (by omega), if_neg (by omega), if_neg (by omega), if_neg (by omega), if_neg (by omega), if_pos h]
    rw [e]; exact named9 h
theorem named_part {m n : Mg} (hn : namedM m = n) : Part m n := by
  subst hn
  unfold namedM
  repeat' split
  all_goals refine ⟨beq_self_eq_true _, beq_self_eq_true _, beq_self_eq_true _, ?_, ?_, ?_⟩
  all_goals first | exact .inl ⟨rfl, rfl⟩ | exact .inr ⟨rfl, rfl, rfl⟩
theorem rules_is {m : Mg} {w : World} {u : Bool} (hu : rulesM m = u) (hT : Tabs w) :
    Calls Tryd.prog 12 #[m.val] w fun e w' => e = .returned (.bool u) ∧ Below w.heap.size w w' := by
  unfold rulesM at hu
  rcases kinds m with h | h | h | h | h | h | h | h | h | h
  · rw [if_neg (by omega), if_neg (by omega), if_neg (by omega), if_neg (by omega), if_neg (by omega)] at hu
    exact rules0 h hu hT
  · rw [if_pos h] at hu
    exact rules1 h hu hT
  · rw [if_neg (by omega), if_pos h] at hu
    exact rules2 h hu hT
  · rw [if_neg (by omega), if_neg (by omega), if_pos h] at hu
    exact rules3 h hu hT
  · rw [if_neg (by omega), if_neg (by omega), if_neg (by omega), if_pos h] at hu
    exact rules4 h hu hT
  · rw [if_neg (by omega), if_neg (by omega), if_neg (by omega), if_neg (by omega), if_neg (by omega)] at hu
    exact rules5 h hu hT
  · rw [if_neg (by omega), if_neg (by omega), if_neg (by omega), if_neg (by omega), if_pos (by omega)] at hu
    exact rules6 h hu hT
  · rw [if_neg (by omega), if_neg (by omega), if_neg (by omega), if_neg (by omega), if_pos (by omega)] at hu
    exact rules7 h hu hT
  · rw [if_neg (by omega), if_neg (by omega), if_neg (by omega), if_neg (by omega), if_neg (by omega)] at hu
    exact rules8 h hu hT
  · rw [if_neg (by omega), if_neg (by omega), if_neg (by omega), if_neg (by omega), if_pos (by omega)] at hu
    exact rules9 h hu hT

/-- what the document's Valid answers -/
def refOk (m : Mg) : Bool := kindOk m && sameM m (namedM m) && readsOk m.rs && writesOk m.ws && pairsOk m.ps && rulesM m && !(txnK m.k && m.s == 0)

set_option maxHeartbeats 8000000 in
set_option maxRecDepth 8000 in
theorem refvalid_is {m : Mg} {w : World} {u : Bool} (hu : refOk m = u) (h : m.ok w) (hT : Tabs w) :
    Calls Tryd.prog 5 #[m.val] w fun e w' => e = .returned (.int .i64 (if u then 0 else 50)) ∧ Below w.heap.size w w' := by
  subst hu
  have H := hid h; have HT := hid hT
  clear h hT
  obtain ⟨n, hn⟩ : ∃ n, namedM m = n := ⟨_, rfl⟩
  obtain ⟨b1, h1⟩ : ∃ b, decide (m.k < 1) = b := ⟨_, rfl⟩
  obtain ⟨b2, h2⟩ : ∃ b, decide (9 < m.k) = b := ⟨_, rfl⟩
  obtain ⟨b3, h3⟩ : ∃ b, sameM m n = b := ⟨_, rfl⟩
  obtain ⟨b4, h4⟩ : ∃ b, readsOk m.rs = b := ⟨_, rfl⟩
  obtain ⟨b5, h5⟩ : ∃ b, writesOk m.ws = b := ⟨_, rfl⟩
  obtain ⟨b6, h6⟩ : ∃ b, pairsOk m.ps = b := ⟨_, rfl⟩
  obtain ⟨b7, h7⟩ : ∃ b, rulesM m = b := ⟨_, rfl⟩
  obtain ⟨b8, h8⟩ : ∃ b, txnK m.k = b := ⟨_, rfl⟩
  obtain ⟨b9, h9⟩ : ∃ b, (m.s == 0) = b := ⟨_, rfl⟩
  have HU : Hid (refOk m = (!b1 && !b2 && b3 && b4 && b5 && b6 && b7 && !(b8 && b9))) := by
    show _ = _
    rw [refOk, hn, h3, h4, h5, h6, h7, h8, h9]
    congr 6
    rw [kindOk, ← h1, ← h2, Bool.eq_iff_iff]; simp
  have HN := hid hn; have H3 := hid h3; have H4 := hid h4; have H5 := hid h5; have H6 := hid h6; have H7 := hid h7; have H8 := hid h8
  rw [HU.out]
  clear hn h3 h4 h5 h6 h7 h8 HU
  go_enter Tryd.func5, Tryd.ntmps5
  go_wp2_with fail
  have hB := boxM w m 35
  have hb0 : Below w.heap.size w (w.alloc (.cells m.cells 35)) := Below.al (Below.refl _ _) _
  obtain ⟨wa, hwa⟩ : ∃ wa, wa = w.alloc (.cells m.cells 35) := ⟨_, rfl⟩
  rw [← hwa] at hB hb0 ⊢
  clear hwa
  replace H := hid (H.out.later hb0)
  replace HT := hid (HT.out.later hb0)
  have HB0 := hid hb0
  have HB := hid hB
  have ⟨c0, c1, c2, c3, c4, c5, c6, c7, c8, c9, c10, c11, c12, c13, c14⟩ := hB
  clear hb0 hB
  have k0 := cell_regrown c0; have k1 := cell_regrown c1; have k2 := cell_regrown c2; have k3 := cell_regrown c3; have k4 := cell_regrown c4; have k5 := cell_regrown c5; have k6 := cell_regrown c6; have k7 := cell_regrown c7; have k8 := cell_regrown c8; have k9 := cell_regrown c9; have k10 := cell_regrown c10; have k11 := cell_regrown c11; have k12 := cell_regrown c12; have k13 := cell_regrown c13; have k14 := cell_regrown c14
  clear c0 c1 c2 c3 c4 c5 c6 c7 c8 c9 c10 c11 c12 c13 c14
  refine wp_region_quiet_below (by kernel_rfl) (by kernel_rfl) ?_
  repeat (go_big_quiet_step (first | (go_at_call 8; exact Calls.regrown_of (named_is HN.out _)) | (go_at_call 7; exact Calls.regrown_of (refsame_is (m := m) (n := n) H3.out (H.out.later (below_regrown _ _ _)) (named_part HN.out)))))
  refine wpQuiet_nil ?_
  intro w1 hw
  replace hw := below_of_regrown hw
  clear k0 k1 k2 k3 k4 k5 k6 k7 k8 k9 k10 k11 k12 k13 k14
  have c12 := (HB.out.later hw).c12
  have HW := hid hw
  clear hw
  go_wp2_with fail
  refine (refreads_is H4.out (H.out.later HW.out).r H.out.rl).mono ?_
  rintro e w2 ⟨rfl, hw2⟩
  replace HW := hid (Below.on HW.out hw2)
  clear hw2 c12
  have c13 := (HB.out.later HW.out).c13
  go_wp2_with fail
  refine (refwrites_is H5.out (H.out.later HW.out).w H.out.wl).mono ?_
  rintro e w3 ⟨rfl, hw3⟩
  replace HW := hid (Below.on HW.out hw3)
  clear hw3 c13
  have c14 := (HB.out.later HW.out).c14
  go_wp2_with fail
  refine (refpairs_is H6.out (H.out.later HW.out).p H.out.pl).mono ?_
  rintro e w4 ⟨rfl, hw4⟩
  replace HW := hid (Below.on HW.out hw4)
  clear hw4 c14
  have ⟨c0, c1, c2, c3, c4, c5, c6, c7, c8, c9, c10, c11, c12, c13, c14⟩ := HB.out.later HW.out
  go_wp2_with fail
  refine (rules_is (m := m) H7.out (HT.out.later HW.out)).mono ?_
  rintro e w5 ⟨rfl, hw5⟩
  replace HW := hid (Below.on HW.out hw5)
  clear hw5 c0 c1 c2 c3 c4 c5 c6 c7 c8 c9 c10 c11 c12 c13 c14
  have c0 := (HB.out.later HW.out).c0
  have c4 := (HB.out.later HW.out).c4
  cases b1
  case true =>
    go_wp2_with fail
    go_ret
    exact ⟨by simp, Below.on HB0.out HW.out⟩
  cases b2
  case true =>
    go_wp2_with fail
    go_ret
    exact ⟨by simp, Below.on HB0.out HW.out⟩
  cases b3
  case false =>
    go_wp2_with fail
    go_ret
    exact ⟨by simp, Below.on HB0.out HW.out⟩
  cases b4
  case false =>
    go_wp2_with fail
    go_ret
    exact ⟨by simp, Below.on HB0.out HW.out⟩
  cases b5
  case false =>
    go_wp2_with fail
    go_ret
    exact ⟨by simp, Below.on HB0.out HW.out⟩
  cases b6
  case false =>
    go_wp2_with fail
    go_ret
    exact ⟨by simp, Below.on HB0.out HW.out⟩
  cases b7
  case false =>
    go_wp2_with fail
    go_ret
    exact ⟨by simp, Below.on HB0.out HW.out⟩
  go_wp2_with fail
  refine (ofTxn_is H8.out _).mono ?_
  rintro e w6 ⟨rfl, rfl⟩
  cases b8
  case false =>
    go_wp2_with fail
    go_ret
    exact ⟨by simp, Below.on HB0.out HW.out⟩
  cases b9
  all_goals
    go_wp2_with fail
    go_ret
    exact ⟨by simp, Below.on HB0.out HW.out⟩

end Go.Proofs.YtoejdjiclgjgkaaDoor
