import Derived.Test.YtoejdjiclgjgkaaDoorMPairs
import Derived.Test.YtoejdjiclgjgkaaDoorMMake
namespace Go.Proofs.YtoejdjiclgjgkaaDoor
open Go.RowKit Go.Sort
set_option linter.unusedVariables false

def zeroSt (m : Mg) : Bool := sameB m.w m.l m.n 0 0 0
theorem run_eq0 {m : Mg} {b : Bool} (h : zeroSt m = b) : ∀ w, (binOp .eql 28 (stv m.w m.l m.n) (stv 0 0 0)).run Tryd.prog w = .ok (.bool b) w := fun w => by rw [run_eq]; unfold zeroSt at h; rw [h]
theorem run_ne0 {m : Mg} {b : Bool} (h : zeroSt m = b) : ∀ w, (binOp .neq 28 (stv m.w m.l m.n) (stv 0 0 0)).run Tryd.prog w = .ok (.bool !b) w := fun w => by rw [run_ne]; unfold zeroSt at h; rw [h]
/-- has it the number of a transaction? -/
def seqOk (m : Mg) : Bool := decide (1 ≤ m.s)

set_option maxHeartbeats 1000000 in
theorem read_valid {m : Mg} {w : World} {q : Nat} {u : Bool} (hu : (decide (m.rs.length = 1) && readsOk m.rs) = u) (hA : At w q 0 (vRead m)) (h : m.ok w) :
    Calls Tryd.prog 52 #[.pointer (some ⟨q, 0, none⟩)] w fun e w' => e = .returned (.bool u) ∧ Below w.heap.size w w' := by
  subst hu
  obtain ⟨a0, a1, a2, a3, a4, -⟩ := hA
  have H := hid h
  clear h
  by_cases h1 : m.rs.length = 1
  · have e1 : ((m.rs.length : Int) == 1) = true := by rw [h1]; rfl
    have H1 := hid h1
    clear h1
    go_enter Tryd.func52, Tryd.ntmps52
    go_wp2_with fail
    refine (validReads_is rfl H.out.r H.out.rl).mono ?_
    rintro e w1 ⟨rfl, hw1⟩
    go_wp2_with fail
    go_ret
    exact ⟨ret_bool (by rw [decide_eq_true H1.out, Bool.true_and]), hw1⟩
  · have e1 : ((m.rs.length : Int) == 1) = false := by rw [beq_eq_false_iff_ne]; omega
    have H1 := hid h1
    clear h1
    go_enter Tryd.func52, Tryd.ntmps52
    go_wp2_with fail
    go_ret
    exact ⟨ret_bool (by rw [decide_eq_false H1.out, Bool.false_and]), by (repeat (first | exact Below.refl _ _ | assumption | refine Below.drew ?_ | refine Below.al ?_ _ | refine Below.setCell ?_ (by first | exact Nat.le_refl _ | (simp; omega) | (simp; done)) _ | refine Below.on ?_ (by assumption)))⟩

set_option maxHeartbeats 1000000 in
theorem data_valid {m : Mg} {w : World} {q : Nat} {u : Bool} (hu : ((m.st == 0 || decide (m.ps.length = 0)) && dataS m.st && pairsOk m.ps) = u) (hA : At w q 0 (vData m)) (h : m.ok w) :
    Calls Tryd.prog 57 #[.pointer (some ⟨q, 0, none⟩)] w fun e w' => e = .returned (.bool u) ∧ Below w.heap.size w w' := by
  subst hu
  obtain ⟨a0, a1, a2, a3, a4, a5, -⟩ := hA
  have H := hid h
  clear h
  obtain ⟨b1, h1⟩ : ∃ b, (m.st == 0) = b := ⟨_, rfl⟩
  obtain ⟨b2, h2⟩ : ∃ b, decide (m.ps.length = 0) = b := ⟨_, rfl⟩
  obtain ⟨b3, h3⟩ : ∃ b, dataS m.st = b := ⟨_, rfl⟩
  have h1' : (m.st != 0) = !b1 := by rw [bne, h1]
  have h2' : decide (0 < m.ps.length) = !b2 := by
    rw [← h2]; by_cases e : m.ps.length = 0
    · simp [e]
    · rw [decide_eq_false e]; simp; omega
  have HS : Hid (((m.st == 0 || decide (m.ps.length = 0)) && dataS m.st && pairsOk m.ps) = ((b1 || b2) && b3 && pairsOk m.ps)) := by
    show _ = _
    rw [h1, h2, h3]
  rw [HS.out]
  have H3 := hid h3
  clear h3 h2 h1 HS
  cases b1
  · cases b2
    · go_enter Tryd.func57, Tryd.ntmps57
      go_wp2_with fail
      go_ret
      exact ⟨ret_bool (by simp), by (repeat (first | exact Below.refl _ _ | assumption | refine Below.drew ?_ | refine Below.al ?_ _ | refine Below.setCell ?_ (by first | exact Nat.le_refl _ | (simp; omega) | (simp; done)) _ | refine Below.on ?_ (by assumption)))⟩
    · go_enter Tryd.func57, Tryd.ntmps57
      go_wp2_with fail
      refine (dataStatus_is H3.out _).mono ?_
      rintro e w1 ⟨rfl, hw1⟩
      have a5 := cell_later hw1 a5
      cases b3
      · go_wp2_with fail
        go_ret
        exact ⟨ret_bool (by simp), hw1⟩
      · go_wp2_with fail
        refine (validPairs_is rfl (H.out.later hw1).p H.out.pl).mono ?_
        rintro e w2 ⟨rfl, hw2⟩
        go_wp2_with fail
        go_ret
        exact ⟨ret_bool (by simp), Below.on hw1 hw2⟩
  · go_enter Tryd.func57, Tryd.ntmps57
    go_wp2_with fail
    refine (dataStatus_is H3.out _).mono ?_
    rintro e w1 ⟨rfl, hw1⟩
    have a5 := cell_later hw1 a5
    cases b3
    · go_wp2_with fail
      go_ret
      exact ⟨ret_bool (by simp), hw1⟩
    · go_wp2_with fail
      refine (validPairs_is rfl (H.out.later hw1).p H.out.pl).mono ?_
      rintro e w2 ⟨rfl, hw2⟩
      go_wp2_with fail
      go_ret
      exact ⟨ret_bool (by simp), Below.on hw1 hw2⟩

theorem txn_is {c s : Int} (w : World) :
    Calls Tryd.prog 68 #[.agg #[.int .u32 c, .int .u32 s]] w fun e w' => e = .returned (.bool (decide (1 ≤ s))) ∧ Below w.heap.size w w' := by
  go_enter Tryd.func68, Tryd.ntmps68
  go_wp2_with fail
  go_ret
  exact ⟨ret_bool (by simp), by (repeat (first | exact Below.refl _ _ | assumption | refine Below.drew ?_ | refine Below.al ?_ _ | refine Below.setCell ?_ (by first | exact Nat.le_refl _ | (simp; omega) | (simp; done)) _ | refine Below.on ?_ (by assumption)))⟩

set_option maxHeartbeats 1000000 in
theorem txn_valid {m : Mg} {w : World} {q : Nat} {u : Bool} (hu : seqOk m = u) (a0 : w.cell? ⟨q, 0, none⟩ = some (.int .u32 m.c)) (a1 : w.cell? ⟨q, 1, none⟩ = some (.int .u32 m.s)) :
    Calls Tryd.prog 66 #[.pointer (some ⟨q, 0, none⟩)] w fun e w' => e = .returned (.bool u) ∧ Below w.heap.size w w' := by
  subst hu
  go_enter Tryd.func66, Tryd.ntmps66
  go_wp2_with fail
  refine (txn_is _).mono ?_
  rintro e w1 ⟨rfl, hw1⟩
  go_wp2_with fail
  go_ret
  exact ⟨ret_bool (by simp [seqOk]), hw1⟩

set_option maxHeartbeats 1000000 in
theorem prep_valid {m : Mg} {w : World} {q : Nat} {u : Bool} (hu : (!(decide (m.rs.length = 0) && decide (m.ws.length = 0)) && seqOk m && readsOk m.rs && writesOk m.ws) = u) (hA : At w q 0 (vPrep m)) (h : m.ok w) :
    Calls Tryd.prog 65 #[.pointer (some ⟨q, 0, none⟩)] w fun e w' => e = .returned (.bool u) ∧ Below w.heap.size w w' := by
  subst hu
  obtain ⟨a0, a1, a2, a3, a4, a5, a6, a7, -⟩ := hA
  have H := hid h
  clear h
  obtain ⟨b1, h1⟩ : ∃ b, decide (m.rs.length = 0) = b := ⟨_, rfl⟩
  obtain ⟨b2, h2⟩ : ∃ b, decide (m.ws.length = 0) = b := ⟨_, rfl⟩
  obtain ⟨b3, h3⟩ : ∃ b, seqOk m = b := ⟨_, rfl⟩
  obtain ⟨b4, h4⟩ : ∃ b, readsOk m.rs = b := ⟨_, rfl⟩
  have h1' : ((m.rs.length : Int) == 0) = b1 := by
    rw [← h1, Bool.eq_iff_iff]; simp
  have h2' : ((m.ws.length : Int) == 0) = b2 := by
    rw [← h2, Bool.eq_iff_iff]; simp
  have HS : Hid ((!(decide (m.rs.length = 0) && decide (m.ws.length = 0)) && seqOk m && readsOk m.rs && writesOk m.ws) = (!(b1 && b2) && b3 && b4 && writesOk m.ws)) := by
    show _ = _
    rw [h1, h2, h3, h4]
  rw [HS.out]
  have H3 := hid h3; have H4 := hid h4
  clear h3 h4 h2 h1 HS
  by_cases hb : (b1 && b2) = true
  · obtain ⟨rfl, rfl⟩ : b1 = true ∧ b2 = true := by simpa using hb
    go_enter Tryd.func65, Tryd.ntmps65
    go_wp2_with fail
    go_ret
    exact ⟨ret_bool (by simp), by (repeat (first | exact Below.refl _ _ | assumption | refine Below.drew ?_ | refine Below.al ?_ _ | refine Below.setCell ?_ (by first | exact Nat.le_refl _ | (simp; omega) | (simp; done)) _ | refine Below.on ?_ (by assumption)))⟩
  · have hg : (b1 && b2) = false := by simpa using hb
    have HG := hid hg
    have go : ∀ (b1 b2 : Bool), (b1 && b2) = false → (b1 = false) ∨ (b1 = true ∧ b2 = false) := by decide
    rcases go _ _ hg with rfl | ⟨rfl, rfl⟩
    all_goals
      clear hb hg go
      go_enter Tryd.func65, Tryd.ntmps65
      go_wp2_with fail
      refine (txn_valid H3.out a0 a1).mono ?_
      rintro e w1 ⟨rfl, hw1⟩
      have a6 := cell_later hw1 a6
      have a7 := cell_later hw1 a7
      cases b3
      · go_wp2_with fail
        go_ret
        exact ⟨ret_bool (by simp), hw1⟩
      go_wp2_with fail
      refine (validReads_is H4.out (H.out.later hw1).r H.out.rl).mono ?_
      rintro e w2 ⟨rfl, hw2⟩
      have a7 := cell_later hw2 a7
      replace hw2 := Below.on hw1 hw2
      clear hw1
      cases b4
      · go_wp2_with fail
        go_ret
        exact ⟨ret_bool (by simp), hw2⟩
      go_wp2_with fail
      refine (validWrites_is rfl (H.out.later hw2).w H.out.wl).mono ?_
      rintro e w3 ⟨rfl, hw3⟩
      go_wp2_with fail
      go_ret
      exact ⟨ret_bool (by simp), Below.on hw2 hw3⟩

set_option maxHeartbeats 1000000 in
theorem vote_valid {m : Mg} {w : World} {q : Nat} {u : Bool} (hu : ((m.st == 0 || zeroSt m) && seqOk m && voteS m.st) = u) (hA : At w q 0 (vVote m)) :
    Calls Tryd.prog 72 #[.pointer (some ⟨q, 0, none⟩)] w fun e w' => e = .returned (.bool u) ∧ Below w.heap.size w w' := by
  subst hu
  obtain ⟨a0, a1, a2, a3, a4, a5, a6, -⟩ := hA
  obtain ⟨b1, h1⟩ : ∃ b, (m.st == 0) = b := ⟨_, rfl⟩
  obtain ⟨b2, h2⟩ : ∃ b, zeroSt m = b := ⟨_, rfl⟩
  obtain ⟨b3, h3⟩ : ∃ b, seqOk m = b := ⟨_, rfl⟩
  have h1' : (m.st != 0) = !b1 := by rw [bne, h1]
  have e2 := run_ne0 h2
  have HS : Hid (((m.st == 0 || zeroSt m) && seqOk m && voteS m.st) = ((b1 || b2) && b3 && voteS m.st)) := by
    show _ = _
    rw [h1, h2, h3]
  rw [HS.out]
  have H3 := hid h3
  clear h3 h2 h1 HS
  by_cases hb : (b1 || b2) = true
  · have go : ∀ (b1 b2 : Bool), (b1 || b2) = true → (b1 = true) ∨ (b1 = false ∧ b2 = true) := by decide
    rcases go _ _ hb with rfl | ⟨rfl, rfl⟩
    all_goals
      clear hb go
      go_enter Tryd.func72, Tryd.ntmps72
      go_wp2_with fail
      refine (txn_valid H3.out a0 a1).mono ?_
      rintro e w1 ⟨rfl, hw1⟩
      have a3 := cell_later hw1 a3
      cases b3
      · go_wp2_with fail
        go_ret
        exact ⟨ret_bool (by simp), hw1⟩
      go_wp2_with fail
      refine (voteStatus_is rfl _).mono ?_
      rintro e w2 ⟨rfl, hw2⟩
      go_wp2_with fail
      go_ret
      exact ⟨ret_bool (by simp), Below.on hw1 hw2⟩
  · obtain ⟨rfl, rfl⟩ : b1 = false ∧ b2 = false := by simpa using hb
    clear hb
    go_enter Tryd.func72, Tryd.ntmps72
    go_wp2_with fail
    go_ret
    exact ⟨ret_bool (by simp), by (repeat (first | exact Below.refl _ _ | assumption | refine Below.drew ?_ | refine Below.al ?_ _ | refine Below.setCell ?_ (by first | exact Nat.le_refl _ | (simp; omega) | (simp; done)) _ | refine Below.on ?_ (by assumption)))⟩

set_option maxHeartbeats 1000000 in
theorem verd_valid {m : Mg} {w : World} {q : Nat} {u : Bool} (hu : ((m.oc == 1 || (m.oc == 2 && zeroSt m)) && seqOk m) = u) (hA : At w q 0 (vVerd m)) :
    Calls Tryd.prog 78 #[.pointer (some ⟨q, 0, none⟩)] w fun e w' => e = .returned (.bool u) ∧ Below w.heap.size w w' := by
  subst hu
  obtain ⟨a0, a1, a2, a3, a4, a5, a6, -⟩ := hA
  obtain ⟨b1, h1⟩ : ∃ b, (m.oc == 1) = b := ⟨_, rfl⟩
  obtain ⟨b2, h2⟩ : ∃ b, (m.oc == 2) = b := ⟨_, rfl⟩
  obtain ⟨b4, h4⟩ : ∃ b, zeroSt m = b := ⟨_, rfl⟩
  obtain ⟨b3, h3⟩ : ∃ b, seqOk m = b := ⟨_, rfl⟩
  have e4 := run_eq0 h4
  have HS : Hid (((m.oc == 1 || (m.oc == 2 && zeroSt m)) && seqOk m) = ((b1 || (b2 && b4)) && b3)) := by
    show _ = _
    rw [h1, h2, h3, h4]
  rw [HS.out]
  have H3 := hid h3
  clear h3 h4 HS
  cases b1
  · cases b2
    · go_enter Tryd.func78, Tryd.ntmps78
      go_wp2_with fail
      go_ret
      exact ⟨ret_bool (by simp), by (repeat (first | exact Below.refl _ _ | assumption | refine Below.drew ?_ | refine Below.al ?_ _ | refine Below.setCell ?_ (by first | exact Nat.le_refl _ | (simp; omega) | (simp; done)) _ | refine Below.on ?_ (by assumption)))⟩
    · go_enter Tryd.func78, Tryd.ntmps78
      go_wp2_with fail
      refine (txn_valid H3.out a0 a1).mono ?_
      rintro e w1 ⟨rfl, hw1⟩
      have a4 := cell_later hw1 a4
      have a5 := cell_later hw1 a5
      have a6 := cell_later hw1 a6
      cases b3
      · go_wp2_with fail
        go_ret
        exact ⟨ret_bool (by simp), hw1⟩
      · go_wp2_with fail
        go_ret
        exact ⟨ret_bool (by simp), hw1⟩
  · go_enter Tryd.func78, Tryd.ntmps78
    go_wp2_with fail
    refine (txn_valid H3.out a0 a1).mono ?_
    rintro e w1 ⟨rfl, hw1⟩
    go_wp2_with fail
    go_ret
    exact ⟨ret_bool (by simp), hw1⟩

end Go.Proofs.YtoejdjiclgjgkaaDoor
