import Derived.Test.YtoejdjiclgjgkaaDoorMBase
namespace Go.Proofs.YtoejdjiclgjgkaaDoor
open Go.RowKit Go.Sort
set_option linter.unusedVariables false

/-- may a span be? -/
def spanOk (x : T2) : Bool := decide (x.1.size ≤ 33) && decide (x.2.size ≤ 33) && (emS x.2 || ltS x.1 x.2)
/-- may a key stand behind last? -/
def keyOk (last key : ByteArray) : Bool := ltS last key && decide (key.size ≤ 32)

theorem validSpan_is {x : T2} {u : Bool} (hu : spanOk x = u) (w : World) :
    Calls Tryd.prog 54 #[.agg #[.string x.1, .string x.2]] w fun e w' => e = .returned (.bool u) ∧ Below w.heap.size w w' := by
  subst hu
  obtain ⟨lo, hi⟩ := x
  go_enter Tryd.func54, Tryd.ntmps54
  go_wp2_with fail
  all_goals go_ret
  all_goals refine ⟨ret_bool ?_, by (repeat (first | exact Below.refl _ _ | assumption | refine Below.drew ?_ | refine Below.al ?_ _ | refine Below.setCell ?_ (by first | exact Nat.le_refl _ | (simp; omega) | (simp; done)) _ | refine Below.on ?_ (by assumption)))⟩
  all_goals simp only [spanOk, emS, ltS]
  · rw [Bool.eq_iff_iff]; simp; omega
  · rename_i h2 h1 h0; rw [Bool.eq_iff_iff]; simp [h0]; omega
  · rename_i h2 h1 h0; rw [Bool.eq_iff_iff]; simp; omega
  · rw [Bool.eq_iff_iff]; simp; omega

def dataS (s : Int) : Bool := s == 0 || s == 11 || s == 60 || s == 90 || s == 140 || s == 142
def voteS (s : Int) : Bool := s == 0 || s == 11 || s == 60 || s == 90 || s == 100 || s == 141 || s == 164
theorem dataStatus_is {s : Int} {u : Bool} (hu : dataS s = u) (w : World) :
    Calls Tryd.prog 58 #[.int .i64 s] w fun e w' => e = .returned (.bool u) ∧ Below w.heap.size w w' := by
  subst hu
  go_enter Tryd.func58, Tryd.ntmps58
  go_wp2_with fail
  all_goals go_ret
  all_goals refine ⟨ret_bool ?_, by (repeat (first | exact Below.refl _ _ | assumption | refine Below.drew ?_ | refine Below.al ?_ _ | refine Below.setCell ?_ (by first | exact Nat.le_refl _ | (simp; omega) | (simp; done)) _ | refine Below.on ?_ (by assumption)))⟩
  all_goals simp_all [dataS]
theorem voteStatus_is {s : Int} {u : Bool} (hu : voteS s = u) (w : World) :
    Calls Tryd.prog 73 #[.int .i64 s] w fun e w' => e = .returned (.bool u) ∧ Below w.heap.size w w' := by
  subst hu
  go_enter Tryd.func73, Tryd.ntmps73
  go_wp2_with fail
  all_goals go_ret
  all_goals refine ⟨ret_bool ?_, by (repeat (first | exact Below.refl _ _ | assumption | refine Below.drew ?_ | refine Below.al ?_ _ | refine Below.setCell ?_ (by first | exact Nat.le_refl _ | (simp; omega) | (simp; done)) _ | refine Below.on ?_ (by assumption)))⟩
  all_goals simp_all [voteS]

theorem key_is {a : ByteArray} {u : Bool} (hu : (!emS a && decide (a.size ≤ 32)) = u) (w : World) :
    Calls Tryd.prog 19 #[.string a] w fun e w' => e = .returned (.bool u) ∧ Below w.heap.size w w' := by
  subst hu
  go_enter Tryd.func19, Tryd.ntmps19
  go_wp2_with fail
  all_goals go_ret
  all_goals refine ⟨ret_bool ?_, by (repeat (first | exact Below.refl _ _ | assumption | refine Below.drew ?_ | refine Below.al ?_ _ | refine Below.setCell ?_ (by first | exact Nat.le_refl _ | (simp; omega) | (simp; done)) _ | refine Below.on ?_ (by assumption)))⟩
  all_goals rw [em_size, Bool.eq_iff_iff]
  all_goals simp only [Bool.and_eq_true, decide_eq_true_eq, Bool.not_eq_true', decide_eq_false_iff_not, Bool.false_eq_true]
  all_goals first | omega | (simp only [false_iff]; omega) | (trace_state; fail)
def txnK (k : Int) : Bool := decide (3 ≤ k) && decide (k ≤ 9)
def atK (k : Int) : Bool := decide (1 ≤ k) && decide (k ≤ 9) && k != 8
def outK (k : Int) : Bool := k == 6 || k == 7 || k == 9
theorem ofTxn_is {k : Int} {u : Bool} (hu : txnK k = u) (w : World) :
    Calls Tryd.prog 13 #[.int .i64 k] w fun e w' => e = .returned (.bool u) ∧ w' = w := by
  subst hu
  go_enter Tryd.func13, Tryd.ntmps13
  go_wp2_with fail
  all_goals go_ret
  all_goals refine ⟨ret_bool ?_, rfl⟩
  all_goals simp_all [txnK]
  all_goals omega
theorem ofAt_is {k : Int} {u : Bool} (hu : atK k = u) (w : World) :
    Calls Tryd.prog 17 #[.int .i64 k] w fun e w' => e = .returned (.bool u) ∧ w' = w := by
  subst hu
  go_enter Tryd.func17, Tryd.ntmps17
  go_wp2_with fail
  all_goals go_ret
  all_goals refine ⟨ret_bool ?_, rfl⟩
  all_goals simp_all [atK]
  all_goals omega
theorem ofOutcome_is {k : Int} {u : Bool} (hu : outK k = u) (w : World) :
    Calls Tryd.prog 18 #[.int .i64 k] w fun e w' => e = .returned (.bool u) ∧ w' = w := by
  subst hu
  go_enter Tryd.func18, Tryd.ntmps18
  go_wp2_with fail
  all_goals go_ret
  all_goals refine ⟨ret_bool ?_, rfl⟩
  all_goals simp_all [outK]

end Go.Proofs.YtoejdjiclgjgkaaDoor
