import Derived.Test.YtoejdjiclgjgkaaDoorMSame0
namespace Go.Proofs.YtoejdjiclgjgkaaDoor
open Go.RowKit Go.Sort
set_option linter.unusedVariables false

/-- these values lie in block q from i on -/
def At (w : World) (q : Nat) : Nat → List Value → Prop
  | _, [] => True
  | i, v :: r => w.cell? ⟨q, i, none⟩ = some v ∧ At w q (i + 1) r
theorem At.later {w w' : World} {q : Nat} (hb : Below w.heap.size w w') : ∀ {vs : List Value} {i : Nat}, At w q i vs → At w' q i vs
  | [], _, _ => trivial
  | _ :: _, _, h => ⟨cell_later hb h.1, At.later hb h.2⟩
def vRead (m : Mg) : List Value := [.int .u32 m.o, .int .u64 m.w, .int .u32 m.l, .int .u32 m.n, .slice m.ra m.rs.length m.rc]
def vData (m : Mg) : List Value := [.int .u32 m.o, .int .u64 m.w, .int .u32 m.l, .int .u32 m.n, .int .i64 m.st, .slice m.pa m.ps.length m.pc]
def vPrep (m : Mg) : List Value := [.int .u32 m.c, .int .u32 m.s, .int .u32 m.h, .int .u64 m.w, .int .u32 m.l, .int .u32 m.n, .slice m.ra m.rs.length m.rc, .slice m.wa m.ws.length m.wc]
def vVote (m : Mg) : List Value := [.int .u32 m.c, .int .u32 m.s, .int .u32 m.h, .int .i64 m.st, .int .u64 m.w, .int .u32 m.l, .int .u32 m.n]
def vCommit (m : Mg) : List Value := [.int .u32 m.c, .int .u32 m.s, .int .u32 m.h, .int .u64 m.w, .int .u32 m.l, .int .u32 m.n]
def vVerd (m : Mg) : List Value := [.int .u32 m.c, .int .u32 m.s, .int .u32 m.h, .int .i64 m.oc, .int .u64 m.w, .int .u32 m.l, .int .u32 m.n]
def vQuery (m : Mg) : List Value := [.int .u32 m.c, .int .u32 m.s, .int .u32 m.h]

set_option maxHeartbeats 1000000 in
theorem transactionOf_is (m : Mg) (w : World) :
    Calls Tryd.prog 24 #[m.val] w fun e w' => e = .returned (.agg #[.int .u32 m.c, .int .u32 m.s, .int .u32 m.h]) ∧ Below w.heap.size w w' := by
  go_enter Tryd.func24, Tryd.ntmps24
  go_wp2_with fail
  refine bodyPost_ret (v := .agg #[.int .u32 m.c, .int .u32 m.s, .int .u32 m.h]) (by simp [results, Tryd.results24, go_sem]) rfl ⟨rfl, ?_⟩
  (repeat (first | exact Below.refl _ _ | assumption | refine Below.drew ?_ | refine Below.al ?_ _ | refine Below.setCell ?_ (by first | exact Nat.le_refl _ | (simp; omega) | (simp; done)) _ | refine Below.on ?_ (by assumption)))

set_option maxHeartbeats 1000000 in
theorem make1 (m : Mg) (w : World) :
    Calls Tryd.prog 21 #[m.val] w fun e w' => ∃ q, e = .returned (.iface 58 (.pointer (some ⟨q, 0, none⟩))) ∧ At w' q 0 (vRead m) ∧ Below w.heap.size w w' := by
  go_enter Tryd.func21, Tryd.ntmps21
  go_wp2_with fail
  go_ret
  refine ⟨_, rfl, ⟨?_, ?_, ?_, ?_, ?_, trivial⟩, by (repeat (first | exact Below.refl _ _ | assumption | refine Below.drew ?_ | refine Below.al ?_ _ | refine Below.setCell ?_ (by first | exact Nat.le_refl _ | (simp; omega) | (simp; done)) _ | refine Below.on ?_ (by assumption)))⟩ <;> simp [go_sem]

set_option maxHeartbeats 1000000 in
theorem make2 (m : Mg) (w : World) :
    Calls Tryd.prog 22 #[m.val] w fun e w' => ∃ q, e = .returned (.iface 62 (.pointer (some ⟨q, 0, none⟩))) ∧ At w' q 0 (vData m) ∧ Below w.heap.size w w' := by
  go_enter Tryd.func22, Tryd.ntmps22
  go_wp2_with fail
  go_ret
  refine ⟨_, rfl, ⟨?_, ?_, ?_, ?_, ?_, ?_, trivial⟩, by (repeat (first | exact Below.refl _ _ | assumption | refine Below.drew ?_ | refine Below.al ?_ _ | refine Below.setCell ?_ (by first | exact Nat.le_refl _ | (simp; omega) | (simp; done)) _ | refine Below.on ?_ (by assumption)))⟩ <;> simp [go_sem]

set_option maxHeartbeats 1000000 in
theorem make8 (m : Mg) (w : World) :
    Calls Tryd.prog 30 #[m.val] w fun e w' => ∃ q, e = .returned (.iface 85 (.pointer (some ⟨q, 0, none⟩))) ∧ At w' q 0 (vQuery m) ∧ Below w.heap.size w w' := by
  go_enter Tryd.func30, Tryd.ntmps30
  go_wp2_with fail
  refine (transactionOf_is m _).mono ?_
  rintro e w1 ⟨rfl, hw1⟩
  replace hw1 := Below.on (Below.al (Below.refl _ _) _) hw1
  go_wp2_with fail
  go_ret
  refine ⟨_, rfl, ⟨?_, ?_, ?_, trivial⟩, by (repeat (first | exact Below.refl _ _ | assumption | refine Below.drew ?_ | refine Below.al ?_ _ | refine Below.setCell ?_ (by first | exact Nat.le_refl _ | (simp; omega) | (simp; done)) _ | refine Below.on ?_ (by assumption)))⟩ <;> simp [go_sem]

end Go.Proofs.YtoejdjiclgjgkaaDoor
