import Derived.Test.YtoejdjiclgjgkaaDoorMSame0
namespace Go.Proofs.YtoejdjiclgjgkaaDoor
open Go.RowKit Go.Sort
set_option linter.unusedVariables false

set_option maxHeartbeats 4000000 in
set_option maxRecDepth 8000 in
theorem rsame_no4 {m n : Mg} (w : World) (h1 : (m.k != n.k) = false) (h2 : (m.f != n.f) = false) (h3 : (m.t != n.t) = false) (e4 : ∀ w, (binOp .neq 25 (txv m.c m.s) (txv n.c n.s)).run Tryd.prog w = .ok (.bool true) w) :
    Calls Tryd.prog 7 #[m.val, n.val] w fun e w' => e = .returned (.bool false) ∧ Below w.heap.size w w' := by
  go_enter Tryd.func7, Tryd.ntmps7
  go_wp2_with fail
  go_ret
  exact ⟨rfl, by (repeat (first | exact Below.refl _ _ | assumption | refine Below.drew ?_ | refine Below.al ?_ _ | refine Below.setCell ?_ (by first | exact Nat.le_refl _ | (simp; omega) | (simp; done)) _ | refine Below.on ?_ (by assumption)))⟩

set_option maxHeartbeats 4000000 in
set_option maxRecDepth 8000 in
theorem rsame_no5 {m n : Mg} (w : World) (h1 : (m.k != n.k) = false) (h2 : (m.f != n.f) = false) (h3 : (m.t != n.t) = false) (e4 : ∀ w, (binOp .neq 25 (txv m.c m.s) (txv n.c n.s)).run Tryd.prog w = .ok (.bool false) w) (h5 : (m.h != n.h) = true) :
    Calls Tryd.prog 7 #[m.val, n.val] w fun e w' => e = .returned (.bool false) ∧ Below w.heap.size w w' := by
  go_enter Tryd.func7, Tryd.ntmps7
  go_wp2_with fail
  go_ret
  exact ⟨rfl, by (repeat (first | exact Below.refl _ _ | assumption | refine Below.drew ?_ | refine Below.al ?_ _ | refine Below.setCell ?_ (by first | exact Nat.le_refl _ | (simp; omega) | (simp; done)) _ | refine Below.on ?_ (by assumption)))⟩

set_option maxHeartbeats 4000000 in
set_option maxRecDepth 8000 in
theorem rsame_no6 {m n : Mg} (w : World) (h1 : (m.k != n.k) = false) (h2 : (m.f != n.f) = false) (h3 : (m.t != n.t) = false) (e4 : ∀ w, (binOp .neq 25 (txv m.c m.s) (txv n.c n.s)).run Tryd.prog w = .ok (.bool false) w) (h5 : (m.h != n.h) = false) (h6 : (m.o != n.o) = true) :
    Calls Tryd.prog 7 #[m.val, n.val] w fun e w' => e = .returned (.bool false) ∧ Below w.heap.size w w' := by
  go_enter Tryd.func7, Tryd.ntmps7
  go_wp2_with fail
  go_ret
  exact ⟨rfl, by (repeat (first | exact Below.refl _ _ | assumption | refine Below.drew ?_ | refine Below.al ?_ _ | refine Below.setCell ?_ (by first | exact Nat.le_refl _ | (simp; omega) | (simp; done)) _ | refine Below.on ?_ (by assumption)))⟩

end Go.Proofs.YtoejdjiclgjgkaaDoor
