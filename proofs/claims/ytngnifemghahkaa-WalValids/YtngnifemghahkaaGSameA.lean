import Derived.Test.YtngnifemghahkaaGLists
namespace Go.Proofs.Ytngnifemghahkaa
open Go.RowKit Go.Sort
set_option linter.unusedVariables false

set_option maxHeartbeats 4000000 in
set_option maxRecDepth 8000 in
theorem rsame_no1 {m n : Rg} (w : World) (h1 : (m.k != n.k) = true) :
    Calls Try.prog 15 #[m.val, n.val] w fun e w' => e = .returned (.bool false) ∧ Below w.heap.size w w' := by
  go_enter Try.func15, Try.ntmps15
  go_wp2_with fail
  go_ret
  exact ⟨rfl, by (repeat (first | exact Below.refl _ _ | assumption | refine Below.drew ?_ | refine Below.al ?_ _ | refine Below.setCell ?_ (by first | exact Nat.le_refl _ | (simp; omega) | (simp; done)) _ | refine Below.on ?_ (by assumption)))⟩

set_option maxHeartbeats 4000000 in
set_option maxRecDepth 8000 in
theorem rsame_no2 {m n : Rg} (w : World) (h1 : (m.k != n.k) = false) (h2 : (m.x != n.x) = true) :
    Calls Try.prog 15 #[m.val, n.val] w fun e w' => e = .returned (.bool false) ∧ Below w.heap.size w w' := by
  go_enter Try.func15, Try.ntmps15
  go_wp2_with fail
  go_ret
  exact ⟨rfl, by (repeat (first | exact Below.refl _ _ | assumption | refine Below.drew ?_ | refine Below.al ?_ _ | refine Below.setCell ?_ (by first | exact Nat.le_refl _ | (simp; omega) | (simp; done)) _ | refine Below.on ?_ (by assumption)))⟩

set_option maxHeartbeats 4000000 in
set_option maxRecDepth 8000 in
theorem rsame_no3 {m n : Rg} (w : World) (h1 : (m.k != n.k) = false) (h2 : (m.x != n.x) = false) (e3 : ∀ w, (binOp .neq 26 (txv m.c m.s) (txv n.c n.s)).run Try.prog w = .ok (.bool true) w) :
    Calls Try.prog 15 #[m.val, n.val] w fun e w' => e = .returned (.bool false) ∧ Below w.heap.size w w' := by
  go_enter Try.func15, Try.ntmps15
  go_wp2_with fail
  go_ret
  exact ⟨rfl, by (repeat (first | exact Below.refl _ _ | assumption | refine Below.drew ?_ | refine Below.al ?_ _ | refine Below.setCell ?_ (by first | exact Nat.le_refl _ | (simp; omega) | (simp; done)) _ | refine Below.on ?_ (by assumption)))⟩

set_option maxHeartbeats 4000000 in
set_option maxRecDepth 8000 in
theorem rsame_no4 {m n : Rg} (w : World) (h1 : (m.k != n.k) = false) (h2 : (m.x != n.x) = false) (e3 : ∀ w, (binOp .neq 26 (txv m.c m.s) (txv n.c n.s)).run Try.prog w = .ok (.bool false) w) (h4 : (m.h != n.h) = true) :
    Calls Try.prog 15 #[m.val, n.val] w fun e w' => e = .returned (.bool false) ∧ Below w.heap.size w w' := by
  go_enter Try.func15, Try.ntmps15
  go_wp2_with fail
  go_ret
  exact ⟨rfl, by (repeat (first | exact Below.refl _ _ | assumption | refine Below.drew ?_ | refine Below.al ?_ _ | refine Below.setCell ?_ (by first | exact Nat.le_refl _ | (simp; omega) | (simp; done)) _ | refine Below.on ?_ (by assumption)))⟩

set_option maxHeartbeats 4000000 in
set_option maxRecDepth 8000 in
theorem rsame_no5 {m n : Rg} (w : World) (h1 : (m.k != n.k) = false) (h2 : (m.x != n.x) = false) (e3 : ∀ w, (binOp .neq 26 (txv m.c m.s) (txv n.c n.s)).run Try.prog w = .ok (.bool false) w) (h4 : (m.h != n.h) = false) (h5 : (m.oc != n.oc) = true) :
    Calls Try.prog 15 #[m.val, n.val] w fun e w' => e = .returned (.bool false) ∧ Below w.heap.size w w' := by
  go_enter Try.func15, Try.ntmps15
  go_wp2_with fail
  go_ret
  exact ⟨rfl, by (repeat (first | exact Below.refl _ _ | assumption | refine Below.drew ?_ | refine Below.al ?_ _ | refine Below.setCell ?_ (by first | exact Nat.le_refl _ | (simp; omega) | (simp; done)) _ | refine Below.on ?_ (by assumption)))⟩

end Go.Proofs.Ytngnifemghahkaa
