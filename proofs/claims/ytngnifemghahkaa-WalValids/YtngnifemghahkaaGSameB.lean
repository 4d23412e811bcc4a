import Derived.Test.YtngnifemghahkaaGLists
namespace Go.Proofs.Ytngnifemghahkaa
open Go.RowKit Go.Sort
set_option linter.unusedVariables false

set_option maxHeartbeats 4000000 in
set_option maxRecDepth 8000 in
theorem rsame_no6 {m n : Rg} (w : World) (h1 : (m.k != n.k) = false) (h2 : (m.x != n.x) = false) (e3 : ∀ w, (binOp .neq 26 (txv m.c m.s) (txv n.c n.s)).run Try.prog w = .ok (.bool false) w) (h4 : (m.h != n.h) = false) (h5 : (m.oc != n.oc) = false) (e6 : ∀ w, (binOp .neq 29 (stv m.w m.l m.n) (stv n.w n.l n.n)).run Try.prog w = .ok (.bool true) w) :
    Calls Try.prog 15 #[m.val, n.val] w fun e w' => e = .returned (.bool false) ∧ Below w.heap.size w w' := by
  go_enter Try.func15, Try.ntmps15
  go_wp2_with fail
  go_ret
  exact ⟨rfl, by (repeat (first | exact Below.refl _ _ | assumption | refine Below.drew ?_ | refine Below.al ?_ _ | refine Below.setCell ?_ (by first | exact Nat.le_refl _ | (simp; omega) | (simp; done)) _ | refine Below.on ?_ (by assumption)))⟩

set_option maxHeartbeats 4000000 in
set_option maxRecDepth 8000 in
theorem rsame_no7 {m n : Rg} (w : World) (h1 : (m.k != n.k) = false) (h2 : (m.x != n.x) = false) (e3 : ∀ w, (binOp .neq 26 (txv m.c m.s) (txv n.c n.s)).run Try.prog w = .ok (.bool false) w) (h4 : (m.h != n.h) = false) (h5 : (m.oc != n.oc) = false) (e6 : ∀ w, (binOp .neq 29 (stv m.w m.l m.n) (stv n.w n.l n.n)).run Try.prog w = .ok (.bool false) w) (h7 : (m.im.toList == n.im.toList) = false) :
    Calls Try.prog 15 #[m.val, n.val] w fun e w' => e = .returned (.bool false) ∧ Below w.heap.size w w' := by
  go_enter Try.func15, Try.ntmps15
  go_wp2_with fail
  go_ret
  exact ⟨rfl, by (repeat (first | exact Below.refl _ _ | assumption | refine Below.drew ?_ | refine Below.al ?_ _ | refine Below.setCell ?_ (by first | exact Nat.le_refl _ | (simp; omega) | (simp; done)) _ | refine Below.on ?_ (by assumption)))⟩

set_option maxHeartbeats 4000000 in
set_option maxRecDepth 8000 in
theorem rsame_no8 {m n : Rg} (w : World) (h1 : (m.k != n.k) = false) (h2 : (m.x != n.x) = false) (e3 : ∀ w, (binOp .neq 26 (txv m.c m.s) (txv n.c n.s)).run Try.prog w = .ok (.bool false) w) (h4 : (m.h != n.h) = false) (h5 : (m.oc != n.oc) = false) (e6 : ∀ w, (binOp .neq 29 (stv m.w m.l m.n) (stv n.w n.l n.n)).run Try.prog w = .ok (.bool false) w) (h7 : (m.im.toList == n.im.toList) = true) (h8 : ((m.rs.length : Int) != (n.rs.length : Int)) = true) :
    Calls Try.prog 15 #[m.val, n.val] w fun e w' => e = .returned (.bool false) ∧ Below w.heap.size w w' := by
  go_enter Try.func15, Try.ntmps15
  go_wp2_with fail
  go_ret
  exact ⟨rfl, by (repeat (first | exact Below.refl _ _ | assumption | refine Below.drew ?_ | refine Below.al ?_ _ | refine Below.setCell ?_ (by first | exact Nat.le_refl _ | (simp; omega) | (simp; done)) _ | refine Below.on ?_ (by assumption)))⟩

set_option maxHeartbeats 4000000 in
set_option maxRecDepth 8000 in
theorem rsame_no9 {m n : Rg} (w : World) (h1 : (m.k != n.k) = false) (h2 : (m.x != n.x) = false) (e3 : ∀ w, (binOp .neq 26 (txv m.c m.s) (txv n.c n.s)).run Try.prog w = .ok (.bool false) w) (h4 : (m.h != n.h) = false) (h5 : (m.oc != n.oc) = false) (e6 : ∀ w, (binOp .neq 29 (stv m.w m.l m.n) (stv n.w n.l n.n)).run Try.prog w = .ok (.bool false) w) (h7 : (m.im.toList == n.im.toList) = true) (h8 : ((m.rs.length : Int) != (n.rs.length : Int)) = false) (h9 : ((m.ws.length : Int) != (n.ws.length : Int)) = true) :
    Calls Try.prog 15 #[m.val, n.val] w fun e w' => e = .returned (.bool false) ∧ Below w.heap.size w w' := by
  go_enter Try.func15, Try.ntmps15
  go_wp2_with fail
  go_ret
  exact ⟨rfl, by (repeat (first | exact Below.refl _ _ | assumption | refine Below.drew ?_ | refine Below.al ?_ _ | refine Below.setCell ?_ (by first | exact Nat.le_refl _ | (simp; omega) | (simp; done)) _ | refine Below.on ?_ (by assumption)))⟩

end Go.Proofs.Ytngnifemghahkaa
