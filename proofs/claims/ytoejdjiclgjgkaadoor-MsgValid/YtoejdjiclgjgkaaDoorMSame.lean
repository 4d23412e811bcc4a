import Derived.Test.YtoejdjiclgjgkaaDoorMSameA
import Derived.Test.YtoejdjiclgjgkaaDoorMSameB
import Derived.Test.YtoejdjiclgjgkaaDoorMSameC
import Derived.Test.YtoejdjiclgjgkaaDoorMSameD
namespace Go.Proofs.YtoejdjiclgjgkaaDoor
open Go.RowKit Go.Sort
set_option linter.unusedVariables false

theorem same_is {m n : Mg} {w : World} {u : Bool} (hu : sameM m n = u) (h : m.ok w) (hp : Part m n) :
    Calls Tryd.prog 15 #[m.val, n.val] w fun e w' => e = .returned (.bool u) ∧ Below w.heap.size w w' := by
  have e4 : ∀ {b}, sameT m.c m.s n.c n.s = b → ∀ w, (binOp .eql 25 (txv m.c m.s) (txv n.c n.s)).run Tryd.prog w = .ok (.bool b) w := fun h w => by rw [run_eqT, h]
  have e7 : ∀ {b}, sameB m.w m.l m.n n.w n.l n.n = b → ∀ w, (binOp .eql 28 (stv m.w m.l m.n) (stv n.w n.l n.n)).run Tryd.prog w = .ok (.bool b) w := fun h w => by rw [run_eq, h]
  subst hu
  cases h4 : sameT m.c m.s n.c n.s
  · rw [sameM, h4]; exact same_no4 w hp.k hp.f hp.t (e4 h4)
  cases h5 : (m.h == n.h)
  · rw [sameM, h4, h5]; exact same_no5 w hp.k hp.f hp.t (e4 h4) h5
  cases h6 : (m.o == n.o)
  · rw [sameM, h4, h5, h6]; exact same_no6 w hp.k hp.f hp.t (e4 h4) h5 h6
  cases h7 : sameB m.w m.l m.n n.w n.l n.n
  · rw [sameM, h4, h5, h6, h7]; exact same_no7 w hp.k hp.f hp.t (e4 h4) h5 h6 (e7 h7)
  cases h8 : (m.st == n.st)
  · rw [sameM, h4, h5, h6, h7, h8]; exact same_no8 w hp.k hp.f hp.t (e4 h4) h5 h6 (e7 h7) h8
  cases h9 : (m.oc == n.oc)
  · rw [sameM, h4, h5, h6, h7, h8, h9]; exact same_no9 w hp.k hp.f hp.t (e4 h4) h5 h6 (e7 h7) h8 h9
  rw [sameM, h4, h5, h6, h7, h8, h9]
  exact same_yes hp.k hp.f hp.t (e4 h4) h5 h6 (e7 h7) h8 h9 (hid rfl) (hid rfl) (hid rfl) h hp

end Go.Proofs.YtoejdjiclgjgkaaDoor
