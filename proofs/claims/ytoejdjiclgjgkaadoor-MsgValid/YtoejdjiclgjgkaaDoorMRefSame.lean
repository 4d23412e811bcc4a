import Derived.Test.YtoejdjiclgjgkaaDoorMRefSameA
import Derived.Test.YtoejdjiclgjgkaaDoorMRefSameB
import Derived.Test.YtoejdjiclgjgkaaDoorMRefSameC
import Derived.Test.YtoejdjiclgjgkaaDoorMRefSameD
namespace Go.Proofs.YtoejdjiclgjgkaaDoor
open Go.RowKit Go.Sort
set_option linter.unusedVariables false

theorem refsame_is {m n : Mg} {w : World} {u : Bool} (hu : sameM m n = u) (h : m.ok w) (hp : Part m n) :
    Calls Tryd.prog 7 #[m.val, n.val] w fun e w' => e = .returned (.bool u) ∧ Below w.heap.size w w' := by
  have e4 : ∀ {b}, sameT m.c m.s n.c n.s = b → ∀ w, (binOp .neq 25 (txv m.c m.s) (txv n.c n.s)).run Tryd.prog w = .ok (.bool !b) w := fun h w => by rw [run_neT, h]
  have e7 : ∀ {b}, sameB m.w m.l m.n n.w n.l n.n = b → ∀ w, (binOp .neq 28 (stv m.w m.l m.n) (stv n.w n.l n.n)).run Tryd.prog w = .ok (.bool !b) w := fun h w => by rw [run_ne, h]
  have nk : (m.k != n.k) = false := by rw [bne, hp.k]; rfl
  have nf : (m.f != n.f) = false := by rw [bne, hp.f]; rfl
  have nt : (m.t != n.t) = false := by rw [bne, hp.t]; rfl
  have ln : ∀ {a b : Nat} {u : Bool}, decide (a = b) = u → ((a : Int) != (b : Int)) = !u := fun {a b u} h => by
    rw [← h, bne, Bool.not_inj_iff, Bool.eq_iff_iff]; simp; omega
  have nn : ∀ {a b : Int} {u : Bool}, (a == b) = u → (a != b) = !u := fun h => by rw [bne, h]
  subst hu
  cases h4 : sameT m.c m.s n.c n.s
  · rw [sameM, h4]; exact rsame_no4 w nk nf nt (e4 h4)
  cases h5 : (m.h == n.h)
  · rw [sameM, h4, h5]; exact rsame_no5 w nk nf nt (e4 h4) (nn h5)
  cases h6 : (m.o == n.o)
  · rw [sameM, h4, h5, h6]; exact rsame_no6 w nk nf nt (e4 h4) (nn h5) (nn h6)
  cases h7 : sameB m.w m.l m.n n.w n.l n.n
  · rw [sameM, h4, h5, h6, h7]; exact rsame_no7 w nk nf nt (e4 h4) (nn h5) (nn h6) (e7 h7)
  cases h8 : (m.st == n.st)
  · rw [sameM, h4, h5, h6, h7, h8]; exact rsame_no8 w nk nf nt (e4 h4) (nn h5) (nn h6) (e7 h7) (nn h8)
  cases h9 : (m.oc == n.oc)
  · rw [sameM, h4, h5, h6, h7, h8, h9]; exact rsame_no9 w nk nf nt (e4 h4) (nn h5) (nn h6) (e7 h7) (nn h8) (nn h9)
  cases h10 : decide (m.rs.length = n.rs.length)
  · rw [sameM, h4, h5, h6, h7, h8, h9, h10]; exact rsame_no10 w nk nf nt (e4 h4) (nn h5) (nn h6) (e7 h7) (nn h8) (nn h9) (ln h10)
  cases h11 : decide (m.ws.length = n.ws.length)
  · rw [sameM, h4, h5, h6, h7, h8, h9, h10, h11]; exact rsame_no11 w nk nf nt (e4 h4) (nn h5) (nn h6) (e7 h7) (nn h8) (nn h9) (ln h10) (ln h11)
  cases h12 : decide (m.ps.length = n.ps.length)
  · rw [sameM, h4, h5, h6, h7, h8, h9, h10, h11, h12]; exact rsame_no12 w nk nf nt (e4 h4) (nn h5) (nn h6) (e7 h7) (nn h8) (nn h9) (ln h10) (ln h11) (ln h12)
  rw [sameM, h4, h5, h6, h7, h8, h9, h10, h11, h12]
  exact rsame_yes nk nf nt (e4 h4) (nn h5) (nn h6) (e7 h7) (nn h8) (nn h9) (ln h10) (ln h11) (ln h12) h hp

end Go.Proofs.YtoejdjiclgjgkaaDoor
