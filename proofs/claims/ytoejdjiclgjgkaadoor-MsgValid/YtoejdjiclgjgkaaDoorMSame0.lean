import Derived.Test.YtoejdjiclgjgkaaDoorMEqual
namespace Go.Proofs.YtoejdjiclgjgkaaDoor
open Go.RowKit Go.Sort
set_option linter.unusedVariables false

/-- the second message has the first's kind and nodes, and of each list all or none -/
structure Part (m n : Mg) : Prop where
  k : (m.k == n.k) = true
  f : (m.f == n.f) = true
  t : (m.t == n.t) = true
  r : (n.ra = m.ra ∧ n.rs = m.rs) ∨ (n.ra = none ∧ n.rs = [] ∧ n.rc = 0)
  w : (n.wa = m.wa ∧ n.ws = m.ws) ∨ (n.wa = none ∧ n.ws = [] ∧ n.wc = 0)
  p : (n.pa = m.pa ∧ n.ps = m.ps) ∨ (n.pa = none ∧ n.ps = [] ∧ n.pc = 0)
/-- the numbers behind the nodes -/
def sameM (m n : Mg) : Bool :=
  sameT m.c m.s n.c n.s && (m.h == n.h) && (m.o == n.o) && sameB m.w m.l m.n n.w n.l n.n && (m.st == n.st) && (m.oc == n.oc)
    && decide (m.rs.length = n.rs.length) && decide (m.ws.length = n.ws.length) && decide (m.ps.length = n.ps.length)

end Go.Proofs.YtoejdjiclgjgkaaDoor
