import Derived.Test.YtoejdjiclgjgkaaDoorMMake
namespace Go.Proofs.YtoejdjiclgjgkaaDoor
open Go.RowKit Go.Sort
set_option linter.unusedVariables false

/-- the message that is made again of a body -/
abbrev zM (m : Mg) : Mg := { k := 0, f := m.f, t := m.t, c := 0, s := 0, h := 0, o := 0, w := 0, l := 0, n := 0, st := 0, oc := 0, ra := none, rs := [], rc := 0, wa := none, ws := [], wc := 0, pa := none, ps := [], pc := 0 }
abbrev pRead (m : Mg) : Mg := { zM m with k := 1, o := m.o, w := m.w, l := m.l, n := m.n, ra := m.ra, rs := m.rs, rc := m.rc }
abbrev pData (m : Mg) : Mg := { zM m with k := 2, o := m.o, w := m.w, l := m.l, n := m.n, st := m.st, pa := m.pa, ps := m.ps, pc := m.pc }
abbrev pPrep (m : Mg) : Mg := { zM m with k := 3, c := m.c, s := m.s, h := m.h, w := m.w, l := m.l, n := m.n, ra := m.ra, rs := m.rs, rc := m.rc, wa := m.wa, ws := m.ws, wc := m.wc }
abbrev pVote (m : Mg) : Mg := { zM m with k := 4, c := m.c, s := m.s, h := m.h, w := m.w, l := m.l, n := m.n, st := m.st }
abbrev pCommit (m : Mg) : Mg := { zM m with k := 5, c := m.c, s := m.s, h := m.h, w := m.w, l := m.l, n := m.n }
abbrev pVerd (k : Int) (m : Mg) : Mg := { zM m with k := k, c := m.c, s := m.s, h := m.h, w := m.w, l := m.l, n := m.n, oc := m.oc }
abbrev pQuery (m : Mg) : Mg := { zM m with k := 8, c := m.c, s := m.s, h := m.h }

end Go.Proofs.YtoejdjiclgjgkaaDoor
