import Derived.Test.YtoejdjiclgjgkaaDoorMSame0
namespace Go.Proofs.YtoejdjiclgjgkaaDoor
open Go.RowKit Go.Sort
set_option linter.unusedVariables false

set_option maxHeartbeats 4000000 in
set_option maxRecDepth 8000 in
theorem same_yes {m n : Mg} {w : World} {b10 b11 b12 : Bool} (h1 : (m.k == n.k) = true) (h2 : (m.f == n.f) = true) (h3 : (m.t == n.t) = true) (e4 : ∀ w, (binOp .eql 25 (txv m.c m.s) (txv n.c n.s)).run Tryd.prog w = .ok (.bool true) w) (h5 : (m.h == n.h) = true) (h6 : (m.o == n.o) = true) (e7 : ∀ w, (binOp .eql 28 (stv m.w m.l m.n) (stv n.w n.l n.n)).run Tryd.prog w = .ok (.bool true) w) (h8 : (m.st == n.st) = true) (h9 : (m.oc == n.oc) = true) (H10 : Hid (decide (m.rs.length = n.rs.length) = b10)) (H11 : Hid (decide (m.ws.length = n.ws.length) = b11)) (H12 : Hid (decide (m.ps.length = n.ps.length) = b12)) (h : Hid (m.ok w)) (hp : Hid (Part m n)) :
    Calls Tryd.prog 15 #[m.val, n.val] w fun e w' => e = .returned (.bool (b10 && b11 && b12)) ∧ Below w.heap.size w w' := by
  go_enter Tryd.func15, Tryd.ntmps15
  go_wp2_with fail
  have hbl : Below w.heap.size w ((w.alloc (.cells m.cells 35)).alloc (.cells n.cells 35)) := Below.al (Below.al (Below.refl _ _) _) _
  refine (equalR_any H10.out hp.out.r ((h.out.later hbl).r) h.out.rl).mono ?_
  rintro e w1 ⟨rfl, hw1⟩
  have hB1 := hid (((boxM w m 35).later (Below.al (Below.refl _ _) (.cells n.cells 35))).later hw1)
  have hB2 := hid ((boxM (w.alloc (.cells m.cells 35)) n 35).later hw1)
  replace hbl := Below.on hbl hw1
  clear hw1 e4 e7 h1 h2 h3 h5 h6 h8 h9
  have c13 := hB1.out.c13; have d13 := hB2.out.c13
  rw [World.size_alloc] at d13
  cases b10
  · go_wp2_with fail
    go_ret
    exact ⟨rfl, hbl⟩
  go_wp2_with fail
  refine (equalW_any H11.out hp.out.w ((h.out.later hbl).w) h.out.wl).mono ?_
  rintro e w2 ⟨rfl, hw2⟩
  have c14 := (hB1.out.later hw2).c14; have d14 := (hB2.out.later hw2).c14
  rw [World.size_alloc] at d14
  replace hbl := Below.on hbl hw2
  clear hw2 c13 d13
  cases b11
  · go_wp2_with fail
    go_ret
    exact ⟨rfl, hbl⟩
  go_wp2_with fail
  refine (equalP_any H12.out hp.out.p ((h.out.later hbl).p) h.out.pl).mono ?_
  rintro e w3 ⟨rfl, hw3⟩
  replace hbl := Below.on hbl hw3
  clear hw3
  go_wp2_with fail
  go_ret
  exact ⟨rfl, hbl⟩

end Go.Proofs.YtoejdjiclgjgkaaDoor
