import Derived.Test.YtngnifemghahkaaGSmall
/- The program's wal.Valid. -/
namespace Go.Proofs.Ytngnifemghahkaa
open Go.RowKit Go.Sort
set_option linter.unusedVariables false

theorem run_eqT (c s d t : Int) (w : World) : (binOp .eql 26 (txv c s) (txv d t)).run Try.prog w = .ok (.bool (sameT c s d t)) w := by
  by_cases h1 : c = d <;> by_cases h2 : s = t <;> simp [sameT, h1, h2, txv, go_sem, Try.underlying26]

/-- what is left without the fields that the kind names -/
def Rg.bare (m : Rg) : Rg :=
  if m.k = 1 then { m with x := 0 }
  else if m.k = 2 then { m with c := 0, s := 0, h := 0, w := 0, l := 0, n := 0, ra := none, rs := [], rc := 0, wa := none, ws := [], wc := 0 }
  else if m.k = 3 then { m with c := 0, s := 0, h := 0, oc := 0, w := 0, l := 0, n := 0 }
  else if m.k = 4 then { m with w := 0, l := 0, n := 0 }
  else if m.k = 5 then { m with im := ⟨#[]⟩ }
  else m
/-- nothing but the kind -/
def Rg.blank (m : Rg) : Bool := m.x == 0 && sameT m.c m.s 0 0 && m.h == 0 && m.oc == 0 && sameB m.w m.l m.n 0 0 0 && ((m.rs.length : Int) == 0) && ((m.ws.length : Int) == 0) && emS m.im
def footOk (m : Rg) : Bool := !(((m.rs.length : Int) == 0) && ((m.ws.length : Int) == 0)) && readsOk m.rs && writesOk m.ws
def verdOk (m : Rg) : Bool := if m.oc = 1 then decide (m.w < 18446744073709551615) else if m.oc = 2 then sameB m.w m.l m.n 0 0 0 else false
/-- may its fields be? -/
def Rg.may (m : Rg) : Bool :=
  if m.k = 1 then true
  else if m.k = 2 then decide (1 ≤ m.s) && decide (m.w < 18446744073709551615) && footOk m
  else if m.k = 3 then decide (1 ≤ m.s) && verdOk m
  else if m.k = 4 then decide (m.w < 18446744073709551615)
  else if m.k = 5 then decide (m.im.size ≤ 1048560)
  else false

set_option maxHeartbeats 2000000 in
theorem blank_is {m : Rg} {w : World} {u : Bool} (hu : m.blank = u) :
    Calls Try.prog 12 #[m.val] w fun e w' => e = .returned (.bool u) ∧ Below w.heap.size w w' := by
  subst hu
  obtain ⟨b2, h2⟩ : ∃ b, sameT m.c m.s 0 0 = b := ⟨_, rfl⟩
  obtain ⟨b5, h5⟩ : ∃ b, sameB m.w m.l m.n 0 0 0 = b := ⟨_, rfl⟩
  obtain ⟨b8, h8⟩ : ∃ b, m.im.toList.isEmpty = b := ⟨_, rfl⟩
  have e2 : ∀ w, (binOp .eql 26 (txv m.c m.s) (txv 0 0)).run Try.prog w = .ok (.bool b2) w := fun w => by rw [run_eqT, h2]
  have e5 : ∀ w, (binOp .eql 29 (stv m.w m.l m.n) (stv 0 0 0)).run Try.prog w = .ok (.bool b5) w := fun w => by rw [run_eq, h5]
  have HU : Hid (m.blank = (m.x == 0 && b2 && m.h == 0 && m.oc == 0 && b5 && ((m.rs.length : Int) == 0) && ((m.ws.length : Int) == 0) && b8)) := by
    show _ = _
    unfold Rg.blank emS
    rw [h2, h5, h8]
  rw [HU.out]
  clear HU h2 h5
  go_enter Try.func12, Try.ntmps12
  go_wp2_with fail
  all_goals go_ret
  all_goals refine ⟨ret_bool ?_, by (repeat (first | exact Below.refl _ _ | assumption | refine Below.drew ?_ | refine Below.al ?_ _ | refine Below.setCell ?_ (by first | exact Nat.le_refl _ | (simp; omega) | (simp; done)) _ | refine Below.on ?_ (by assumption)))⟩
  all_goals simp_all

set_option maxHeartbeats 2000000 in
theorem foot_is {m : Rg} {w : World} {u : Bool} (hu : footOk m = u) (h : m.ok w) :
    Calls Try.prog 18 #[.slice m.ra m.rs.length m.rc, .slice m.wa m.ws.length m.wc] w fun e w' => e = .returned (.bool u) ∧ Below w.heap.size w w' := by
  subst hu
  have H := hid h
  clear h
  obtain ⟨b1, h1⟩ : ∃ b, ((m.rs.length : Int) == 0) = b := ⟨_, rfl⟩
  obtain ⟨b2, h2⟩ : ∃ b, ((m.ws.length : Int) == 0) = b := ⟨_, rfl⟩
  obtain ⟨b3, h3⟩ : ∃ b, readsOk m.rs = b := ⟨_, rfl⟩
  have HU : Hid (footOk m = (!(b1 && b2) && b3 && writesOk m.ws)) := by
    show _ = _
    unfold footOk
    rw [h1, h2, h3]
  rw [HU.out]
  have H3 := hid h3
  clear HU h3
  have go : ∀ b1 b2 : Bool, (b1 = true ∧ b2 = true) ∨ (b1 = true ∧ b2 = false) ∨ b1 = false := by decide
  rcases go b1 b2 with ⟨rfl, rfl⟩ | e
  · go_enter Try.func18, Try.ntmps18
    go_wp2_with fail
    go_ret
    exact ⟨ret_bool (by simp), by (repeat (first | exact Below.refl _ _ | assumption | refine Below.drew ?_ | refine Below.al ?_ _ | refine Below.setCell ?_ (by first | exact Nat.le_refl _ | (simp; omega) | (simp; done)) _ | refine Below.on ?_ (by assumption)))⟩
  · rcases e with ⟨rfl, rfl⟩ | rfl
    all_goals
      clear go
      go_enter Try.func18, Try.ntmps18
      go_wp2_with fail
      refine (validReads_is H3.out H.out.r H.out.rl).mono ?_
      rintro e w1 ⟨rfl, hw1⟩
      cases b3
      · go_wp2_with fail
        go_ret
        exact ⟨ret_bool (by simp), hw1⟩
      · go_wp2_with fail
        refine (validWrites_is rfl (H.out.later hw1).w H.out.wl).mono ?_
        rintro e w2 ⟨rfl, hw2⟩
        go_wp2_with fail
        go_ret
        exact ⟨ret_bool (by simp), Below.on hw1 hw2⟩

set_option maxHeartbeats 2000000 in
theorem verd_is {m : Rg} {w : World} {u : Bool} (hu : verdOk m = u) :
    Calls Try.prog 19 #[.int .i64 m.oc, stv m.w m.l m.n] w fun e w' => e = .returned (.bool u) ∧ Below w.heap.size w w' := by
  subst hu
  unfold verdOk
  by_cases g1 : m.oc = 1
  · rw [if_pos g1]
    have q1 : (m.oc == 1) = true := by rw [g1]; rfl
    clear g1
    go_enter Try.func19, Try.ntmps19
    go_wp2_with fail
    refine (usable_is _).mono ?_
    rintro e w1 ⟨rfl, hw1⟩
    go_wp2_with fail
    go_ret
    exact ⟨ret_bool (by simp), Below.on (Below.al (Below.refl _ _) _) hw1⟩
  rw [if_neg g1]
  have q1 : (m.oc == 1) = false := beq_eq_false_iff_ne.2 g1
  clear g1
  by_cases g2 : m.oc = 2
  · rw [if_pos g2]
    have q2 : (m.oc == 2) = true := by rw [g2]; rfl
    clear g2
    have e5 := fun w => run_eq m.w m.l m.n 0 0 0 w
    go_enter Try.func19, Try.ntmps19
    go_wp2_with fail
    go_ret
    exact ⟨ret_bool (by simp), by (repeat (first | exact Below.refl _ _ | assumption | refine Below.drew ?_ | refine Below.al ?_ _ | refine Below.setCell ?_ (by first | exact Nat.le_refl _ | (simp; omega) | (simp; done)) _ | refine Below.on ?_ (by assumption)))⟩
  rw [if_neg g2]
  have q2 : (m.oc == 2) = false := beq_eq_false_iff_ne.2 g2
  clear g2
  go_enter Try.func19, Try.ntmps19
  go_wp2_with fail
  go_ret
  exact ⟨ret_bool (by simp), by (repeat (first | exact Below.refl _ _ | assumption | refine Below.drew ?_ | refine Below.al ?_ _ | refine Below.setCell ?_ (by first | exact Nat.le_refl _ | (simp; omega) | (simp; done)) _ | refine Below.on ?_ (by assumption)))⟩

end Go.Proofs.Ytngnifemghahkaa
