import Derived.Test.YtofpaldolcnmiaaGreatB21
set_option linter.unusedVariables false
set_option maxHeartbeats 8000000
namespace Go.Proofs.YtofpaldolcnmiaaGreat
open Go.RowKit Go.Sort
theorem refspan_is {x : T2} {u : Bool} (hu : spanOk x = u) (w : World) :
  Calls Tryz.prog 247 #[.agg #[.string x.1, .string x.2]] w fun e w' => e = .returned (.bool u) ∧ Below w.heap.size w w' := by
 subst hu; obtain ⟨lo, hi⟩ := x; go_enter Tryz.func247, Tryz.ntmps247
 go_wp2_with fail
 all_goals go_ret
 all_goals refine ⟨rtb ?_, by (repeat (first | exact Below.refl _ _ | assumption | refine Below.drew ?_ | refine Below.al ?_ _ | refine Below.setCell ?_ (by first | exact Nat.le_refl _ | simp <;> omega) _ | refine Below.on ?_ (by assumption)))⟩
 all_goals simp only [spanOk, emS, ltS]
 all_goals rw [Bool.eq_iff_iff]
 all_goals simp_all
 all_goals omega
theorem refreads_is {a : Option Addr} {c : Nat} {xs : List T2} {w : World} {u : Bool} (hu : readsOk xs = u) (h : Row2 w a xs) (hl : xs.length ≤ 9223372036854775807) :
  Calls Tryz.prog 214 #[.slice a xs.length c] w fun e w' => e = .returned (.bool u) ∧ Below w.heap.size w w' := by
 subst hu; by_cases h16 : 16 < (xs.length : Int)
 ·go_enter Tryz.func214, Tryz.ntmps214
  go_wp2_with fail
  go_ret
  refine ⟨rtb ?_, by (repeat (first | exact Below.refl _ _ | assumption | refine Below.drew ?_ | refine Below.al ?_ _ | refine Below.setCell ?_ (by first | exact Nat.le_refl _ | simp <;> omega) _ | refine Below.on ?_ (by assumption)))⟩; rw [readsOk, decide_eq_false (by omega)]; rfl
 have H16 := hid h16; have h16' : decide (16 < (xs.length : Int)) = false := decide_eq_false h16; clear h16; go_enter Tryz.func214, Tryz.ntmps214
 go_wp2_with fail
 go_loopg [3] xs.length (fun g s3 wr => ∃ k : Nat, k ≤ xs.length ∧ g = xs.length - k ∧ s3 = .int .i64 k ∧ Below w.heap.size w wr ∧ Hid (allB (spanAt xs) k = true))
 case atStart => exact ⟨0, by omega, by omega, rfl, Below.refl _ _, rfl⟩
 case round =>
  obtain ⟨k, hk, rfl, rfl, hb, HA⟩ := hrel; by_cases hlt : k < xs.length
  ·obtain ⟨b, off, rfl, c0, c1⟩ := (h.later hb) k hlt; obtain ⟨u, hu⟩ : ∃ u, spanOk (nth2 xs k) = u := ⟨_, rfl⟩; have HU : Hid (spanAt xs k = u) := hu; obtain ⟨x, hx⟩ : ∃ x, x = nth2 xs k := ⟨_, rfl⟩; rw [← hx] at c0 c1 hu; clear hx; go_wp2_with fail
   refine (refspan_is hu _).mono ?_; rintro e w1 ⟨rfl, hw1⟩; replace hb : Below w.heap.size w w1 := Below.on hb hw1; clear hw1 hu; cases u
   ·go_wp2_with fail
    go_ret
    refine ⟨rtb ?_, hb⟩; rw [readsOk, allB_no HU.out _ hlt, Bool.and_false]
   ·go_wp2_with fail
    go_roundg (xs.length - (k + 1))
    case measure => omega
    case rel => exact ⟨k + 1, by omega, rfl, by go_num, hb, allB_yes HA.out HU.out⟩
  ·obtain rfl : k = xs.length := by omega
   go_wp2_with fail
   go_ret
   refine ⟨rtb ?_, hb⟩; have := H16.out; rw [readsOk, HA.out, Bool.and_true, Bool.eq_iff_iff]; simp; omega
theorem refwrites_is {a : Option Addr} {c : Nat} {xs : List Wr} {w : World} {u : Bool} (hu : writesOk xs = u) (h : RowW w a xs) (hl : xs.length ≤ 9223372036854775807) :
  Calls Tryz.prog 215 #[.slice a xs.length c] w fun e w' => e = .returned (.bool u) ∧ Below w.heap.size w w' := by
 subst hu; by_cases h16 : 16 < (xs.length : Int)
 ·go_enter Tryz.func215, Tryz.ntmps215
  go_wp2_with fail
  go_ret
  refine ⟨rtb ?_, by (repeat (first | exact Below.refl _ _ | assumption | refine Below.drew ?_ | refine Below.al ?_ _ | refine Below.setCell ?_ (by first | exact Nat.le_refl _ | simp <;> omega) _ | refine Below.on ?_ (by assumption)))⟩; rw [writesOk, decide_eq_false (by omega)]; rfl
 have H16 := hid h16; have h16' : decide (16 < (xs.length : Int)) = false := decide_eq_false h16; clear h16; go_enter Tryz.func215, Tryz.ntmps215
 go_wp2_with fail
 go_loopg [3, 4] xs.length (fun g s3 s4 wr => ∃ k : Nat, k ≤ xs.length ∧ g = xs.length - k ∧ s4 = .int .i64 k ∧ s3 = .string (prevW xs k) ∧ Below w.heap.size w wr ∧ Hid (allB (writeAt xs) k = true))
 case atStart => exact ⟨0, by omega, by omega, rfl, rfl, Below.refl _ _, rfl⟩
 case round =>
  obtain ⟨k, hk, rfl, rfl, rfl, hb, HA⟩ := hrel; by_cases hlt : k < xs.length
  ·obtain ⟨b, off, rfl, c0, c1, c2⟩ := (h.later hb) k hlt; have HU : Hid (writeAt xs k = (keyOk (prevW xs k) (nthW xs k).key && decide ((nthW xs k).val.size ≤ 64) && !((nthW xs k).del && !emS (nthW xs k).val))) := rfl; have HP : Hid (prevW xs (k + 1) = (nthW xs k).key) := prevW_succ xs k; obtain ⟨x, hx⟩ : ∃ x, x = nthW xs k := ⟨_, rfl⟩; rw [← hx] at c0 c1 c2 HU HP; clear hx; obtain ⟨key, del, val⟩ := x; obtain ⟨pk, hpk⟩ : ∃ pk, pk = prevW xs k := ⟨_, rfl⟩; rw [← hpk] at HU ⊢; clear hpk; obtain ⟨b3, h3⟩ : ∃ b, Op.bytesLess pk.toList key.toList = b := ⟨_, rfl⟩; obtain ⟨b1, h1⟩ : ∃ b, decide (32 < (key.size : Int)) = b := ⟨_, rfl⟩; obtain ⟨b2, h2⟩ : ∃ b, decide (64 < (val.size : Int)) = b := ⟨_, rfl⟩; obtain ⟨b4, h4⟩ : ∃ b, val.toList.isEmpty = b := ⟨_, rfl⟩; have hle : (Op.bytesLess key.toList pk.toList || key.toList == pk.toList) = !b3 := by rw [leq_less, h3]
   have h4' : (val.toList = []) = (b4 = true) := by rw [← h4]; simp
   have HQ : Hid (writeAt xs k = (b3 && !b1 && !b2 && !(del && !b4))) := by
    show _ = _
    rw [HU.out, keyOk, ltS, h3, emS, h4, show decide (key.size ≤ 32) = !b1 by rw [← h1, Bool.eq_iff_iff]; simp; omega, show decide (val.size ≤ 64) = !b2 by rw [← h2, Bool.eq_iff_iff]; simp; omega]
   have go : ∀ b3 b1 b2 d b4 : Bool, b3 = false ∨ (b3 = true ∧ b1 = true) ∨ (b3 = true ∧ b1 = false ∧ b2 = true) ∨ (b3 = true ∧ b1 = false ∧ b2 = false ∧ d = true ∧ b4 = false) ∨ (b3 = true ∧ b1 = false ∧ b2 = false ∧ d = true ∧ b4 = true) ∨ (b3 = true ∧ b1 = false ∧ b2 = false ∧ d = false) := by
    intro b3 b1 b2 d b4; cases b3 <;> cases b1 <;> cases b2 <;> cases d <;> cases b4 <;> simp
   clear HU h3; rcases go b3 b1 b2 del b4 with e | ⟨e, e'⟩ | ⟨e, e', e''⟩ | ⟨e, e', e'', e4, e5⟩ | ⟨e, e', e'', e4, e5⟩ | ⟨e, e', e'', e4⟩
   all_goals (try subst e)
   all_goals (try subst e')
   all_goals (try subst e'')
   all_goals (try subst e4)
   all_goals (try subst e5)
   all_goals (clear go; try simp only [Bool.false_eq_true] at h4')
   all_goals go_wp2_with fail
   ·go_ret
    refine ⟨rtb ?_, by (repeat (first | exact Below.refl _ _ | assumption | refine Below.drew ?_ | refine Below.al ?_ _ | refine Below.setCell ?_ (by first | exact Nat.le_refl _ | simp <;> omega) _ | refine Below.on ?_ (by assumption)))⟩; rw [writesOk, allB_no (HQ.out.trans (by simp)) _ hlt, Bool.and_false]
   ·go_ret
    refine ⟨rtb ?_, by (repeat (first | exact Below.refl _ _ | assumption | refine Below.drew ?_ | refine Below.al ?_ _ | refine Below.setCell ?_ (by first | exact Nat.le_refl _ | simp <;> omega) _ | refine Below.on ?_ (by assumption)))⟩; rw [writesOk, allB_no (HQ.out.trans (by simp)) _ hlt, Bool.and_false]
   ·go_ret
    refine ⟨rtb ?_, by (repeat (first | exact Below.refl _ _ | assumption | refine Below.drew ?_ | refine Below.al ?_ _ | refine Below.setCell ?_ (by first | exact Nat.le_refl _ | simp <;> omega) _ | refine Below.on ?_ (by assumption)))⟩; rw [writesOk, allB_no (HQ.out.trans (by simp)) _ hlt, Bool.and_false]
   ·go_ret
    refine ⟨rtb ?_, by (repeat (first | exact Below.refl _ _ | assumption | refine Below.drew ?_ | refine Below.al ?_ _ | refine Below.setCell ?_ (by first | exact Nat.le_refl _ | simp <;> omega) _ | refine Below.on ?_ (by assumption)))⟩; rw [writesOk, allB_no (HQ.out.trans (by simp)) _ hlt, Bool.and_false]
   ·go_roundg (xs.length - (k + 1))
    case measure => omega
    case rel => exact ⟨k + 1, by omega, rfl, by go_num, by rw [HP.out], by (repeat (first | exact Below.refl _ _ | assumption | refine Below.drew ?_ | refine Below.al ?_ _ | refine Below.setCell ?_ (by first | exact Nat.le_refl _ | simp <;> omega) _ | refine Below.on ?_ (by assumption))), allB_yes HA.out (HQ.out.trans (by simp))⟩
   ·go_roundg (xs.length - (k + 1))
    case measure => omega
    case rel => exact ⟨k + 1, by omega, rfl, by go_num, by rw [HP.out], by (repeat (first | exact Below.refl _ _ | assumption | refine Below.drew ?_ | refine Below.al ?_ _ | refine Below.setCell ?_ (by first | exact Nat.le_refl _ | simp <;> omega) _ | refine Below.on ?_ (by assumption))), allB_yes HA.out (HQ.out.trans (by simp))⟩
  ·obtain rfl : k = xs.length := by omega
   go_wp2_with fail
   go_ret
   refine ⟨rtb ?_, hb⟩; have := H16.out; rw [writesOk, HA.out, Bool.and_true, Bool.eq_iff_iff]; simp; omega
set_option maxRecDepth 8000 in
theorem rsame_no1 {m n : Rg} (w : World) (h1 : (m.k != n.k) = true) :
  Calls Tryz.prog 212 #[m.val, n.val] w fun e w' => e = .returned (.bool false) ∧ Below w.heap.size w w' := by
 go_enter Tryz.func212, Tryz.ntmps212
 go_wp2_with fail
 go_ret
 exact ⟨rfl, by (repeat (first | exact Below.refl _ _ | assumption | refine Below.drew ?_ | refine Below.al ?_ _ | refine Below.setCell ?_ (by first | exact Nat.le_refl _ | simp <;> omega) _ | refine Below.on ?_ (by assumption)))⟩
set_option maxRecDepth 8000 in
theorem rsame_no2 {m n : Rg} (w : World) (h1 : (m.k != n.k) = false) (h2 : (m.x != n.x) = true) :
  Calls Tryz.prog 212 #[m.val, n.val] w fun e w' => e = .returned (.bool false) ∧ Below w.heap.size w w' := by
 go_enter Tryz.func212, Tryz.ntmps212
 go_wp2_with fail
 go_ret
 exact ⟨rfl, by (repeat (first | exact Below.refl _ _ | assumption | refine Below.drew ?_ | refine Below.al ?_ _ | refine Below.setCell ?_ (by first | exact Nat.le_refl _ | simp <;> omega) _ | refine Below.on ?_ (by assumption)))⟩
set_option maxRecDepth 8000 in
theorem rsame_no3 {m n : Rg} (w : World) (h1 : (m.k != n.k) = false) (h2 : (m.x != n.x) = false) (e3 : ∀ w, (binOp .neq 33 (txv m.c m.s) (txv n.c n.s)).run Tryz.prog w = .ok (.bool true) w) :
  Calls Tryz.prog 212 #[m.val, n.val] w fun e w' => e = .returned (.bool false) ∧ Below w.heap.size w w' := by
 go_enter Tryz.func212, Tryz.ntmps212
 go_wp2_with fail
 go_ret
 exact ⟨rfl, by (repeat (first | exact Below.refl _ _ | assumption | refine Below.drew ?_ | refine Below.al ?_ _ | refine Below.setCell ?_ (by first | exact Nat.le_refl _ | simp <;> omega) _ | refine Below.on ?_ (by assumption)))⟩
set_option maxRecDepth 8000 in
theorem rsame_no4 {m n : Rg} (w : World) (h1 : (m.k != n.k) = false) (h2 : (m.x != n.x) = false) (e3 : ∀ w, (binOp .neq 33 (txv m.c m.s) (txv n.c n.s)).run Tryz.prog w = .ok (.bool false) w) (h4 : (m.h != n.h) = true) :
  Calls Tryz.prog 212 #[m.val, n.val] w fun e w' => e = .returned (.bool false) ∧ Below w.heap.size w w' := by
 go_enter Tryz.func212, Tryz.ntmps212
 go_wp2_with fail
 go_ret
 exact ⟨rfl, by (repeat (first | exact Below.refl _ _ | assumption | refine Below.drew ?_ | refine Below.al ?_ _ | refine Below.setCell ?_ (by first | exact Nat.le_refl _ | simp <;> omega) _ | refine Below.on ?_ (by assumption)))⟩
set_option maxRecDepth 8000 in
theorem rsame_no5 {m n : Rg} (w : World) (h1 : (m.k != n.k) = false) (h2 : (m.x != n.x) = false) (e3 : ∀ w, (binOp .neq 33 (txv m.c m.s) (txv n.c n.s)).run Tryz.prog w = .ok (.bool false) w) (h4 : (m.h != n.h) = false) (h5 : (m.oc != n.oc) = true) :
  Calls Tryz.prog 212 #[m.val, n.val] w fun e w' => e = .returned (.bool false) ∧ Below w.heap.size w w' := by
 go_enter Tryz.func212, Tryz.ntmps212
 go_wp2_with fail
 go_ret
 exact ⟨rfl, by (repeat (first | exact Below.refl _ _ | assumption | refine Below.drew ?_ | refine Below.al ?_ _ | refine Below.setCell ?_ (by first | exact Nat.le_refl _ | simp <;> omega) _ | refine Below.on ?_ (by assumption)))⟩
set_option maxRecDepth 8000 in
theorem rsame_no6 {m n : Rg} (w : World) (h1 : (m.k != n.k) = false) (h2 : (m.x != n.x) = false) (e3 : ∀ w, (binOp .neq 33 (txv m.c m.s) (txv n.c n.s)).run Tryz.prog w = .ok (.bool false) w) (h4 : (m.h != n.h) = false) (h5 : (m.oc != n.oc) = false) (e6 : ∀ w, (binOp .neq 36 (stv m.w m.l m.n) (stv n.w n.l n.n)).run Tryz.prog w = .ok (.bool true) w) :
  Calls Tryz.prog 212 #[m.val, n.val] w fun e w' => e = .returned (.bool false) ∧ Below w.heap.size w w' := by
 go_enter Tryz.func212, Tryz.ntmps212
 go_wp2_with fail
 go_ret
 exact ⟨rfl, by (repeat (first | exact Below.refl _ _ | assumption | refine Below.drew ?_ | refine Below.al ?_ _ | refine Below.setCell ?_ (by first | exact Nat.le_refl _ | simp <;> omega) _ | refine Below.on ?_ (by assumption)))⟩
set_option maxRecDepth 8000 in
theorem rsame_no7 {m n : Rg} (w : World) (h1 : (m.k != n.k) = false) (h2 : (m.x != n.x) = false) (e3 : ∀ w, (binOp .neq 33 (txv m.c m.s) (txv n.c n.s)).run Tryz.prog w = .ok (.bool false) w) (h4 : (m.h != n.h) = false) (h5 : (m.oc != n.oc) = false) (e6 : ∀ w, (binOp .neq 36 (stv m.w m.l m.n) (stv n.w n.l n.n)).run Tryz.prog w = .ok (.bool false) w) (h7 : (m.im.toList == n.im.toList) = false) :
  Calls Tryz.prog 212 #[m.val, n.val] w fun e w' => e = .returned (.bool false) ∧ Below w.heap.size w w' := by
 go_enter Tryz.func212, Tryz.ntmps212
 go_wp2_with fail
 go_ret
 exact ⟨rfl, by (repeat (first | exact Below.refl _ _ | assumption | refine Below.drew ?_ | refine Below.al ?_ _ | refine Below.setCell ?_ (by first | exact Nat.le_refl _ | simp <;> omega) _ | refine Below.on ?_ (by assumption)))⟩
set_option maxRecDepth 8000 in
theorem rsame_no8 {m n : Rg} (w : World) (h1 : (m.k != n.k) = false) (h2 : (m.x != n.x) = false) (e3 : ∀ w, (binOp .neq 33 (txv m.c m.s) (txv n.c n.s)).run Tryz.prog w = .ok (.bool false) w) (h4 : (m.h != n.h) = false) (h5 : (m.oc != n.oc) = false) (e6 : ∀ w, (binOp .neq 36 (stv m.w m.l m.n) (stv n.w n.l n.n)).run Tryz.prog w = .ok (.bool false) w) (h7 : (m.im.toList == n.im.toList) = true) (h8 : ((m.rs.length : Int) != (n.rs.length : Int)) = true) :
  Calls Tryz.prog 212 #[m.val, n.val] w fun e w' => e = .returned (.bool false) ∧ Below w.heap.size w w' := by
 go_enter Tryz.func212, Tryz.ntmps212
 go_wp2_with fail
 go_ret
 exact ⟨rfl, by (repeat (first | exact Below.refl _ _ | assumption | refine Below.drew ?_ | refine Below.al ?_ _ | refine Below.setCell ?_ (by first | exact Nat.le_refl _ | simp <;> omega) _ | refine Below.on ?_ (by assumption)))⟩
set_option maxRecDepth 8000 in
theorem rsame_no9 {m n : Rg} (w : World) (h1 : (m.k != n.k) = false) (h2 : (m.x != n.x) = false) (e3 : ∀ w, (binOp .neq 33 (txv m.c m.s) (txv n.c n.s)).run Tryz.prog w = .ok (.bool false) w) (h4 : (m.h != n.h) = false) (h5 : (m.oc != n.oc) = false) (e6 : ∀ w, (binOp .neq 36 (stv m.w m.l m.n) (stv n.w n.l n.n)).run Tryz.prog w = .ok (.bool false) w) (h7 : (m.im.toList == n.im.toList) = true) (h8 : ((m.rs.length : Int) != (n.rs.length : Int)) = false) (h9 : ((m.ws.length : Int) != (n.ws.length : Int)) = true) :
  Calls Tryz.prog 212 #[m.val, n.val] w fun e w' => e = .returned (.bool false) ∧ Below w.heap.size w w' := by
 go_enter Tryz.func212, Tryz.ntmps212
 go_wp2_with fail
 go_ret
 exact ⟨rfl, by (repeat (first | exact Below.refl _ _ | assumption | refine Below.drew ?_ | refine Below.al ?_ _ | refine Below.setCell ?_ (by first | exact Nat.le_refl _ | simp <;> omega) _ | refine Below.on ?_ (by assumption)))⟩
structure SG (w wr : World) (m n : Rg) : Prop where
 a : BoxG wr w.heap.size m
 b : BoxG wr (w.heap.size + 1) n
 bl : Below w.heap.size w wr
theorem SG.later {w wr w' : World} {m n : Rg} (h : SG w wr m n) (hb : Below wr.heap.size wr w') : SG w w' m n := ⟨h.a.later hb, h.b.later hb, Below.on h.bl hb⟩
theorem sg_start (w : World) (m n : Rg) (T : TypeId) : SG w ((w.alloc (.cells m.cells T)).alloc (.cells n.cells T)) m n :=
 ⟨(boxG w m T).later (Below.al (Below.refl _ _) _), by have := boxG (w.alloc (.cells m.cells T)) n T; rwa [World.size_alloc] at this, Below.al (Below.al (Below.refl _ _) _) _⟩
set_option maxRecDepth 8000 in
theorem rsame_yes {m n : Rg} {w : World} (h1 : (m.k != n.k) = false) (h2 : (m.x != n.x) = false) (e3 : ∀ w, (binOp .neq 33 (txv m.c m.s) (txv n.c n.s)).run Tryz.prog w = .ok (.bool false) w) (h4 : (m.h != n.h) = false) (h5 : (m.oc != n.oc) = false) (e6 : ∀ w, (binOp .neq 36 (stv m.w m.l m.n) (stv n.w n.l n.n)).run Tryz.prog w = .ok (.bool false) w) (h7 : (m.im.toList == n.im.toList) = true) (h8 : ((m.rs.length : Int) != (n.rs.length : Int)) = false) (h9 : ((m.ws.length : Int) != (n.ws.length : Int)) = false) (h : Hid (m.ok w)) (hn : Hid (n.ok w)) (hp : Hid (m.rs = n.rs ∧ m.ws = n.ws)) :
  Calls Tryz.prog 212 #[m.val, n.val] w fun e w' => e = .returned (.bool true) ∧ Below w.heap.size w w' := by
 have HR := hid h.out.rl; have HWL := hid h.out.wl
 go_enter Tryz.func212, Tryz.ntmps212
 go_wp2_with fail
 clear h1 h2 e3 h4 h5 e6 h7 h8 h9; have h0 := hid (sg_start w m n 40); go_loopg [5] m.rs.length (fun g s5 wr => ∃ k : Nat, k ≤ m.rs.length ∧ g = m.rs.length - k ∧ s5 = .int .i64 k ∧ Hid (SG w wr m n))
 case atStart => exact ⟨0, by omega, by omega, rfl, h0⟩
 case round =>
  obtain ⟨k, hk, rfl, rfl, HS⟩ := hrel; obtain ⟨W1, hW1⟩ : ∃ W, W = wr := ⟨_, rfl⟩; rw [← hW1] at HS ⊢; clear hW1 wr; have hlm := HR.out; by_cases hlt : k < m.rs.length
  ·have d := HS.out.b.c9; have c := HS.out.a.c9; obtain ⟨b, off, ha, x0, x1⟩ := (h.out.later HS.out.bl).r k hlt; obtain ⟨b', off', ha', y0, y1⟩ := (hn.out.later HS.out.bl).r k (by rw [← hp.out.1]; exact hlt); rw [← hp.out.1] at y0 y1 d; rw [ha] at c; rw [ha'] at d; obtain ⟨x, hx⟩ : ∃ x, x = nth2 m.rs k := ⟨_, rfl⟩; rw [← hx] at x0 x1 y0 y1; have kc := cell_regrown c; have kd := cell_regrown d
   have kx0 := cell_regrown x0; have kx1 := cell_regrown x1
   have ky0 := cell_regrown y0; have ky1 := cell_regrown y1
   have hne : ∀ w, (binOp .neq 126 (.agg #[.string x.1, .string x.2]) (.agg #[.string x.1, .string x.2])).run Tryz.prog w = .ok (.bool false) w := fun w => run_neSpan x w
   clear hx ha ha'; go_wp2_with fail
   refine wp_region_quiet_below (by kernel_rfl) (by kernel_rfl) ?_; repeat (go_big_quiet_step (fail))
   refine wpQuiet_nil ?_; intro w1 hw; replace hw := bor hw; have HS1 := hid (HS.out.later hw); clear hw kc kd kx0 ky0 kx1 ky1 x0 x1 y0 y1 c d; go_wp2_with fail
   go_roundg (m.rs.length - (k + 1))
   case measure => omega
   case rel => exact ⟨k + 1, by omega, rfl, by go_num, HS1⟩
  ·obtain rfl : k = m.rs.length := by omega
   have c := HS.out.a.c9; have h0 := HS; go_wp2_with fail
   clear c; go_loopg [6] m.ws.length (fun g s6 wr => ∃ k : Nat, k ≤ m.ws.length ∧ g = m.ws.length - k ∧ s6 = .int .i64 k ∧ Hid (SG w wr m n))
   case atStart => exact ⟨0, by omega, by omega, rfl, h0⟩
   case round =>
    obtain ⟨k, hk, rfl, rfl, HS⟩ := hrel; obtain ⟨W2, hW2⟩ : ∃ W, W = wr := ⟨_, rfl⟩; rw [← hW2] at HS ⊢; clear hW2 wr; have hlm := HWL.out; by_cases hlt : k < m.ws.length
    ·have d := HS.out.b.c10; have c := HS.out.a.c10; obtain ⟨b, off, ha, x0, x1, x2⟩ := (h.out.later HS.out.bl).w k hlt; obtain ⟨b', off', ha', y0, y1, y2⟩ := (hn.out.later HS.out.bl).w k (by rw [← hp.out.2]; exact hlt); rw [← hp.out.2] at y0 y1 y2 d; rw [ha] at c; rw [ha'] at d; obtain ⟨x, hx⟩ : ∃ x, x = nthW m.ws k := ⟨_, rfl⟩; rw [← hx] at x0 x1 x2 y0 y1 y2; have kc := cell_regrown c; have kd := cell_regrown d
     have kx0 := cell_regrown x0; have kx1 := cell_regrown x1; have kx2 := cell_regrown x2
     have ky0 := cell_regrown y0; have ky1 := cell_regrown y1; have ky2 := cell_regrown y2
     have hne : ∀ w, (binOp .neq 117 (.agg #[.string x.key, .bool x.del, .string x.val]) (.agg #[.string x.key, .bool x.del, .string x.val])).run Tryz.prog w = .ok (.bool false) w := fun w => run_neWrite x w
     clear hx ha ha'; go_wp2_with fail
     refine wp_region_quiet_below (by kernel_rfl) (by kernel_rfl) ?_; repeat (go_big_quiet_step (fail))
     refine wpQuiet_nil ?_; intro w1 hw; replace hw := bor hw; have HS1 := hid (HS.out.later hw); clear hw kc kd kx0 ky0 kx1 ky1 kx2 ky2 x0 x1 x2 y0 y1 y2 c d; go_wp2_with fail
     go_roundg (m.ws.length - (k + 1))
     case measure => omega
     case rel => exact ⟨k + 1, by omega, rfl, by go_num, HS1⟩
    ·obtain rfl : k = m.ws.length := by omega
     have c := HS.out.a.c10; have h0 := HS; go_wp2_with fail
     clear c; go_ret
     exact ⟨rfl, h0.out.bl⟩
theorem rfi {m n : Rg} {w : World} {u : Bool} (hu : sameR m n = u) (h : m.ok w) (hn : n.ok w) (hr : m.rs.length = n.rs.length → m.rs = n.rs) (hw : m.ws.length = n.ws.length → m.ws = n.ws) :
  Calls Tryz.prog 212 #[m.val, n.val] w fun e w' => e = .returned (.bool u) ∧ Below w.heap.size w w' := by
 have e3 : ∀ {b}, sameT m.c m.s n.c n.s = b → ∀ w, (binOp .neq 33 (txv m.c m.s) (txv n.c n.s)).run Tryz.prog w = .ok (.bool !b) w := fun h w => by rw [run_neT, h]
 have e6 : ∀ {b}, sameB m.w m.l m.n n.w n.l n.n = b → ∀ w, (binOp .neq 36 (stv m.w m.l m.n) (stv n.w n.l n.n)).run Tryz.prog w = .ok (.bool !b) w := fun h w => by rw [run_ne, h]
 have ln : ∀ {a b : Nat} {u : Bool}, decide (a = b) = u → ((a : Int) != (b : Int)) = !u := fun {a b u} h => by
  rw [← h, bne, Bool.not_inj_iff, Bool.eq_iff_iff]; simp; omega
 have nn : ∀ {a b : Int} {u : Bool}, (a == b) = u → (a != b) = !u := fun h => by rw [bne, h]
 have tt : ∀ {a b : ByteArray} {u : Bool}, decide (a = b) = u → (a.toList == b.toList) = !!u := fun {a b u} h => by
  rw [← h, Bool.not_not, Bool.eq_iff_iff, ByteArray.toList_eq, ByteArray.toList_eq]; simp only [beq_iff_eq, decide_eq_true_eq]; exact ⟨fun e => ByteArray.ext (Array.toList_inj.1 e), fun e => by rw [e]⟩
 subst hu; cases g1 : (m.k == n.k)
 ·rw [sameR, g1]; exact rsame_no1 w (nn g1)
 cases g2 : (m.x == n.x)
 ·rw [sameR, g1, g2]; exact rsame_no2 w (nn g1) (nn g2)
 cases g3 : sameT m.c m.s n.c n.s
 ·rw [sameR, g1, g2, g3]; exact rsame_no3 w (nn g1) (nn g2) (e3 g3)
 cases g4 : (m.h == n.h)
 ·rw [sameR, g1, g2, g3, g4]; exact rsame_no4 w (nn g1) (nn g2) (e3 g3) (nn g4)
 cases g5 : (m.oc == n.oc)
 ·rw [sameR, g1, g2, g3, g4, g5]; exact rsame_no5 w (nn g1) (nn g2) (e3 g3) (nn g4) (nn g5)
 cases g6 : sameB m.w m.l m.n n.w n.l n.n
 ·rw [sameR, g1, g2, g3, g4, g5, g6]; exact rsame_no6 w (nn g1) (nn g2) (e3 g3) (nn g4) (nn g5) (e6 g6)
 cases g7 : decide (m.im = n.im)
 ·rw [sameR, g1, g2, g3, g4, g5, g6, g7]; exact rsame_no7 w (nn g1) (nn g2) (e3 g3) (nn g4) (nn g5) (e6 g6) (tt g7)
 cases g8 : decide (m.rs.length = n.rs.length)
 ·rw [sameR, g1, g2, g3, g4, g5, g6, g7, g8]; exact rsame_no8 w (nn g1) (nn g2) (e3 g3) (nn g4) (nn g5) (e6 g6) (tt g7) (ln g8)
 cases g9 : decide (m.ws.length = n.ws.length)
 ·rw [sameR, g1, g2, g3, g4, g5, g6, g7, g8, g9]; exact rsame_no9 w (nn g1) (nn g2) (e3 g3) (nn g4) (nn g5) (e6 g6) (tt g7) (ln g8) (ln g9)
 rw [sameR, g1, g2, g3, g4, g5, g6, g7, g8, g9]; exact rsame_yes (nn g1) (nn g2) (e3 g3) (nn g4) (nn g5) (e6 g6) (tt g7) (ln g8) (ln g9) h hn ⟨hr (of_decide_eq_true g8), hw (of_decide_eq_true g9)⟩
theorem named_1 {m : Rg} (hk : m.k = 1) (w : World) :
  Calls Tryz.prog 213 #[m.val] w fun e w' => e = .returned m.named.val ∧ Below w.heap.size w w' := by
 have q1 : (m.k == 1) = true := by rw [hk]; rfl
 have hv : m.named.val = .agg #[.int .i64 (m.k), .int .u64 (m.x), .int .u32 (0), .int .u32 (0), .int .u32 (0), .int .i64 (0), .int .u64 (0), .int .u32 (0), .int .u32 (0), .slice none 0 0, .slice none 0 0, .string ⟨#[]⟩] := by
  have : m.named = { Rg.zero with k := m.k, x := m.x } := by unfold Rg.named; rw [if_pos hk]
  exact congrArg Rg.val this
 rw [hv]; clear hv hk; go_enter Tryz.func213, Tryz.ntmps213
 go_wp2_with fail
 refine bodyPost_ret (v := .agg #[.int .i64 (m.k), .int .u64 (m.x), .int .u32 (0), .int .u32 (0), .int .u32 (0), .int .i64 (0), .int .u64 (0), .int .u32 (0), .int .u32 (0), .slice none 0 0, .slice none 0 0, .string ⟨#[]⟩]) (by simp [results, Tryz.results213, go_sem]) rfl ⟨rfl, ?_⟩
 (repeat (first | exact Below.refl _ _ | assumption | refine Below.drew ?_ | refine Below.al ?_ _ | refine Below.setCell ?_ (by first | exact Nat.le_refl _ | simp <;> omega) _ | refine Below.on ?_ (by assumption)))
theorem named_2 {m : Rg} (hk : m.k = 2) (w : World) :
  Calls Tryz.prog 213 #[m.val] w fun e w' => e = .returned m.named.val ∧ Below w.heap.size w w' := by
 have q1 : (m.k == 1) = false := by rw [hk]; rfl
 have q2 : (m.k == 2) = true := by rw [hk]; rfl
 have hv : m.named.val = .agg #[.int .i64 (m.k), .int .u64 (0), .int .u32 (m.c), .int .u32 (m.s), .int .u32 (m.h), .int .i64 (0), .int .u64 (m.w), .int .u32 (m.l), .int .u32 (m.n), .slice m.ra m.rs.length m.rc, .slice m.wa m.ws.length m.wc, .string ⟨#[]⟩] := by
  have : m.named = { m with x := 0, oc := 0, im := ⟨#[]⟩ } := by unfold Rg.named; rw [if_neg (by rw [hk]; decide), if_pos hk]
  exact congrArg Rg.val this
 rw [hv]; clear hv hk; go_enter Tryz.func213, Tryz.ntmps213
 go_wp2_with fail
 refine bodyPost_ret (v := .agg #[.int .i64 (m.k), .int .u64 (0), .int .u32 (m.c), .int .u32 (m.s), .int .u32 (m.h), .int .i64 (0), .int .u64 (m.w), .int .u32 (m.l), .int .u32 (m.n), .slice m.ra m.rs.length m.rc, .slice m.wa m.ws.length m.wc, .string ⟨#[]⟩]) (by simp [results, Tryz.results213, go_sem]) rfl ⟨rfl, ?_⟩
 (repeat (first | exact Below.refl _ _ | assumption | refine Below.drew ?_ | refine Below.al ?_ _ | refine Below.setCell ?_ (by first | exact Nat.le_refl _ | simp <;> omega) _ | refine Below.on ?_ (by assumption)))
theorem named_3 {m : Rg} (hk : m.k = 3) (w : World) :
  Calls Tryz.prog 213 #[m.val] w fun e w' => e = .returned m.named.val ∧ Below w.heap.size w w' := by
 have q1 : (m.k == 1) = false := by rw [hk]; rfl
 have q2 : (m.k == 2) = false := by rw [hk]; rfl
 have q3 : (m.k == 3) = true := by rw [hk]; rfl
 have hv : m.named.val = .agg #[.int .i64 (m.k), .int .u64 (0), .int .u32 (m.c), .int .u32 (m.s), .int .u32 (m.h), .int .i64 (m.oc), .int .u64 (m.w), .int .u32 (m.l), .int .u32 (m.n), .slice none 0 0, .slice none 0 0, .string ⟨#[]⟩] := by
  have : m.named = { Rg.zero with k := m.k, c := m.c, s := m.s, h := m.h, oc := m.oc, w := m.w, l := m.l, n := m.n } := by unfold Rg.named; rw [if_neg (by rw [hk]; decide), if_neg (by rw [hk]; decide), if_pos hk]
  exact congrArg Rg.val this
 rw [hv]; clear hv hk; go_enter Tryz.func213, Tryz.ntmps213
 go_wp2_with fail
 refine bodyPost_ret (v := .agg #[.int .i64 (m.k), .int .u64 (0), .int .u32 (m.c), .int .u32 (m.s), .int .u32 (m.h), .int .i64 (m.oc), .int .u64 (m.w), .int .u32 (m.l), .int .u32 (m.n), .slice none 0 0, .slice none 0 0, .string ⟨#[]⟩]) (by simp [results, Tryz.results213, go_sem]) rfl ⟨rfl, ?_⟩
 (repeat (first | exact Below.refl _ _ | assumption | refine Below.drew ?_ | refine Below.al ?_ _ | refine Below.setCell ?_ (by first | exact Nat.le_refl _ | simp <;> omega) _ | refine Below.on ?_ (by assumption)))
theorem named_4 {m : Rg} (hk : m.k = 4) (w : World) :
  Calls Tryz.prog 213 #[m.val] w fun e w' => e = .returned m.named.val ∧ Below w.heap.size w w' := by
 have q1 : (m.k == 1) = false := by rw [hk]; rfl
 have q2 : (m.k == 2) = false := by rw [hk]; rfl
 have q3 : (m.k == 3) = false := by rw [hk]; rfl
 have q4 : (m.k == 4) = true := by rw [hk]; rfl
 have hv : m.named.val = .agg #[.int .i64 (m.k), .int .u64 (0), .int .u32 (0), .int .u32 (0), .int .u32 (0), .int .i64 (0), .int .u64 (m.w), .int .u32 (m.l), .int .u32 (m.n), .slice none 0 0, .slice none 0 0, .string ⟨#[]⟩] := by
  have : m.named = { Rg.zero with k := m.k, w := m.w, l := m.l, n := m.n } := by unfold Rg.named; rw [if_neg (by rw [hk]; decide), if_neg (by rw [hk]; decide), if_neg (by rw [hk]; decide), if_pos hk]
  exact congrArg Rg.val this
 rw [hv]; clear hv hk; go_enter Tryz.func213, Tryz.ntmps213
 go_wp2_with fail
 refine bodyPost_ret (v := .agg #[.int .i64 (m.k), .int .u64 (0), .int .u32 (0), .int .u32 (0), .int .u32 (0), .int .i64 (0), .int .u64 (m.w), .int .u32 (m.l), .int .u32 (m.n), .slice none 0 0, .slice none 0 0, .string ⟨#[]⟩]) (by simp [results, Tryz.results213, go_sem]) rfl ⟨rfl, ?_⟩
 (repeat (first | exact Below.refl _ _ | assumption | refine Below.drew ?_ | refine Below.al ?_ _ | refine Below.setCell ?_ (by first | exact Nat.le_refl _ | simp <;> omega) _ | refine Below.on ?_ (by assumption)))
theorem named_5 {m : Rg} (hk : m.k = 5) (w : World) :
  Calls Tryz.prog 213 #[m.val] w fun e w' => e = .returned m.named.val ∧ Below w.heap.size w w' := by
 have q1 : (m.k == 1) = false := by rw [hk]; rfl
 have q2 : (m.k == 2) = false := by rw [hk]; rfl
 have q3 : (m.k == 3) = false := by rw [hk]; rfl
 have q4 : (m.k == 4) = false := by rw [hk]; rfl
 have q5 : (m.k == 5) = true := by rw [hk]; rfl
 have hv : m.named.val = .agg #[.int .i64 (m.k), .int .u64 (0), .int .u32 (0), .int .u32 (0), .int .u32 (0), .int .i64 (0), .int .u64 (0), .int .u32 (0), .int .u32 (0), .slice none 0 0, .slice none 0 0, .string m.im] := by
  have : m.named = { Rg.zero with k := m.k, im := m.im } := by unfold Rg.named; rw [if_neg (by rw [hk]; decide), if_neg (by rw [hk]; decide), if_neg (by rw [hk]; decide), if_neg (by rw [hk]; decide), if_pos hk]
  exact congrArg Rg.val this
 rw [hv]; clear hv hk; go_enter Tryz.func213, Tryz.ntmps213
 go_wp2_with fail
 refine bodyPost_ret (v := .agg #[.int .i64 (m.k), .int .u64 (0), .int .u32 (0), .int .u32 (0), .int .u32 (0), .int .i64 (0), .int .u64 (0), .int .u32 (0), .int .u32 (0), .slice none 0 0, .slice none 0 0, .string m.im]) (by simp [results, Tryz.results213, go_sem]) rfl ⟨rfl, ?_⟩
 (repeat (first | exact Below.refl _ _ | assumption | refine Below.drew ?_ | refine Below.al ?_ _ | refine Below.setCell ?_ (by first | exact Nat.le_refl _ | simp <;> omega) _ | refine Below.on ?_ (by assumption)))
theorem named_0 {m : Rg} (g1 : m.k ≠ 1) (g2 : m.k ≠ 2) (g3 : m.k ≠ 3) (g4 : m.k ≠ 4) (g5 : m.k ≠ 5) (w : World) :
  Calls Tryz.prog 213 #[m.val] w fun e w' => e = .returned m.named.val ∧ Below w.heap.size w w' := by
 have q1 : (m.k == 1) = false := beq_eq_false_iff_ne.2 g1; have q2 : (m.k == 2) = false := beq_eq_false_iff_ne.2 g2; have q3 : (m.k == 3) = false := beq_eq_false_iff_ne.2 g3; have q4 : (m.k == 4) = false := beq_eq_false_iff_ne.2 g4; have q5 : (m.k == 5) = false := beq_eq_false_iff_ne.2 g5; have hv : m.named.val = .agg #[.int .i64 0, .int .u64 (0), .int .u32 (0), .int .u32 (0), .int .u32 (0), .int .i64 (0), .int .u64 (0), .int .u32 (0), .int .u32 (0), .slice none 0 0, .slice none 0 0, .string ⟨#[]⟩] := by
  have : m.named = Rg.zero := by unfold Rg.named; rw [if_neg g1, if_neg g2, if_neg g3, if_neg g4, if_neg g5]
  exact congrArg Rg.val this
 rw [hv]; clear hv g1 g2 g3 g4 g5; go_enter Tryz.func213, Tryz.ntmps213
 go_wp2_with fail
 refine bodyPost_ret (v := .agg #[.int .i64 0, .int .u64 (0), .int .u32 (0), .int .u32 (0), .int .u32 (0), .int .i64 (0), .int .u64 (0), .int .u32 (0), .int .u32 (0), .slice none 0 0, .slice none 0 0, .string ⟨#[]⟩]) (by simp [results, Tryz.results213, go_sem]) rfl ⟨rfl, ?_⟩
 (repeat (first | exact Below.refl _ _ | assumption | refine Below.drew ?_ | refine Below.al ?_ _ | refine Below.setCell ?_ (by first | exact Nat.le_refl _ | simp <;> omega) _ | refine Below.on ?_ (by assumption)))
theorem named_is (m : Rg) (w : World) : Calls Tryz.prog 213 #[m.val] w fun e w' => e = .returned m.named.val ∧ Below w.heap.size w w' := by
 by_cases g1 : m.k = 1
 ·exact named_1 g1 w
 by_cases g2 : m.k = 2
 ·exact named_2 g2 w
 by_cases g3 : m.k = 3
 ·exact named_3 g3 w
 by_cases g4 : m.k = 4
 ·exact named_4 g4 w
 by_cases g5 : m.k = 5
 ·exact named_5 g5 w
 exact named_0 g1 g2 g3 g4 g5 w
end Go.Proofs.YtofpaldolcnmiaaGreat
