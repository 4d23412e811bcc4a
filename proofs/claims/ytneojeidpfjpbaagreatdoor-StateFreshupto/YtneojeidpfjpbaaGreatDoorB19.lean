import Derived.Test.YtneojeidpfjpbaaGreatDoorB13
set_option linter.unusedVariables false
set_option maxHeartbeats 2000000
namespace Go.Proofs.YtneojeidpfjpbaaGreatDoor
open Go.RowKit
theorem run_eq (a b c x y z : Int) (w : World) :
  (binOp .eql 28 (stv a b c) (stv x y z)).run Tryz.prog w = .ok (.bool (sameB a b c x y z)) w := by
 by_cases h1 : a = x <;> by_cases h2 : b = y <;> by_cases h3 : c = z <;> simp [sameB, h1, h2, h3, stv, go_sem, Tryz.underlying28]
open Go.RowKit Go.Sort
structure Rg where
 k : Int
 x : Int
 c : Int
 s : Int
 h : Int
 oc : Int
 w : Int
 l : Int
 n : Int
 ra : Option Addr
 rs : List T2
 rc : Nat
 wa : Option Addr
 ws : List Wr
 wc : Nat
 im : ByteArray
abbrev Rg.cells (m : Rg) : Array Value := #[.int .i64 m.k, .int .u64 m.x, .int .u32 m.c, .int .u32 m.s, .int .u32 m.h, .int .i64 m.oc, .int .u64 m.w, .int .u32 m.l, .int .u32 m.n, .slice m.ra m.rs.length m.rc, .slice m.wa m.ws.length m.wc, .string m.im]
abbrev Rg.val (m : Rg) : Value := .agg m.cells
structure Rg.ok (W : World) (m : Rg) : Prop where
 r : Row2 W m.ra m.rs
 w : RowW W m.wa m.ws
 rl : m.rs.length ≤ 9223372036854775807
 wl : m.ws.length ≤ 9223372036854775807
 rg : 0 ≤ m.s ∧ 0 ≤ m.w ∧ m.w ≤ 18446744073709551615
theorem Rg.ok.later {w w' : World} {m : Rg} (h : m.ok w) (hb : Below w.heap.size w w') : m.ok w' := ⟨h.r.later hb, h.w.later hb, h.rl, h.wl, h.rg⟩
structure BoxG (w : World) (q : Nat) (m : Rg) : Prop where
 c0 : w.cell? ⟨q, 0, none⟩ = some (.int .i64 m.k)
 c1 : w.cell? ⟨q, 1, none⟩ = some (.int .u64 m.x)
 c2 : w.cell? ⟨q, 2, none⟩ = some (.int .u32 m.c)
 c3 : w.cell? ⟨q, 3, none⟩ = some (.int .u32 m.s)
 c4 : w.cell? ⟨q, 4, none⟩ = some (.int .u32 m.h)
 c5 : w.cell? ⟨q, 5, none⟩ = some (.int .i64 m.oc)
 c6 : w.cell? ⟨q, 6, none⟩ = some (.int .u64 m.w)
 c7 : w.cell? ⟨q, 7, none⟩ = some (.int .u32 m.l)
 c8 : w.cell? ⟨q, 8, none⟩ = some (.int .u32 m.n)
 c9 : w.cell? ⟨q, 9, none⟩ = some (.slice m.ra m.rs.length m.rc)
 c10 : w.cell? ⟨q, 10, none⟩ = some (.slice m.wa m.ws.length m.wc)
 c11 : w.cell? ⟨q, 11, none⟩ = some (.string m.im)
theorem boxG (w : World) (m : Rg) (T : TypeId) : BoxG (w.alloc (.cells m.cells T)) w.heap.size m := by
 refine ⟨?_, ?_, ?_, ?_, ?_, ?_, ?_, ?_, ?_, ?_, ?_, ?_⟩ <;> simp [go_sem]
theorem BoxG.later {w w' : World} {q : Nat} {m : Rg} (h : BoxG w q m) (hb : Below w.heap.size w w') : BoxG w' q m :=
 ⟨cell_later hb h.c0, cell_later hb h.c1, cell_later hb h.c2, cell_later hb h.c3, cell_later hb h.c4, cell_later hb h.c5, cell_later hb h.c6, cell_later hb h.c7, cell_later hb h.c8, cell_later hb h.c9, cell_later hb h.c10, cell_later hb h.c11⟩
abbrev txv (c s : Int) : Value := .agg #[.int .u32 c, .int .u32 s]
def sameT (c s d t : Int) : Bool := c == d && s == t
def spanOk (x : T2) : Bool := decide (x.1.size ≤ 33) && decide (x.2.size ≤ 33) && (emS x.2 || ltS x.1 x.2)
def spanAt (xs : List T2) (i : Nat) : Bool := spanOk (nth2 xs i)
def readsOk (xs : List T2) : Bool := decide (xs.length ≤ 16) && allB (spanAt xs) xs.length
def sameR (m n : Rg) : Bool := (m.k == n.k) && (m.x == n.x) && sameT m.c m.s n.c n.s && (m.h == n.h) && (m.oc == n.oc) && sameB m.w m.l m.n n.w n.l n.n && decide (m.im = n.im) && decide (m.rs.length = n.rs.length) && decide (m.ws.length = n.ws.length)
def Rg.zero : Rg := ⟨0, 0, 0, 0, 0, 0, 0, 0, 0, none, [], 0, none, [], 0, ⟨#[]⟩⟩
def Rg.named (m : Rg) : Rg :=
 if m.k = 1 then { Rg.zero with k := m.k, x := m.x }
 else if m.k = 2 then { m with x := 0, oc := 0, im := ⟨#[]⟩ }
 else if m.k = 3 then { Rg.zero with k := m.k, c := m.c, s := m.s, h := m.h, oc := m.oc, w := m.w, l := m.l, n := m.n }
 else if m.k = 4 then { Rg.zero with k := m.k, w := m.w, l := m.l, n := m.n }
 else if m.k = 5 then { Rg.zero with k := m.k, im := m.im }
 else Rg.zero
def topW : Int := 18446744073709551615
def Rg.rules (m : Rg) : Bool :=
 if m.k = 1 then true
 else if m.k = 2 then !(m.s == 0) && !(m.w == topW) && !(decide (m.rs.length = 0) && decide (m.ws.length = 0)) && readsOk m.rs && writesOk m.ws
 else if m.k = 3 then !(m.s == 0) && ((m.oc == 1 && !(m.w == topW)) || (m.oc == 2 && (m.w == 0 && m.l == 0 && m.n == 0)))
 else if m.k = 4 then !(m.w == topW)
 else if m.k = 5 then decide (m.im.size ≤ 1048560)
 else false
def Rg.valid (m : Rg) : Bool := sameR m m.named && m.rules
def Rg.err (m : Rg) : Int := if m.valid then 0 else 70
open Go.RowKit Go.Sort
theorem validSpan_is {x : T2} {u : Bool} (hu : spanOk x = u) (w : World) :
  Calls Tryz.prog 173 #[.agg #[.string x.1, .string x.2]] w fun e w' => e = .returned (.bool u) ∧ Below w.heap.size w w' := by
 subst hu; obtain ⟨lo, hi⟩ := x; go_enter Tryz.func173, Tryz.ntmps173
 go_wp2_with fail
 all_goals go_ret
 all_goals refine ⟨ret_bool ?_, by (repeat (first | exact Below.refl _ _ | assumption | refine Below.drew ?_ | refine Below.al ?_ _ | refine Below.setCell ?_ (by first | exact Nat.le_refl _ | (simp; omega) | (simp; done)) _ | refine Below.on ?_ (by assumption)))⟩
 all_goals simp only [spanOk, emS, ltS]
 ·rw [Bool.eq_iff_iff]; simp; omega
 ·rename_i h2 h1 h0; rw [Bool.eq_iff_iff]; simp [h0]; omega
 ·rename_i h2 h1 h0; rw [Bool.eq_iff_iff]; simp; omega
 ·rw [Bool.eq_iff_iff]; simp; omega
theorem validReads_is {a : Option Addr} {c : Nat} {xs : List T2} {w : World} {u : Bool} (hu : readsOk xs = u) (h : Row2 w a xs) (hl : xs.length ≤ 9223372036854775807) :
  Calls Tryz.prog 122 #[.slice a xs.length c] w fun e w' => e = .returned (.bool u) ∧ Below w.heap.size w w' := by
 subst hu; by_cases h16 : 16 < (xs.length : Int)
 ·go_enter Tryz.func122, Tryz.ntmps122
  go_wp2_with fail
  go_ret
  refine ⟨ret_bool ?_, by (repeat (first | exact Below.refl _ _ | assumption | refine Below.drew ?_ | refine Below.al ?_ _ | refine Below.setCell ?_ (by first | exact Nat.le_refl _ | (simp; omega) | (simp; done)) _ | refine Below.on ?_ (by assumption)))⟩; rw [readsOk, decide_eq_false (by omega)]; rfl
 have H16 := hid h16; have h16' : decide (16 < (xs.length : Int)) = false := decide_eq_false h16; clear h16; go_enter Tryz.func122, Tryz.ntmps122
 go_wp2_with fail
 go_loopg [10] xs.length (fun g s10 wr => ∃ k : Nat, k ≤ xs.length ∧ g = xs.length - k ∧ s10 = .int .i64 k ∧ Below w.heap.size w wr ∧ Hid (allB (spanAt xs) k = true))
 case atStart => exact ⟨0, by omega, by omega, rfl, Below.refl _ _, rfl⟩
 case round =>
  obtain ⟨k, hk, rfl, rfl, hb, HA⟩ := hrel; by_cases hlt : k < xs.length
  ·obtain ⟨b, off, rfl, c0, c1⟩ := (h.later hb) k hlt; obtain ⟨u, hu⟩ : ∃ u, spanOk (nth2 xs k) = u := ⟨_, rfl⟩; have HU : Hid (spanAt xs k = u) := hu; obtain ⟨x, hx⟩ : ∃ x, x = nth2 xs k := ⟨_, rfl⟩; rw [← hx] at c0 c1 hu; clear hx; go_wp2_with fail
   refine (validSpan_is hu _).mono ?_; rintro e w1 ⟨rfl, hw1⟩; replace hb : Below w.heap.size w w1 := Below.on (Below.al hb _) hw1; clear hw1 hu; cases u
   ·go_wp2_with fail
    go_ret
    refine ⟨ret_bool ?_, hb⟩; rw [readsOk, allB_no HU.out _ hlt, Bool.and_false]
   ·go_wp2_with fail
    go_roundg (xs.length - (k + 1))
    case measure => omega
    case rel => exact ⟨k + 1, by omega, rfl, by go_num, hb, allB_yes HA.out HU.out⟩
  ·obtain rfl : k = xs.length := by omega
   go_wp2_with fail
   go_ret
   refine ⟨ret_bool ?_, hb⟩; rw [readsOk, HA.out, decide_eq_true (by have := H16.out; omega)]; rfl
theorem txn_is {c s : Int} (w : World) :
  Calls Tryz.prog 83 #[.agg #[.int .u32 c, .int .u32 s]] w fun e w' => e = .returned (.bool (decide (1 ≤ s))) ∧ Below w.heap.size w w' := by
 go_enter Tryz.func83, Tryz.ntmps83
 go_wp2_with fail
 go_ret
 exact ⟨ret_bool (by simp), by (repeat (first | exact Below.refl _ _ | assumption | refine Below.drew ?_ | refine Below.al ?_ _ | refine Below.setCell ?_ (by first | exact Nat.le_refl _ | (simp; omega) | (simp; done)) _ | refine Below.on ?_ (by assumption)))⟩
open Go.RowKit Go.Sort
theorem run_eqT (c s d t : Int) (w : World) : (binOp .eql 38 (txv c s) (txv d t)).run Tryz.prog w = .ok (.bool (sameT c s d t)) w := by
 by_cases h1 : c = d <;> by_cases h2 : s = t <;> simp [sameT, h1, h2, txv, go_sem, Tryz.underlying38]
def Rg.bare (m : Rg) : Rg :=
 if m.k = 1 then { m with x := 0 }
 else if m.k = 2 then { m with c := 0, s := 0, h := 0, w := 0, l := 0, n := 0, ra := none, rs := [], rc := 0, wa := none, ws := [], wc := 0 }
 else if m.k = 3 then { m with c := 0, s := 0, h := 0, oc := 0, w := 0, l := 0, n := 0 }
 else if m.k = 4 then { m with w := 0, l := 0, n := 0 }
 else if m.k = 5 then { m with im := ⟨#[]⟩ }
 else m
def Rg.blank (m : Rg) : Bool := m.x == 0 && sameT m.c m.s 0 0 && m.h == 0 && m.oc == 0 && sameB m.w m.l m.n 0 0 0 && ((m.rs.length : Int) == 0) && ((m.ws.length : Int) == 0) && emS m.im
def footOk (m : Rg) : Bool := !(((m.rs.length : Int) == 0) && ((m.ws.length : Int) == 0)) && readsOk m.rs && writesOk m.ws
def verdOk (m : Rg) : Bool := if m.oc = 1 then decide (m.w < 18446744073709551615) else if m.oc = 2 then sameB m.w m.l m.n 0 0 0 else false
def Rg.may (m : Rg) : Bool :=
 if m.k = 1 then true
 else if m.k = 2 then decide (1 ≤ m.s) && decide (m.w < 18446744073709551615) && footOk m
 else if m.k = 3 then decide (1 ≤ m.s) && verdOk m
 else if m.k = 4 then decide (m.w < 18446744073709551615)
 else if m.k = 5 then decide (m.im.size ≤ 1048560)
 else false
theorem blank_is {m : Rg} {w : World} {u : Bool} (hu : m.blank = u) :
  Calls Tryz.prog 51 #[m.val] w fun e w' => e = .returned (.bool u) ∧ Below w.heap.size w w' := by
 subst hu; obtain ⟨b2, h2⟩ : ∃ b, sameT m.c m.s 0 0 = b := ⟨_, rfl⟩; obtain ⟨b5, h5⟩ : ∃ b, sameB m.w m.l m.n 0 0 0 = b := ⟨_, rfl⟩; obtain ⟨b8, h8⟩ : ∃ b, m.im.toList.isEmpty = b := ⟨_, rfl⟩; have e2 : ∀ w, (binOp .eql 38 (txv m.c m.s) (txv 0 0)).run Tryz.prog w = .ok (.bool b2) w := fun w => by rw [run_eqT, h2]
 have e5 : ∀ w, (binOp .eql 28 (stv m.w m.l m.n) (stv 0 0 0)).run Tryz.prog w = .ok (.bool b5) w := fun w => by rw [run_eq, h5]
 have HU : Hid (m.blank = (m.x == 0 && b2 && m.h == 0 && m.oc == 0 && b5 && ((m.rs.length : Int) == 0) && ((m.ws.length : Int) == 0) && b8)) := by
  show _ = _
  unfold Rg.blank emS; rw [h2, h5, h8]
 rw [HU.out]; clear HU h2 h5; go_enter Tryz.func51, Tryz.ntmps51
 go_wp2_with fail
 all_goals go_ret
 all_goals refine ⟨ret_bool ?_, by (repeat (first | exact Below.refl _ _ | assumption | refine Below.drew ?_ | refine Below.al ?_ _ | refine Below.setCell ?_ (by first | exact Nat.le_refl _ | (simp; omega) | (simp; done)) _ | refine Below.on ?_ (by assumption)))⟩
 all_goals simp_all
theorem foot_is {m : Rg} {w : World} {u : Bool} (hu : footOk m = u) (h : m.ok w) :
  Calls Tryz.prog 85 #[.slice m.ra m.rs.length m.rc, .slice m.wa m.ws.length m.wc] w fun e w' => e = .returned (.bool u) ∧ Below w.heap.size w w' := by
 subst hu; have H := hid h; clear h; obtain ⟨b1, h1⟩ : ∃ b, ((m.rs.length : Int) == 0) = b := ⟨_, rfl⟩; obtain ⟨b2, h2⟩ : ∃ b, ((m.ws.length : Int) == 0) = b := ⟨_, rfl⟩; obtain ⟨b3, h3⟩ : ∃ b, readsOk m.rs = b := ⟨_, rfl⟩; have HU : Hid (footOk m = (!(b1 && b2) && b3 && writesOk m.ws)) := by
  show _ = _
  unfold footOk; rw [h1, h2, h3]
 rw [HU.out]; have H3 := hid h3; clear HU h3; have go : ∀ b1 b2 : Bool, (b1 = true ∧ b2 = true) ∨ (b1 = true ∧ b2 = false) ∨ b1 = false := by decide
 rcases go b1 b2 with ⟨rfl, rfl⟩ | e
 ·go_enter Tryz.func85, Tryz.ntmps85
  go_wp2_with fail
  go_ret
  exact ⟨ret_bool (by simp), by (repeat (first | exact Below.refl _ _ | assumption | refine Below.drew ?_ | refine Below.al ?_ _ | refine Below.setCell ?_ (by first | exact Nat.le_refl _ | (simp; omega) | (simp; done)) _ | refine Below.on ?_ (by assumption)))⟩
 ·rcases e with ⟨rfl, rfl⟩ | rfl
  all_goals
   clear go; go_enter Tryz.func85, Tryz.ntmps85
   go_wp2_with fail
   refine (validReads_is H3.out H.out.r H.out.rl).mono ?_; rintro e w1 ⟨rfl, hw1⟩; cases b3
   ·go_wp2_with fail
    go_ret
    exact ⟨ret_bool (by simp), hw1⟩
   ·go_wp2_with fail
    refine (validWrites_is rfl (H.out.later hw1).w H.out.wl).mono ?_; rintro e w2 ⟨rfl, hw2⟩; go_wp2_with fail
    go_ret
    exact ⟨ret_bool (by simp), Below.on hw1 hw2⟩
theorem verd_is {m : Rg} {w : World} {u : Bool} (hu : verdOk m = u) :
  Calls Tryz.prog 86 #[.int .i64 m.oc, stv m.w m.l m.n] w fun e w' => e = .returned (.bool u) ∧ Below w.heap.size w w' := by
 subst hu; unfold verdOk; by_cases g1 : m.oc = 1
 ·rw [if_pos g1]; have q1 : (m.oc == 1) = true := by rw [g1]; rfl
  clear g1; go_enter Tryz.func86, Tryz.ntmps86
  go_wp2_with fail
  refine (usable_is _).mono ?_; rintro e w1 ⟨rfl, hw1⟩; go_wp2_with fail
  go_ret
  exact ⟨ret_bool (by simp), Below.on (Below.al (Below.refl _ _) _) hw1⟩
 rw [if_neg g1]; have q1 : (m.oc == 1) = false := beq_eq_false_iff_ne.2 g1; clear g1; by_cases g2 : m.oc = 2
 ·rw [if_pos g2]; have q2 : (m.oc == 2) = true := by rw [g2]; rfl
  clear g2; have e5 := fun w => run_eq m.w m.l m.n 0 0 0 w
  go_enter Tryz.func86, Tryz.ntmps86
  go_wp2_with fail
  go_ret
  exact ⟨ret_bool (by simp), by (repeat (first | exact Below.refl _ _ | assumption | refine Below.drew ?_ | refine Below.al ?_ _ | refine Below.setCell ?_ (by first | exact Nat.le_refl _ | (simp; omega) | (simp; done)) _ | refine Below.on ?_ (by assumption)))⟩
 rw [if_neg g2]; have q2 : (m.oc == 2) = false := beq_eq_false_iff_ne.2 g2; clear g2; go_enter Tryz.func86, Tryz.ntmps86
 go_wp2_with fail
 go_ret
 exact ⟨ret_bool (by simp), by (repeat (first | exact Below.refl _ _ | assumption | refine Below.drew ?_ | refine Below.al ?_ _ | refine Below.setCell ?_ (by first | exact Nat.le_refl _ | (simp; omega) | (simp; done)) _ | refine Below.on ?_ (by assumption)))⟩
end Go.Proofs.YtneojeidpfjpbaaGreatDoor
