import Derived.Test.YtofpaldolcnmiaaGreatB20
set_option linter.unusedVariables false
set_option maxHeartbeats 4000000
namespace Go.Proofs.YtofpaldolcnmiaaGreat
section
open Go.RowKit Go.Sort
structure Rg where
 k : Int
 x : Int
 c : Int
 s : Int
 h : Int
 oc : Int
 w : Int
 l : Int
 n : Int
 ra : Option Addr
 rs : List T2
 rc : Nat
 wa : Option Addr
 ws : List Wr
 wc : Nat
 im : ByteArray
abbrev Rg.cells (m : Rg) : Array Value := #[.int .i64 m.k, .int .u64 m.x, .int .u32 m.c, .int .u32 m.s, .int .u32 m.h, .int .i64 m.oc, .int .u64 m.w, .int .u32 m.l, .int .u32 m.n, .slice m.ra m.rs.length m.rc, .slice m.wa m.ws.length m.wc, .string m.im]
abbrev Rg.val (m : Rg) : Value := .agg m.cells
structure Rg.ok (W : World) (m : Rg) : Prop where
 r : Row2 W m.ra m.rs
 w : RowW W m.wa m.ws
 rl : m.rs.length ≤ 9223372036854775807
 wl : m.ws.length ≤ 9223372036854775807
 rg : 0 ≤ m.s ∧ 0 ≤ m.w ∧ m.w ≤ 18446744073709551615
theorem Rg.ok.later {w w' : World} {m : Rg} (h : m.ok w) (hb : Below w.heap.size w w') : m.ok w' := ⟨h.r.later hb, h.w.later hb, h.rl, h.wl, h.rg⟩
structure BoxG (w : World) (q : Nat) (m : Rg) : Prop where
 c0 : w.cell? ⟨q, 0, none⟩ = some (.int .i64 m.k)
 c1 : w.cell? ⟨q, 1, none⟩ = some (.int .u64 m.x)
 c2 : w.cell? ⟨q, 2, none⟩ = some (.int .u32 m.c)
 c3 : w.cell? ⟨q, 3, none⟩ = some (.int .u32 m.s)
 c4 : w.cell? ⟨q, 4, none⟩ = some (.int .u32 m.h)
 c5 : w.cell? ⟨q, 5, none⟩ = some (.int .i64 m.oc)
 c6 : w.cell? ⟨q, 6, none⟩ = some (.int .u64 m.w)
 c7 : w.cell? ⟨q, 7, none⟩ = some (.int .u32 m.l)
 c8 : w.cell? ⟨q, 8, none⟩ = some (.int .u32 m.n)
 c9 : w.cell? ⟨q, 9, none⟩ = some (.slice m.ra m.rs.length m.rc)
 c10 : w.cell? ⟨q, 10, none⟩ = some (.slice m.wa m.ws.length m.wc)
 c11 : w.cell? ⟨q, 11, none⟩ = some (.string m.im)
theorem boxG (w : World) (m : Rg) (T : TypeId) : BoxG (w.alloc (.cells m.cells T)) w.heap.size m := by
 refine ⟨?_, ?_, ?_, ?_, ?_, ?_, ?_, ?_, ?_, ?_, ?_, ?_⟩ <;> simp [go_sem]
theorem BoxG.later {w w' : World} {q : Nat} {m : Rg} (h : BoxG w q m) (hb : Below w.heap.size w w') : BoxG w' q m :=
 ⟨cell_later hb h.c0, cell_later hb h.c1, cell_later hb h.c2, cell_later hb h.c3, cell_later hb h.c4, cell_later hb h.c5, cell_later hb h.c6, cell_later hb h.c7, cell_later hb h.c8, cell_later hb h.c9, cell_later hb h.c10, cell_later hb h.c11⟩
abbrev txv (c s : Int) : Value := .agg #[.int .u32 c, .int .u32 s]
def sameT (c s d t : Int) : Bool := c == d && s == t
theorem run_neT (c s d t : Int) (w : World) : (binOp .neq 33 (txv c s) (txv d t)).run Tryz.prog w = .ok (.bool (!sameT c s d t)) w := by
 by_cases h1 : c = d <;> by_cases h2 : s = t <;> simp [sameT, h1, h2, txv, go_sem, Tryz.underlying33]
theorem run_neSpan (x : T2) (w : World) : (binOp .neq 126 (.agg #[.string x.1, .string x.2]) (.agg #[.string x.1, .string x.2])).run Tryz.prog w = .ok (.bool false) w := by
 simp [go_sem, Tryz.underlying126]
theorem run_neWrite (x : Wr) (w : World) : (binOp .neq 117 (.agg #[.string x.key, .bool x.del, .string x.val]) (.agg #[.string x.key, .bool x.del, .string x.val])).run Tryz.prog w = .ok (.bool false) w := by
 simp [go_sem, Tryz.underlying117]
def spanOk (x : T2) : Bool := decide (x.1.size ≤ 33) && decide (x.2.size ≤ 33) && (emS x.2 || ltS x.1 x.2)
def spanAt (xs : List T2) (i : Nat) : Bool := spanOk (nth2 xs i)
def readsOk (xs : List T2) : Bool := decide (xs.length ≤ 16) && allB (spanAt xs) xs.length
def sameR (m n : Rg) : Bool := (m.k == n.k) && (m.x == n.x) && sameT m.c m.s n.c n.s && (m.h == n.h) && (m.oc == n.oc) && sameB m.w m.l m.n n.w n.l n.n && decide (m.im = n.im) && decide (m.rs.length = n.rs.length) && decide (m.ws.length = n.ws.length)
def Rg.zero : Rg := ⟨0, 0, 0, 0, 0, 0, 0, 0, 0, none, [], 0, none, [], 0, ⟨#[]⟩⟩
def Rg.named (m : Rg) : Rg :=
 if m.k = 1 then { Rg.zero with k := m.k, x := m.x }
 else if m.k = 2 then { m with x := 0, oc := 0, im := ⟨#[]⟩ }
 else if m.k = 3 then { Rg.zero with k := m.k, c := m.c, s := m.s, h := m.h, oc := m.oc, w := m.w, l := m.l, n := m.n }
 else if m.k = 4 then { Rg.zero with k := m.k, w := m.w, l := m.l, n := m.n }
 else if m.k = 5 then { Rg.zero with k := m.k, im := m.im }
 else Rg.zero
def topW : Int := 18446744073709551615
def Rg.rules (m : Rg) : Bool :=
 if m.k = 1 then true
 else if m.k = 2 then !(m.s == 0) && !(m.w == topW) && !(decide (m.rs.length = 0) && decide (m.ws.length = 0)) && readsOk m.rs && writesOk m.ws
 else if m.k = 3 then !(m.s == 0) && ((m.oc == 1 && !(m.w == topW)) || (m.oc == 2 && (m.w == 0 && m.l == 0 && m.n == 0)))
 else if m.k = 4 then !(m.w == topW)
 else if m.k = 5 then decide (m.im.size ≤ 1048560)
 else false
def Rg.valid (m : Rg) : Bool := sameR m m.named && m.rules
def Rg.err (m : Rg) : Int := if m.valid then 0 else 70
theorem validSpan_is {x : T2} {u : Bool} (hu : spanOk x = u) (w : World) :
  Calls Tryz.prog 233 #[.agg #[.string x.1, .string x.2]] w fun e w' => e = .returned (.bool u) ∧ Below w.heap.size w w' := by
 subst hu; obtain ⟨lo, hi⟩ := x; go_enter Tryz.func233, Tryz.ntmps233
 go_wp2_with fail
 all_goals go_ret
 all_goals refine ⟨rtb ?_, by (repeat (first | exact Below.refl _ _ | assumption | refine Below.drew ?_ | refine Below.al ?_ _ | refine Below.setCell ?_ (by first | exact Nat.le_refl _ | simp <;> omega) _ | refine Below.on ?_ (by assumption)))⟩
 all_goals simp only [spanOk, emS, ltS]
 ·rw [Bool.eq_iff_iff]; simp; omega
 ·rename_i h2 h1 h0; rw [Bool.eq_iff_iff]; simp [h0]; omega
 ·rename_i h2 h1 h0; rw [Bool.eq_iff_iff]; simp; omega
 ·rw [Bool.eq_iff_iff]; simp; omega
theorem validReads_is {a : Option Addr} {c : Nat} {xs : List T2} {w : World} {u : Bool} (hu : readsOk xs = u) (h : Row2 w a xs) (hl : xs.length ≤ 9223372036854775807) :
  Calls Tryz.prog 184 #[.slice a xs.length c] w fun e w' => e = .returned (.bool u) ∧ Below w.heap.size w w' := by
 subst hu; by_cases h16 : 16 < (xs.length : Int)
 ·go_enter Tryz.func184, Tryz.ntmps184
  go_wp2_with fail
  go_ret
  refine ⟨rtb ?_, by (repeat (first | exact Below.refl _ _ | assumption | refine Below.drew ?_ | refine Below.al ?_ _ | refine Below.setCell ?_ (by first | exact Nat.le_refl _ | simp <;> omega) _ | refine Below.on ?_ (by assumption)))⟩; rw [readsOk, decide_eq_false (by omega)]; rfl
 have H16 := hid h16; have h16' : decide (16 < (xs.length : Int)) = false := decide_eq_false h16; clear h16; go_enter Tryz.func184, Tryz.ntmps184
 go_wp2_with fail
 go_loopg [10] xs.length (fun g s10 wr => ∃ k : Nat, k ≤ xs.length ∧ g = xs.length - k ∧ s10 = .int .i64 k ∧ Below w.heap.size w wr ∧ Hid (allB (spanAt xs) k = true))
 case atStart => exact ⟨0, by omega, by omega, rfl, Below.refl _ _, rfl⟩
 case round =>
  obtain ⟨k, hk, rfl, rfl, hb, HA⟩ := hrel; by_cases hlt : k < xs.length
  ·obtain ⟨b, off, rfl, c0, c1⟩ := (h.later hb) k hlt; obtain ⟨u, hu⟩ : ∃ u, spanOk (nth2 xs k) = u := ⟨_, rfl⟩; have HU : Hid (spanAt xs k = u) := hu; obtain ⟨x, hx⟩ : ∃ x, x = nth2 xs k := ⟨_, rfl⟩; rw [← hx] at c0 c1 hu; clear hx; go_wp2_with fail
   refine (validSpan_is hu _).mono ?_; rintro e w1 ⟨rfl, hw1⟩; replace hb : Below w.heap.size w w1 := Below.on (Below.al hb _) hw1; clear hw1 hu; cases u
   ·go_wp2_with fail
    go_ret
    refine ⟨rtb ?_, hb⟩; rw [readsOk, allB_no HU.out _ hlt, Bool.and_false]
   ·go_wp2_with fail
    go_roundg (xs.length - (k + 1))
    case measure => omega
    case rel => exact ⟨k + 1, by omega, rfl, by go_num, hb, allB_yes HA.out HU.out⟩
  ·obtain rfl : k = xs.length := by omega
   go_wp2_with fail
   go_ret
   refine ⟨rtb ?_, hb⟩; rw [readsOk, HA.out, decide_eq_true (by have := H16.out; omega)]; rfl
theorem txn_is {c s : Int} (w : World) :
  Calls Tryz.prog 124 #[.agg #[.int .u32 c, .int .u32 s]] w fun e w' => e = .returned (.bool (decide (1 ≤ s))) ∧ Below w.heap.size w w' := by
 go_enter Tryz.func124, Tryz.ntmps124
 go_wp2_with fail
 go_ret
 exact ⟨rtb (by simp), by (repeat (first | exact Below.refl _ _ | assumption | refine Below.drew ?_ | refine Below.al ?_ _ | refine Below.setCell ?_ (by first | exact Nat.le_refl _ | simp <;> omega) _ | refine Below.on ?_ (by assumption)))⟩
theorem run_eqT (c s d t : Int) (w : World) : (binOp .eql 33 (txv c s) (txv d t)).run Tryz.prog w = .ok (.bool (sameT c s d t)) w := by
 by_cases h1 : c = d <;> by_cases h2 : s = t <;> simp [sameT, h1, h2, txv, go_sem, Tryz.underlying33]
def Rg.bare (m : Rg) : Rg :=
 if m.k = 1 then { m with x := 0 }
 else if m.k = 2 then { m with c := 0, s := 0, h := 0, w := 0, l := 0, n := 0, ra := none, rs := [], rc := 0, wa := none, ws := [], wc := 0 }
 else if m.k = 3 then { m with c := 0, s := 0, h := 0, oc := 0, w := 0, l := 0, n := 0 }
 else if m.k = 4 then { m with w := 0, l := 0, n := 0 }
 else if m.k = 5 then { m with im := ⟨#[]⟩ }
 else m
def Rg.blank (m : Rg) : Bool := m.x == 0 && sameT m.c m.s 0 0 && m.h == 0 && m.oc == 0 && sameB m.w m.l m.n 0 0 0 && ((m.rs.length : Int) == 0) && ((m.ws.length : Int) == 0) && emS m.im
def footOk (m : Rg) : Bool := !(((m.rs.length : Int) == 0) && ((m.ws.length : Int) == 0)) && readsOk m.rs && writesOk m.ws
def verdOk (m : Rg) : Bool := if m.oc = 1 then decide (m.w < 18446744073709551615) else if m.oc = 2 then sameB m.w m.l m.n 0 0 0 else false
def Rg.may (m : Rg) : Bool :=
 if m.k = 1 then true
 else if m.k = 2 then decide (1 ≤ m.s) && decide (m.w < 18446744073709551615) && footOk m
 else if m.k = 3 then decide (1 ≤ m.s) && verdOk m
 else if m.k = 4 then decide (m.w < 18446744073709551615)
 else if m.k = 5 then decide (m.im.size ≤ 1048560)
 else false
theorem blank_is {m : Rg} {w : World} {u : Bool} (hu : m.blank = u) :
  Calls Tryz.prog 62 #[m.val] w fun e w' => e = .returned (.bool u) ∧ Below w.heap.size w w' := by
 subst hu; obtain ⟨b2, h2⟩ : ∃ b, sameT m.c m.s 0 0 = b := ⟨_, rfl⟩; obtain ⟨b5, h5⟩ : ∃ b, sameB m.w m.l m.n 0 0 0 = b := ⟨_, rfl⟩; obtain ⟨b8, h8⟩ : ∃ b, m.im.toList.isEmpty = b := ⟨_, rfl⟩; have e2 : ∀ w, (binOp .eql 33 (txv m.c m.s) (txv 0 0)).run Tryz.prog w = .ok (.bool b2) w := fun w => by rw [run_eqT, h2]
 have e5 : ∀ w, (binOp .eql 36 (stv m.w m.l m.n) (stv 0 0 0)).run Tryz.prog w = .ok (.bool b5) w := fun w => by rw [run_eq, h5]
 have HU : Hid (m.blank = (m.x == 0 && b2 && m.h == 0 && m.oc == 0 && b5 && ((m.rs.length : Int) == 0) && ((m.ws.length : Int) == 0) && b8)) := by
  show _ = _
  unfold Rg.blank emS; rw [h2, h5, h8]
 rw [HU.out]; clear HU h2 h5; go_enter Tryz.func62, Tryz.ntmps62
 go_wp2_with fail
 all_goals go_ret
 all_goals refine ⟨rtb ?_, by (repeat (first | exact Below.refl _ _ | assumption | refine Below.drew ?_ | refine Below.al ?_ _ | refine Below.setCell ?_ (by first | exact Nat.le_refl _ | simp <;> omega) _ | refine Below.on ?_ (by assumption)))⟩
 all_goals simp_all
theorem foot_is {m : Rg} {w : World} {u : Bool} (hu : footOk m = u) (h : m.ok w) :
  Calls Tryz.prog 126 #[.slice m.ra m.rs.length m.rc, .slice m.wa m.ws.length m.wc] w fun e w' => e = .returned (.bool u) ∧ Below w.heap.size w w' := by
 subst hu; have H := hid h; clear h; obtain ⟨b1, h1⟩ : ∃ b, ((m.rs.length : Int) == 0) = b := ⟨_, rfl⟩; obtain ⟨b2, h2⟩ : ∃ b, ((m.ws.length : Int) == 0) = b := ⟨_, rfl⟩; obtain ⟨b3, h3⟩ : ∃ b, readsOk m.rs = b := ⟨_, rfl⟩; have HU : Hid (footOk m = (!(b1 && b2) && b3 && writesOk m.ws)) := by
  show _ = _
  unfold footOk; rw [h1, h2, h3]
 rw [HU.out]; have H3 := hid h3; clear HU h3; have go : ∀ b1 b2 : Bool, (b1 = true ∧ b2 = true) ∨ (b1 = true ∧ b2 = false) ∨ b1 = false := by decide
 rcases go b1 b2 with ⟨rfl, rfl⟩ | e
 ·go_enter Tryz.func126, Tryz.ntmps126
  go_wp2_with fail
  go_ret
  exact ⟨rtb (by simp), by (repeat (first | exact Below.refl _ _ | assumption | refine Below.drew ?_ | refine Below.al ?_ _ | refine Below.setCell ?_ (by first | exact Nat.le_refl _ | simp <;> omega) _ | refine Below.on ?_ (by assumption)))⟩
 ·rcases e with ⟨rfl, rfl⟩ | rfl
  all_goals
   clear go; go_enter Tryz.func126, Tryz.ntmps126
   go_wp2_with fail
   refine (validReads_is H3.out H.out.r H.out.rl).mono ?_; rintro e w1 ⟨rfl, hw1⟩; cases b3
   ·go_wp2_with fail
    go_ret
    exact ⟨rtb (by simp), hw1⟩
   ·go_wp2_with fail
    refine (validWrites_is rfl (H.out.later hw1).w H.out.wl).mono ?_; rintro e w2 ⟨rfl, hw2⟩; go_wp2_with fail
    go_ret
    exact ⟨rtb (by simp), Below.on hw1 hw2⟩
theorem verd_is {m : Rg} {w : World} {u : Bool} (hu : verdOk m = u) :
  Calls Tryz.prog 127 #[.int .i64 m.oc, stv m.w m.l m.n] w fun e w' => e = .returned (.bool u) ∧ Below w.heap.size w w' := by
 subst hu; unfold verdOk; by_cases g1 : m.oc = 1
 ·rw [if_pos g1]; have q1 : (m.oc == 1) = true := by rw [g1]; rfl
  clear g1; go_enter Tryz.func127, Tryz.ntmps127
  go_wp2_with fail
  refine (usable_is _).mono ?_; rintro e w1 ⟨rfl, hw1⟩; go_wp2_with fail
  go_ret
  exact ⟨rtb (by simp), Below.on (Below.al (Below.refl _ _) _) hw1⟩
 rw [if_neg g1]; have q1 : (m.oc == 1) = false := beq_eq_false_iff_ne.2 g1; clear g1; by_cases g2 : m.oc = 2
 ·rw [if_pos g2]; have q2 : (m.oc == 2) = true := by rw [g2]; rfl
  clear g2; have e5 := fun w => run_eq m.w m.l m.n 0 0 0 w
  go_enter Tryz.func127, Tryz.ntmps127
  go_wp2_with fail
  go_ret
  exact ⟨rtb (by simp), by (repeat (first | exact Below.refl _ _ | assumption | refine Below.drew ?_ | refine Below.al ?_ _ | refine Below.setCell ?_ (by first | exact Nat.le_refl _ | simp <;> omega) _ | refine Below.on ?_ (by assumption)))⟩
 rw [if_neg g2]; have q2 : (m.oc == 2) = false := beq_eq_false_iff_ne.2 g2; clear g2; go_enter Tryz.func127, Tryz.ntmps127
 go_wp2_with fail
 go_ret
 exact ⟨rtb (by simp), by (repeat (first | exact Below.refl _ _ | assumption | refine Below.drew ?_ | refine Below.al ?_ _ | refine Below.setCell ?_ (by first | exact Nat.le_refl _ | simp <;> omega) _ | refine Below.on ?_ (by assumption)))⟩
theorem bare_1 {m : Rg} (hk : m.k = 1) (w : World) :
  Calls Tryz.prog 63 #[m.val] w fun e w' => e = .returned m.bare.val ∧ Below w.heap.size w w' := by
 have q1 : (m.k == 1) = true := by rw [hk]; rfl
 have hv : m.bare.val = .agg #[.int .i64 m.k, .int .u64 (0), .int .u32 (m.c), .int .u32 (m.s), .int .u32 (m.h), .int .i64 (m.oc), .int .u64 (m.w), .int .u32 (m.l), .int .u32 (m.n), .slice m.ra m.rs.length m.rc, .slice m.wa m.ws.length m.wc, .string m.im] := by
  have : m.bare = { m with x := 0 } := by unfold Rg.bare; rw [if_pos hk]
  exact congrArg Rg.val this
 rw [hv]; clear hv hk; go_enter Tryz.func63, Tryz.ntmps63
 go_wp2_with fail
 refine bodyPost_ret (v := .agg #[.int .i64 m.k, .int .u64 (0), .int .u32 (m.c), .int .u32 (m.s), .int .u32 (m.h), .int .i64 (m.oc), .int .u64 (m.w), .int .u32 (m.l), .int .u32 (m.n), .slice m.ra m.rs.length m.rc, .slice m.wa m.ws.length m.wc, .string m.im]) (by simp [results, Tryz.results63, go_sem]) rfl ⟨rfl, ?_⟩
 (repeat (first | exact Below.refl _ _ | assumption | refine Below.drew ?_ | refine Below.al ?_ _ | refine Below.setCell ?_ (by first | exact Nat.le_refl _ | simp <;> omega) _ | refine Below.on ?_ (by assumption)))
theorem bare_2 {m : Rg} (hk : m.k = 2) (w : World) :
  Calls Tryz.prog 63 #[m.val] w fun e w' => e = .returned m.bare.val ∧ Below w.heap.size w w' := by
 have q1 : (m.k == 1) = false := by rw [hk]; rfl
 have q2 : (m.k == 2) = true := by rw [hk]; rfl
 have hv : m.bare.val = .agg #[.int .i64 m.k, .int .u64 (m.x), .int .u32 (0), .int .u32 (0), .int .u32 (0), .int .i64 (m.oc), .int .u64 (0), .int .u32 (0), .int .u32 (0), .slice none 0 0, .slice none 0 0, .string m.im] := by
  have : m.bare = { m with c := 0, s := 0, h := 0, w := 0, l := 0, n := 0, ra := none, rs := [], rc := 0, wa := none, ws := [], wc := 0 } := by unfold Rg.bare; rw [if_neg (by rw [hk]; decide), if_pos hk]
  exact congrArg Rg.val this
 rw [hv]; clear hv hk; go_enter Tryz.func63, Tryz.ntmps63
 go_wp2_with fail
 refine bodyPost_ret (v := .agg #[.int .i64 m.k, .int .u64 (m.x), .int .u32 (0), .int .u32 (0), .int .u32 (0), .int .i64 (m.oc), .int .u64 (0), .int .u32 (0), .int .u32 (0), .slice none 0 0, .slice none 0 0, .string m.im]) (by simp [results, Tryz.results63, go_sem]) rfl ⟨rfl, ?_⟩
 (repeat (first | exact Below.refl _ _ | assumption | refine Below.drew ?_ | refine Below.al ?_ _ | refine Below.setCell ?_ (by first | exact Nat.le_refl _ | simp <;> omega) _ | refine Below.on ?_ (by assumption)))
theorem bare_3 {m : Rg} (hk : m.k = 3) (w : World) :
  Calls Tryz.prog 63 #[m.val] w fun e w' => e = .returned m.bare.val ∧ Below w.heap.size w w' := by
 have q1 : (m.k == 1) = false := by rw [hk]; rfl
 have q2 : (m.k == 2) = false := by rw [hk]; rfl
 have q3 : (m.k == 3) = true := by rw [hk]; rfl
 have hv : m.bare.val = .agg #[.int .i64 m.k, .int .u64 (m.x), .int .u32 (0), .int .u32 (0), .int .u32 (0), .int .i64 (0), .int .u64 (0), .int .u32 (0), .int .u32 (0), .slice m.ra m.rs.length m.rc, .slice m.wa m.ws.length m.wc, .string m.im] := by
  have : m.bare = { m with c := 0, s := 0, h := 0, oc := 0, w := 0, l := 0, n := 0 } := by unfold Rg.bare; rw [if_neg (by rw [hk]; decide), if_neg (by rw [hk]; decide), if_pos hk]
  exact congrArg Rg.val this
 rw [hv]; clear hv hk; go_enter Tryz.func63, Tryz.ntmps63
 go_wp2_with fail
 refine bodyPost_ret (v := .agg #[.int .i64 m.k, .int .u64 (m.x), .int .u32 (0), .int .u32 (0), .int .u32 (0), .int .i64 (0), .int .u64 (0), .int .u32 (0), .int .u32 (0), .slice m.ra m.rs.length m.rc, .slice m.wa m.ws.length m.wc, .string m.im]) (by simp [results, Tryz.results63, go_sem]) rfl ⟨rfl, ?_⟩
 (repeat (first | exact Below.refl _ _ | assumption | refine Below.drew ?_ | refine Below.al ?_ _ | refine Below.setCell ?_ (by first | exact Nat.le_refl _ | simp <;> omega) _ | refine Below.on ?_ (by assumption)))
theorem bare_4 {m : Rg} (hk : m.k = 4) (w : World) :
  Calls Tryz.prog 63 #[m.val] w fun e w' => e = .returned m.bare.val ∧ Below w.heap.size w w' := by
 have q1 : (m.k == 1) = false := by rw [hk]; rfl
 have q2 : (m.k == 2) = false := by rw [hk]; rfl
 have q3 : (m.k == 3) = false := by rw [hk]; rfl
 have q4 : (m.k == 4) = true := by rw [hk]; rfl
 have hv : m.bare.val = .agg #[.int .i64 m.k, .int .u64 (m.x), .int .u32 (m.c), .int .u32 (m.s), .int .u32 (m.h), .int .i64 (m.oc), .int .u64 (0), .int .u32 (0), .int .u32 (0), .slice m.ra m.rs.length m.rc, .slice m.wa m.ws.length m.wc, .string m.im] := by
  have : m.bare = { m with w := 0, l := 0, n := 0 } := by unfold Rg.bare; rw [if_neg (by rw [hk]; decide), if_neg (by rw [hk]; decide), if_neg (by rw [hk]; decide), if_pos hk]
  exact congrArg Rg.val this
 rw [hv]; clear hv hk; go_enter Tryz.func63, Tryz.ntmps63
 go_wp2_with fail
 refine bodyPost_ret (v := .agg #[.int .i64 m.k, .int .u64 (m.x), .int .u32 (m.c), .int .u32 (m.s), .int .u32 (m.h), .int .i64 (m.oc), .int .u64 (0), .int .u32 (0), .int .u32 (0), .slice m.ra m.rs.length m.rc, .slice m.wa m.ws.length m.wc, .string m.im]) (by simp [results, Tryz.results63, go_sem]) rfl ⟨rfl, ?_⟩
 (repeat (first | exact Below.refl _ _ | assumption | refine Below.drew ?_ | refine Below.al ?_ _ | refine Below.setCell ?_ (by first | exact Nat.le_refl _ | simp <;> omega) _ | refine Below.on ?_ (by assumption)))
theorem bare_5 {m : Rg} (hk : m.k = 5) (w : World) :
  Calls Tryz.prog 63 #[m.val] w fun e w' => e = .returned m.bare.val ∧ Below w.heap.size w w' := by
 have q1 : (m.k == 1) = false := by rw [hk]; rfl
 have q2 : (m.k == 2) = false := by rw [hk]; rfl
 have q3 : (m.k == 3) = false := by rw [hk]; rfl
 have q4 : (m.k == 4) = false := by rw [hk]; rfl
 have q5 : (m.k == 5) = true := by rw [hk]; rfl
 have hv : m.bare.val = .agg #[.int .i64 m.k, .int .u64 (m.x), .int .u32 (m.c), .int .u32 (m.s), .int .u32 (m.h), .int .i64 (m.oc), .int .u64 (m.w), .int .u32 (m.l), .int .u32 (m.n), .slice m.ra m.rs.length m.rc, .slice m.wa m.ws.length m.wc, .string ⟨#[]⟩] := by
  have : m.bare = { m with im := ⟨#[]⟩ } := by unfold Rg.bare; rw [if_neg (by rw [hk]; decide), if_neg (by rw [hk]; decide), if_neg (by rw [hk]; decide), if_neg (by rw [hk]; decide), if_pos hk]
  exact congrArg Rg.val this
 rw [hv]; clear hv hk; go_enter Tryz.func63, Tryz.ntmps63
 go_wp2_with fail
 refine bodyPost_ret (v := .agg #[.int .i64 m.k, .int .u64 (m.x), .int .u32 (m.c), .int .u32 (m.s), .int .u32 (m.h), .int .i64 (m.oc), .int .u64 (m.w), .int .u32 (m.l), .int .u32 (m.n), .slice m.ra m.rs.length m.rc, .slice m.wa m.ws.length m.wc, .string ⟨#[]⟩]) (by simp [results, Tryz.results63, go_sem]) rfl ⟨rfl, ?_⟩
 (repeat (first | exact Below.refl _ _ | assumption | refine Below.drew ?_ | refine Below.al ?_ _ | refine Below.setCell ?_ (by first | exact Nat.le_refl _ | simp <;> omega) _ | refine Below.on ?_ (by assumption)))
theorem bare_0 {m : Rg} (g1 : m.k ≠ 1) (g2 : m.k ≠ 2) (g3 : m.k ≠ 3) (g4 : m.k ≠ 4) (g5 : m.k ≠ 5) (w : World) :
  Calls Tryz.prog 63 #[m.val] w fun e w' => e = .returned m.bare.val ∧ Below w.heap.size w w' := by
 have q1 : (m.k == 1) = false := beq_eq_false_iff_ne.2 g1; have q2 : (m.k == 2) = false := beq_eq_false_iff_ne.2 g2; have q3 : (m.k == 3) = false := beq_eq_false_iff_ne.2 g3; have q4 : (m.k == 4) = false := beq_eq_false_iff_ne.2 g4; have q5 : (m.k == 5) = false := beq_eq_false_iff_ne.2 g5; have hv : m.bare.val = .agg #[.int .i64 m.k, .int .u64 (m.x), .int .u32 (m.c), .int .u32 (m.s), .int .u32 (m.h), .int .i64 (m.oc), .int .u64 (m.w), .int .u32 (m.l), .int .u32 (m.n), .slice m.ra m.rs.length m.rc, .slice m.wa m.ws.length m.wc, .string m.im] := by
  have : m.bare = m := by unfold Rg.bare; rw [if_neg g1, if_neg g2, if_neg g3, if_neg g4, if_neg g5]
  exact congrArg Rg.val this
 rw [hv]; clear hv g1 g2 g3 g4 g5; go_enter Tryz.func63, Tryz.ntmps63
 go_wp2_with fail
 refine bodyPost_ret (v := .agg #[.int .i64 m.k, .int .u64 (m.x), .int .u32 (m.c), .int .u32 (m.s), .int .u32 (m.h), .int .i64 (m.oc), .int .u64 (m.w), .int .u32 (m.l), .int .u32 (m.n), .slice m.ra m.rs.length m.rc, .slice m.wa m.ws.length m.wc, .string m.im]) (by simp [results, Tryz.results63, go_sem]) rfl ⟨rfl, ?_⟩
 (repeat (first | exact Below.refl _ _ | assumption | refine Below.drew ?_ | refine Below.al ?_ _ | refine Below.setCell ?_ (by first | exact Nat.le_refl _ | simp <;> omega) _ | refine Below.on ?_ (by assumption)))
theorem bare_is (m : Rg) (w : World) : Calls Tryz.prog 63 #[m.val] w fun e w' => e = .returned m.bare.val ∧ Below w.heap.size w w' := by
 by_cases g1 : m.k = 1
 ·exact bare_1 g1 w
 by_cases g2 : m.k = 2
 ·exact bare_2 g2 w
 by_cases g3 : m.k = 3
 ·exact bare_3 g3 w
 by_cases g4 : m.k = 4
 ·exact bare_4 g4 w
 by_cases g5 : m.k = 5
 ·exact bare_5 g5 w
 exact bare_0 g1 g2 g3 g4 g5 w
theorem may_1 {m : Rg} {w : World} (h : m.ok w) (hk : m.k = 1) :
  Calls Tryz.prog 61 #[m.val] w fun e w' => e = .returned (.bool (true)) ∧ Below w.heap.size w w' := by
 have q1 : (m.k == 1) = true := by rw [hk]; rfl
 clear hk; obtain ⟨wa, hwa⟩ : ∃ wa, wa = w.alloc (.cells m.cells 40) := ⟨_, rfl⟩; have hba : Below w.heap.size w wa := by rw [hwa]; exact Below.al (Below.refl _ _) _
 have hbx : BoxG wa w.heap.size m := by rw [hwa]; exact boxG w m _
 have HOK := hid (h.later hba); have HB := hid hbx; have HBA := hid hba; have HW := hid hwa; have c0 := HB.out.c0; have c1 := HB.out.c1; have c2 := HB.out.c2; have c3 := HB.out.c3; have c4 := HB.out.c4; have c5 := HB.out.c5; have c6 := HB.out.c6; have c7 := HB.out.c7; have c8 := HB.out.c8; have c9 := HB.out.c9; have c10 := HB.out.c10; have c11 := HB.out.c11
 clear h hba hbx hwa; go_enter Tryz.func61, Tryz.ntmps61
 go_wp2_with fail
 go_ret
 exact ⟨rtb (by simp), by rw [← HW.out]; exact HBA.out⟩
theorem may_0 {m : Rg} {w : World} (h : m.ok w) (g1 : m.k ≠ 1) (g2 : m.k ≠ 2) (g3 : m.k ≠ 3) (g4 : m.k ≠ 4) (g5 : m.k ≠ 5) :
  Calls Tryz.prog 61 #[m.val] w fun e w' => e = .returned (.bool (false)) ∧ Below w.heap.size w w' := by
 have q1 : (m.k == 1) = false := beq_eq_false_iff_ne.2 g1; have q2 : (m.k == 2) = false := beq_eq_false_iff_ne.2 g2; have q3 : (m.k == 3) = false := beq_eq_false_iff_ne.2 g3; have q4 : (m.k == 4) = false := beq_eq_false_iff_ne.2 g4; have q5 : (m.k == 5) = false := beq_eq_false_iff_ne.2 g5; clear g1 g2 g3 g4 g5; obtain ⟨wa, hwa⟩ : ∃ wa, wa = w.alloc (.cells m.cells 40) := ⟨_, rfl⟩; have hba : Below w.heap.size w wa := by rw [hwa]; exact Below.al (Below.refl _ _) _
 have hbx : BoxG wa w.heap.size m := by rw [hwa]; exact boxG w m _
 have HOK := hid (h.later hba); have HB := hid hbx; have HBA := hid hba; have HW := hid hwa; have c0 := HB.out.c0; have c1 := HB.out.c1; have c2 := HB.out.c2; have c3 := HB.out.c3; have c4 := HB.out.c4; have c5 := HB.out.c5; have c6 := HB.out.c6; have c7 := HB.out.c7; have c8 := HB.out.c8; have c9 := HB.out.c9; have c10 := HB.out.c10; have c11 := HB.out.c11
 clear h hba hbx hwa; go_enter Tryz.func61, Tryz.ntmps61
 go_wp2_with fail
 go_ret
 exact ⟨rtb (by simp), by rw [← HW.out]; exact HBA.out⟩
theorem may_5 {m : Rg} {w : World} (h : m.ok w) (hk : m.k = 5) :
  Calls Tryz.prog 61 #[m.val] w fun e w' => e = .returned (.bool (decide (m.im.size ≤ 1048560))) ∧ Below w.heap.size w w' := by
 have q1 : (m.k == 1) = false := by rw [hk]; rfl
 have q2 : (m.k == 2) = false := by rw [hk]; rfl
 have q3 : (m.k == 3) = false := by rw [hk]; rfl
 have q4 : (m.k == 4) = false := by rw [hk]; rfl
 have q5 : (m.k == 5) = true := by rw [hk]; rfl
 clear hk; obtain ⟨wa, hwa⟩ : ∃ wa, wa = w.alloc (.cells m.cells 40) := ⟨_, rfl⟩; have hba : Below w.heap.size w wa := by rw [hwa]; exact Below.al (Below.refl _ _) _
 have hbx : BoxG wa w.heap.size m := by rw [hwa]; exact boxG w m _
 have HOK := hid (h.later hba); have HB := hid hbx; have HBA := hid hba; have HW := hid hwa; have c0 := HB.out.c0; have c1 := HB.out.c1; have c2 := HB.out.c2; have c3 := HB.out.c3; have c4 := HB.out.c4; have c5 := HB.out.c5; have c6 := HB.out.c6; have c7 := HB.out.c7; have c8 := HB.out.c8; have c9 := HB.out.c9; have c10 := HB.out.c10; have c11 := HB.out.c11
 clear h hba hbx hwa; go_enter Tryz.func61, Tryz.ntmps61
 go_wp2_with fail
 go_ret
 exact ⟨rtb (by rw [Bool.eq_iff_iff, decide_eq_true_iff, decide_eq_true_iff]; omega), by rw [← HW.out]; exact HBA.out⟩
theorem may_4 {m : Rg} {w : World} (h : m.ok w) (hk : m.k = 4) :
  Calls Tryz.prog 61 #[m.val] w fun e w' => e = .returned (.bool (decide (m.w < 18446744073709551615))) ∧ Below w.heap.size w w' := by
 have q1 : (m.k == 1) = false := by rw [hk]; rfl
 have q2 : (m.k == 2) = false := by rw [hk]; rfl
 have q3 : (m.k == 3) = false := by rw [hk]; rfl
 have q4 : (m.k == 4) = true := by rw [hk]; rfl
 clear hk; obtain ⟨wa, hwa⟩ : ∃ wa, wa = w.alloc (.cells m.cells 40) := ⟨_, rfl⟩; have hba : Below w.heap.size w wa := by rw [hwa]; exact Below.al (Below.refl _ _) _
 have hbx : BoxG wa w.heap.size m := by rw [hwa]; exact boxG w m _
 have HOK := hid (h.later hba); have HB := hid hbx; have HBA := hid hba; have HW := hid hwa; have c0 := HB.out.c0; have c1 := HB.out.c1; have c2 := HB.out.c2; have c3 := HB.out.c3; have c4 := HB.out.c4; have c5 := HB.out.c5; have c6 := HB.out.c6; have c7 := HB.out.c7; have c8 := HB.out.c8; have c9 := HB.out.c9; have c10 := HB.out.c10; have c11 := HB.out.c11
 clear h hba hbx hwa; go_enter Tryz.func61, Tryz.ntmps61
 go_wp2_with fail
 rw [← HW.out]; refine (usable_is _).mono ?_; rintro e w1 ⟨rfl, hw1⟩; go_wp2_with fail
 go_ret
 exact ⟨rtb (by simp), Below.on HBA.out hw1⟩
theorem may_3 {m : Rg} {w : World} (h : m.ok w) (hk : m.k = 3) :
  Calls Tryz.prog 61 #[m.val] w fun e w' => e = .returned (.bool (decide (1 ≤ m.s) && verdOk m)) ∧ Below w.heap.size w w' := by
 have q1 : (m.k == 1) = false := by rw [hk]; rfl
 have q2 : (m.k == 2) = false := by rw [hk]; rfl
 have q3 : (m.k == 3) = true := by rw [hk]; rfl
 clear hk; obtain ⟨wa, hwa⟩ : ∃ wa, wa = w.alloc (.cells m.cells 40) := ⟨_, rfl⟩; have hba : Below w.heap.size w wa := by rw [hwa]; exact Below.al (Below.refl _ _) _
 have hbx : BoxG wa w.heap.size m := by rw [hwa]; exact boxG w m _
 have HOK := hid (h.later hba); have HB := hid hbx; have HBA := hid hba; have HW := hid hwa; have c0 := HB.out.c0; have c1 := HB.out.c1; have c2 := HB.out.c2; have c3 := HB.out.c3; have c4 := HB.out.c4; have c5 := HB.out.c5; have c6 := HB.out.c6; have c7 := HB.out.c7; have c8 := HB.out.c8; have c9 := HB.out.c9; have c10 := HB.out.c10; have c11 := HB.out.c11
 clear h hba hbx hwa; obtain ⟨b1, h1⟩ : ∃ b, decide (1 ≤ m.s) = b := ⟨_, rfl⟩; rw [h1]; have H1 := hid h1; clear h1; go_enter Tryz.func61, Tryz.ntmps61
 go_wp2_with fail
 rw [← HW.out]; refine (txn_is _).mono ?_; rintro e w1 ⟨rfl, hw1⟩; rw [H1.out]; clear c0 c1 c2 c3 c4 c5 c6 c7 c8 c9 c10 c11; have c0 := (HB.out.later hw1).c0; have c1 := (HB.out.later hw1).c1; have c2 := (HB.out.later hw1).c2; have c3 := (HB.out.later hw1).c3; have c4 := (HB.out.later hw1).c4; have c5 := (HB.out.later hw1).c5; have c6 := (HB.out.later hw1).c6; have c7 := (HB.out.later hw1).c7; have c8 := (HB.out.later hw1).c8; have c9 := (HB.out.later hw1).c9; have c10 := (HB.out.later hw1).c10; have c11 := (HB.out.later hw1).c11
 cases b1
 ·go_wp2_with fail
  go_ret
  exact ⟨rtb (by simp), Below.on HBA.out hw1⟩
 ·go_wp2_with fail
  refine (verd_is rfl).mono ?_; rintro e w2 ⟨rfl, hw2⟩; go_wp2_with fail
  go_ret
  exact ⟨rtb (by simp), Below.on (Below.on HBA.out hw1) hw2⟩
theorem may_2 {m : Rg} {w : World} (h : m.ok w) (hk : m.k = 2) :
  Calls Tryz.prog 61 #[m.val] w fun e w' => e = .returned (.bool (decide (1 ≤ m.s) && decide (m.w < 18446744073709551615) && footOk m)) ∧ Below w.heap.size w w' := by
 have q1 : (m.k == 1) = false := by rw [hk]; rfl
 have q2 : (m.k == 2) = true := by rw [hk]; rfl
 clear hk; obtain ⟨wa, hwa⟩ : ∃ wa, wa = w.alloc (.cells m.cells 40) := ⟨_, rfl⟩; have hba : Below w.heap.size w wa := by rw [hwa]; exact Below.al (Below.refl _ _) _
 have hbx : BoxG wa w.heap.size m := by rw [hwa]; exact boxG w m _
 have HOK := hid (h.later hba); have HB := hid hbx; have HBA := hid hba; have HW := hid hwa; have c0 := HB.out.c0; have c1 := HB.out.c1; have c2 := HB.out.c2; have c3 := HB.out.c3; have c4 := HB.out.c4; have c5 := HB.out.c5; have c6 := HB.out.c6; have c7 := HB.out.c7; have c8 := HB.out.c8; have c9 := HB.out.c9; have c10 := HB.out.c10; have c11 := HB.out.c11
 clear h hba hbx hwa; obtain ⟨b1, h1⟩ : ∃ b, decide (1 ≤ m.s) = b := ⟨_, rfl⟩; obtain ⟨b2, h2⟩ : ∃ b, decide (m.w < 18446744073709551615) = b := ⟨_, rfl⟩; rw [h1, h2]; have H1 := hid h1; have H2 := hid h2; clear h1 h2; go_enter Tryz.func61, Tryz.ntmps61
 go_wp2_with fail
 rw [← HW.out]; refine (txn_is _).mono ?_; rintro e w1 ⟨rfl, hw1⟩; rw [H1.out]; clear c0 c1 c2 c3 c4 c5 c6 c7 c8 c9 c10 c11; have c0 := (HB.out.later hw1).c0; have c1 := (HB.out.later hw1).c1; have c2 := (HB.out.later hw1).c2; have c3 := (HB.out.later hw1).c3; have c4 := (HB.out.later hw1).c4; have c5 := (HB.out.later hw1).c5; have c6 := (HB.out.later hw1).c6; have c7 := (HB.out.later hw1).c7; have c8 := (HB.out.later hw1).c8; have c9 := (HB.out.later hw1).c9; have c10 := (HB.out.later hw1).c10; have c11 := (HB.out.later hw1).c11
 cases b1
 ·go_wp2_with fail
  go_ret
  exact ⟨rtb (by simp), Below.on HBA.out hw1⟩
 go_wp2_with fail
 refine (usable_is _).mono ?_; rintro e w2 ⟨rfl, hw2⟩; rw [H2.out]; replace hw1 := Below.on hw1 hw2; clear hw2; clear c0 c1 c2 c3 c4 c5 c6 c7 c8 c9 c10 c11; have c0 := (HB.out.later hw1).c0; have c1 := (HB.out.later hw1).c1; have c2 := (HB.out.later hw1).c2; have c3 := (HB.out.later hw1).c3; have c4 := (HB.out.later hw1).c4; have c5 := (HB.out.later hw1).c5; have c6 := (HB.out.later hw1).c6; have c7 := (HB.out.later hw1).c7; have c8 := (HB.out.later hw1).c8; have c9 := (HB.out.later hw1).c9; have c10 := (HB.out.later hw1).c10; have c11 := (HB.out.later hw1).c11
 cases b2
 ·go_wp2_with fail
  go_ret
  exact ⟨rtb (by simp), Below.on HBA.out hw1⟩
 go_wp2_with fail
 refine (foot_is rfl (HOK.out.later hw1)).mono ?_; rintro e w2 ⟨rfl, hw2⟩; go_wp2_with fail
 go_ret
 exact ⟨rtb (by simp), Below.on (Below.on HBA.out hw1) hw2⟩
theorem may_is {m : Rg} {w : World} {u : Bool} (hu : m.may = u) (h : m.ok w) : Calls Tryz.prog 61 #[m.val] w fun e w' => e = .returned (.bool u) ∧ Below w.heap.size w w' := by
 subst hu; unfold Rg.may; by_cases g1 : m.k = 1
 ·rw [if_pos g1]; exact may_1 h g1
 rw [if_neg g1]; by_cases g2 : m.k = 2
 ·rw [if_pos g2]; exact may_2 h g2
 rw [if_neg g2]; by_cases g3 : m.k = 3
 ·rw [if_pos g3]; exact may_3 h g3
 rw [if_neg g3]; by_cases g4 : m.k = 4
 ·rw [if_pos g4]; exact may_4 h g4
 rw [if_neg g4]; by_cases g5 : m.k = 5
 ·rw [if_pos g5]; exact may_5 h g5
 rw [if_neg g5]; exact may_0 h g1 g2 g3 g4 g5
theorem sameT_iff (c s d t : Int) : sameT c s d t = true ↔ c = d ∧ s = t := by simp [sameT]
theorem sameB_iff' (a b c x y z : Int) : sameB a b c x y z = true ↔ a = x ∧ b = y ∧ c = z := by
 simp [sameB, Bool.and_eq_true]
theorem em_iff (a : ByteArray) : emS a = true ↔ a = ⟨#[]⟩ := by
 rw [em_size, decide_eq_true_iff]; constructor
 ·intro h; obtain ⟨d⟩ := a; have : d = #[] := Array.eq_empty_of_size_eq_zero h; rw [this]
 ·rintro rfl; rfl
theorem blank_iff (m : Rg) : m.blank = true ↔ m.x = 0 ∧ (m.c = 0 ∧ m.s = 0) ∧ m.h = 0 ∧ m.oc = 0 ∧ (m.w = 0 ∧ m.l = 0 ∧ m.n = 0) ∧ m.rs.length = 0 ∧ m.ws.length = 0 ∧ m.im = ⟨#[]⟩ := by
 unfold Rg.blank; simp only [Bool.and_eq_true, sameT_iff, sameB_iff', em_iff, beq_iff_eq]; constructor
 ·rintro ⟨⟨⟨⟨⟨⟨⟨a, b⟩, c⟩, d⟩, e⟩, f⟩, g⟩, i⟩; exact ⟨a, b, c, d, e, by omega, by omega, i⟩
 ·rintro ⟨a, b, c, d, e, f, g, i⟩; exact ⟨⟨⟨⟨⟨⟨⟨a, b⟩, c⟩, d⟩, e⟩, by omega⟩, by omega⟩, i⟩
theorem sameR_iff (m n : Rg) : sameR m n = true ↔ m.k = n.k ∧ m.x = n.x ∧ (m.c = n.c ∧ m.s = n.s) ∧ m.h = n.h ∧ m.oc = n.oc ∧ (m.w = n.w ∧ m.l = n.l ∧ m.n = n.n) ∧ m.im = n.im ∧ m.rs.length = n.rs.length ∧ m.ws.length = n.ws.length := by
 unfold sameR; simp only [Bool.and_eq_true, sameT_iff, sameB_iff', beq_iff_eq, decide_eq_true_iff, and_assoc]
theorem valid_eq {m : Rg} {w : World} (h : m.ok w) : (m.may && m.bare.blank) = m.valid := by
 obtain ⟨h1, h2, h3⟩ := h.rg; have hs : decide (1 ≤ m.s) = !(m.s == 0) := by rw [Bool.eq_iff_iff]; simp; omega
 have hw : decide (m.w < 18446744073709551615) = !(m.w == topW) := by rw [Bool.eq_iff_iff]; simp [topW]; omega
 unfold Rg.may Rg.bare Rg.valid Rg.rules Rg.named; by_cases g1 : m.k = 1
 ·simp only [if_pos g1, Bool.true_and, Bool.and_true]; rw [Bool.eq_iff_iff, blank_iff, sameR_iff]; simp [Rg.zero]; grind
 simp only [if_neg g1]; by_cases g2 : m.k = 2
 ·simp only [if_pos g2]; have e : (({ m with c := 0, s := 0, h := 0, w := 0, l := 0, n := 0, ra := none, rs := [], rc := 0, wa := none, ws := [], wc := 0 } : Rg)).blank = sameR m { m with x := 0, oc := 0, im := ⟨#[]⟩ } := by
   rw [Bool.eq_iff_iff, blank_iff, sameR_iff]; simp
  rw [e, hs, hw, footOk, Bool.and_comm, show decide (m.rs.length = 0) = ((m.rs.length : Int) == 0) by rw [Bool.eq_iff_iff]; simp, show decide (m.ws.length = 0) = ((m.ws.length : Int) == 0) by rw [Bool.eq_iff_iff]; simp]; simp only [Bool.and_assoc]
 simp only [if_neg g2]; by_cases g3 : m.k = 3
 ·simp only [if_pos g3]; have e : (({ m with c := 0, s := 0, h := 0, oc := 0, w := 0, l := 0, n := 0 } : Rg)).blank = sameR m { Rg.zero with k := m.k, c := m.c, s := m.s, h := m.h, oc := m.oc, w := m.w, l := m.l, n := m.n } := by
   rw [Bool.eq_iff_iff, blank_iff, sameR_iff]; simp [Rg.zero]; grind
  rw [e, hs, Bool.and_comm]; have ev : verdOk m = ((m.oc == 1 && !(m.w == topW)) || (m.oc == 2 && (m.w == 0 && m.l == 0 && m.n == 0))) := by
   unfold verdOk; by_cases o1 : m.oc = 1
   ·rw [if_pos o1, hw]; simp [o1]
   rw [if_neg o1]; by_cases o2 : m.oc = 2
   ·rw [if_pos o2, Bool.eq_iff_iff, sameB_iff']; simp [o2, and_assoc]
   ·rw [if_neg o2]; simp [o1, o2]
  rw [ev]
 simp only [if_neg g3]; by_cases g4 : m.k = 4
 ·simp only [if_pos g4]; have e : (({ m with w := 0, l := 0, n := 0 } : Rg)).blank = sameR m { Rg.zero with k := m.k, w := m.w, l := m.l, n := m.n } := by
   rw [Bool.eq_iff_iff, blank_iff, sameR_iff]; simp [Rg.zero]; grind
  rw [e, hw, Bool.and_comm]
 simp only [if_neg g4]; by_cases g5 : m.k = 5
 ·simp only [if_pos g5]; have e : (({ m with im := ⟨#[]⟩ } : Rg)).blank = sameR m { Rg.zero with k := m.k, im := m.im } := by
   rw [Bool.eq_iff_iff, blank_iff, sameR_iff]; simp [Rg.zero]
  rw [e, Bool.and_comm]
 simp only [if_neg g5, Bool.false_and, Bool.and_false]
theorem walvalid_is (w : World) (m : Rg) (h : m.ok w) : Calls Tryz.prog 30 #[m.val] w fun e w' => e = .returned (.int .i64 m.err) ∧ Below w.heap.size w w' := by
 obtain ⟨b1, h1⟩ : ∃ b, m.may = b := ⟨_, rfl⟩; obtain ⟨b2, h2⟩ : ∃ b, m.bare.blank = b := ⟨_, rfl⟩; have he : m.err = if (b1 && b2) then 0 else 70 := by unfold Rg.err; rw [← valid_eq h, h1, h2]
 rw [he]; obtain ⟨wa, hwa⟩ : ∃ wa, wa = w.alloc (.cells m.cells 40) := ⟨_, rfl⟩; have hba : Below w.heap.size w wa := by rw [hwa]; exact Below.al (Below.refl _ _) _
 have hbx : BoxG wa w.heap.size m := by rw [hwa]; exact boxG w m _
 have HOK := hid (h.later hba); have HB := hid hbx; have HBA := hid hba; have HW := hid hwa; have H1 := hid h1; have H2 := hid h2; clear h hba hbx hwa h1 h2 he; go_enter Tryz.func30, Tryz.ntmps30
 go_wp2_with fail
 rw [← HW.out]; refine (may_is H1.out HOK.out).mono ?_; rintro e w1 ⟨rfl, hw1⟩; have c0 := (HB.out.later hw1).c0; have c1 := (HB.out.later hw1).c1; have c2 := (HB.out.later hw1).c2; have c3 := (HB.out.later hw1).c3; have c4 := (HB.out.later hw1).c4; have c5 := (HB.out.later hw1).c5; have c6 := (HB.out.later hw1).c6; have c7 := (HB.out.later hw1).c7; have c8 := (HB.out.later hw1).c8; have c9 := (HB.out.later hw1).c9; have c10 := (HB.out.later hw1).c10; have c11 := (HB.out.later hw1).c11
 cases b1
 ·go_wp2_with fail
  go_ret
  exact ⟨rfl, Below.on HBA.out hw1⟩
 go_wp2_with fail
 refine (bare_is m _).mono ?_; rintro e w2 ⟨rfl, hw2⟩; go_wp2_with fail
 refine (blank_is H2.out).mono ?_; rintro e w3 ⟨rfl, hw3⟩; have HB3 := hid (Below.on (Below.on (Below.on HBA.out hw1) hw2) hw3); cases b2
 ·go_wp2_with fail
  go_ret
  exact ⟨rfl, HB3.out⟩
 ·go_wp2_with fail
  go_ret
  exact ⟨rfl, HB3.out⟩
end
namespace Ys
open Go.RowKit Go.Sort
abbrev zero (node : Int) : Ps := ⟨node, 0, [], [], [], ⟨0, 0, 0⟩, false, ⟨0, 0, 0⟩⟩
theorem stT_state : Vs.StT SS := ⟨fun k => by rcases k with e | e | e <;> exact absurd e (by decide), by decide⟩
end Ys
end Go.Proofs.YtofpaldolcnmiaaGreat
