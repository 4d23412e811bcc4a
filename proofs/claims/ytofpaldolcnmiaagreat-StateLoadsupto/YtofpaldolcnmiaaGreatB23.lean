import Derived.Test.YtofpaldolcnmiaaGreatB22
set_option linter.unusedVariables false
set_option maxHeartbeats 1000000
namespace Go.Proofs.YtofpaldolcnmiaaGreat
section
open Go.RowKit Go.Sort
structure MaxAt (w wr : World) (N : Nat) (m : St) : Prop where
 below : Below w.heap.size w wr
 base : w.heap.size ≤ N
 size : N + 2 ≤ wr.heap.size
 res : StampAt wr N 0 0 0
 great : StampAt wr (N + 1) m.w m.l m.n
 loose : Loose wr N
 loose1 : Loose wr (N + 1)
theorem MaxAt.later {w wr wc : World} {N : Nat} {m : St} (R : MaxAt w wr N m) (hb : Below wr.heap.size wr wc) : MaxAt w wc N m :=
 ⟨Below.on R.below hb, R.base, Nat.le_trans R.size hb.size, R.res.later hb, R.great.later hb, R.loose.later hb (by have := R.size; omega), R.loose1.later hb (by have := R.size; omega)⟩
theorem MaxAt.put {w wr : World} {N : Nat} {m : St} (R : MaxAt w wr N m) (x : St) : MaxAt w (putStamp wr (N + 1) x.w x.l x.n) N x :=
 ⟨Below.put R.below (by have := R.base; omega) _ _ _, R.base, by simpa [putStamp, World.setCell] using R.size,
  ⟨cell_put _ _ _ (by omega) R.res.1, cell_put _ _ _ (by omega) R.res.2.1, cell_put _ _ _ (by omega) R.res.2.2⟩, R.great.put _ _ _, R.loose.put _ _ _, R.loose1.put _ _ _⟩
theorem max_any (a : Option Addr) (c : Nat) (xs : List St) (w : World) (h : Row w a xs) (hl : xs.length ≤ 9223372036854775807) :
  Calls Tryz.prog 192 #[.slice a xs.length c] w fun e w' => e = .returned (maxSt zst xs).val ∧ Below w.heap.size w w' := by
 go_enter Tryz.func192, Tryz.ntmps192
 go_wp2_with fail
 go_loopg [8] xs.length (fun g s8 wr => ∃ k : Nat, k ≤ xs.length ∧ g = xs.length - k ∧ s8 = .int .i64 k ∧ MaxAt w wr w.heap.size (maxSt zst (xs.take k)))
 case atStart =>
  refine ⟨0, by omega, by omega, rfl, ?_, Nat.le_refl _, by simp, ?_, ?_, fun o => by simp [go_sem], fun o => by simp [go_sem]⟩
  ·exact ((Below.refl _ _).alloc (Nat.le_refl _) _).alloc (by simp) _
  ·refine ⟨?_, ?_, ?_⟩ <;> (simp [go_sem]; done)
  ·refine ⟨?_, ?_, ?_⟩ <;> (simp [go_sem, maxSt, zst]; done)
 case round =>
  obtain ⟨k, hk, rfl, rfl, R⟩ := hrel; obtain ⟨m, hm⟩ : ∃ m, m = maxSt zst (xs.take k) := ⟨_, rfl⟩; rw [← hm] at R; have ⟨g0, g1, g2⟩ := R.great; have ⟨r0, r1, r2⟩ := R.res; have f1 : ∀ o, wr.frozen? ⟨w.heap.size + 1, o, none⟩ = false := R.loose1; have f0 : ∀ o, wr.frozen? ⟨w.heap.size, o, none⟩ = false := R.loose; by_cases hlt : k < xs.length
  ·have hs := maxSt_snoc (xs.take k) (nth xs k) zst; rw [← nth_take hlt, ← hm] at hs; have HS := hid hs; obtain ⟨b, off, rfl, c0, c1, c2⟩ := (h.later R.below) k hlt; obtain ⟨x, hx⟩ : ∃ x, x = nth xs k := ⟨_, rfl⟩; rw [← hx] at c0 c1 c2 HS; have hsz := R.size; have hN0 : w.heap.size < wr.heap.size := by omega
   have hN1 : w.heap.size + 1 < wr.heap.size := by omega
   have A5 : StampAt (wr.alloc (.cells #[.int .u64 x.w, .int .u32 x.l, .int .u32 x.n] 36)) wr.heap.size x.w x.l x.n := by
    refine ⟨?_, ?_, ?_⟩ <;> (simp [go_sem]; done)
   clear hs hx hm hsz; go_wp2_with fail
   have hless : ∃ u, lessB m.w m.l m.n x.w x.l x.n = u := ⟨_, rfl⟩; obtain ⟨u, hu⟩ := hless; refine (less_is hu _).mono ?_; rintro e w1 ⟨rfl, hw1⟩; have R1 := (R.later (Below.al (Below.refl _ _) _)).later hw1; have A1 := A5.later hw1; have ⟨g0, g1, g2⟩ := R1.great; have ⟨s0, s1, s2⟩ := A1; have f1 : ∀ o, w1.frozen? ⟨w.heap.size + 1, o, none⟩ = false := R1.loose1; have HU : Hid (m.less x = u) := hu; clear hu A5 hw1 R A1 hN0 hN1 r0 r1 r2 f0 c0 c1 c2; cases u
   all_goals
    go_wp2_with fail
    go_roundg (xs.length - (k + 1))
    case measure => omega
   ·refine ⟨k + 1, by omega, rfl, by go_num, ?_⟩; rw [HS.out, HU.out]; exact R1
   ·refine ⟨k + 1, by omega, rfl, by go_num, ?_⟩; rw [HS.out, HU.out]; exact R1.put x
  ·obtain rfl : k = xs.length := by omega
   rw [List.take_of_length_le (Nat.le_refl _)] at hm; have hsz := R.size; go_wp2_with fail
   rw [← hm]; refine bodyPost_ret (v := m.val) (by simp [results, Tryz.results192, go_sem, r0, r1, r2]) rfl ⟨rfl, ?_⟩; exact Below.put R.below (Nat.le_refl _) m.w m.l m.n
end
namespace Ys
open Go.RowKit Go.Sort
theorem row2 {w : World} {b : Nat} (s t : Go.Proofs.YtofpaldolcnmiaaGreat.St) (c0 : w.cell? ⟨b, 0, none⟩ = some (.int .u64 s.w)) (c1 : w.cell? ⟨b, 1, none⟩ = some (.int .u32 s.l)) (c2 : w.cell? ⟨b, 2, none⟩ = some (.int .u32 s.n))
  (c3 : w.cell? ⟨b, 3, none⟩ = some (.int .u64 t.w)) (c4 : w.cell? ⟨b, 4, none⟩ = some (.int .u32 t.l)) (c5 : w.cell? ⟨b, 5, none⟩ = some (.int .u32 t.n)) : Row w (some ⟨b, 0, none⟩) [s, t] := fun i hi => by
 match i, hi with
 | 0, _ => exact ⟨b, 0, rfl, c0, c1, c2⟩
 | 1, _ => exact ⟨b, 0, rfl, c3, c4, c5⟩
theorem max2_any {b : Nat} {s t m : Go.Proofs.YtofpaldolcnmiaaGreat.St} (hm : maxSt zst [s, t] = m) (w : World) (h : Row w (some ⟨b, 0, none⟩) [s, t]) :
  Calls Tryz.prog 192 #[.slice (some ⟨b, 0, none⟩) 2 2] w fun e w' => e = .returned (stv m.w m.l m.n) ∧ Below w.heap.size w w' := by
 have := max_any (some ⟨b, 0, none⟩) 2 [s, t] w h (by simp); rw [hm] at this; exact this
abbrev toSt (x : Vs.Sp) : Go.Proofs.YtofpaldolcnmiaaGreat.St := ⟨x.a, x.b, x.c⟩
abbrev ofSt (x : Go.Proofs.YtofpaldolcnmiaaGreat.St) : Vs.Sp := ⟨x.w, x.l, x.n⟩
def mxS (x y : Vs.Sp) : Vs.Sp := ofSt (maxSt zst [toSt x, toSt y])
abbrev atE (e : Lg.En) : Vs.Sp := ⟨e.w, e.l, e.n⟩
def layS (s : Ps) (e : Lg.En) : Ps := if e.oc = 1 then { s with E := Lg.decM s.E e, cm := true, lc := mxS s.lc (atE e) } else { s with E := Lg.decM s.E e }
abbrev env (e : Lg.En) : Value := .agg #[.int .u32 e.id.1, .int .u32 e.id.2, .int .u32 e.home, .int .i64 e.oc, .int .u64 e.w, .int .u32 e.l, .int .u32 e.n]
theorem lay_is {F : Nat → Prop} {w : World} {p : Nat} {m1 m2 m : Option Nat} {V : List Lk.Hv} {I : Lk.It} {s : Ps} (T : St F w p m1 m2 m V I s) (e : Lg.En) :
  Calls Tryz.prog 138 #[cp p, env e] w fun r w' => r = .returned (.tuple #[]) ∧ ∃ m', St F w' p m1 m2 m' V I (layS s e) ∧ (m' = m ∨ ∃ b, m' = some b ∧ w.heap.size ≤ b) ∧ Onl (Lg.ItsL p m) w w' := by
 obtain ⟨⟨e0, e1⟩, e2, e3, e4, e5, e6⟩ := e; obtain ⟨wx, hwx⟩ : ∃ wx, wx = w.alloc (.cells #[.int .u32 e0, .int .u32 e1, .int .u32 e2, .int .i64 e3, .int .u64 e4, .int .u32 e5, .int .u32 e6] 104) := ⟨_, rfl⟩; have hbx : Below w.heap.size w wx := by rw [hwx]; exact Below.al (Below.refl _ _) _
 have x0 : wx.cell? ⟨w.heap.size, 0, none⟩ = some (.int .u32 e0) := by rw [hwx]; simp [go_sem]
 have x1 : wx.cell? ⟨w.heap.size, 1, none⟩ = some (.int .u32 e1) := by rw [hwx]; simp [go_sem]
 have x2 : wx.cell? ⟨w.heap.size, 2, none⟩ = some (.int .u32 e2) := by rw [hwx]; simp [go_sem]
 have x3 : wx.cell? ⟨w.heap.size, 3, none⟩ = some (.int .i64 e3) := by rw [hwx]; simp [go_sem]
 have x4 : wx.cell? ⟨w.heap.size, 4, none⟩ = some (.int .u64 e4) := by rw [hwx]; simp [go_sem]
 have x5 : wx.cell? ⟨w.heap.size, 5, none⟩ = some (.int .u32 e5) := by rw [hwx]; simp [go_sem]
 have x6 : wx.cell? ⟨w.heap.size, 6, none⟩ = some (.int .u32 e6) := by rw [hwx]; simp [go_sem]
 have HX := hid (And.intro x3 (And.intro x4 (And.intro x5 x6))); have hlt : p < w.heap.size := T.lt; have HM : Hid (∀ b, m = some b → b < w.heap.size) := hid fun b h => T.lg.ents.lt b h
 have HT := hid (T.later hbx); have HBX := hid hbx; have DE : Hid (∀ W, Below wx.heap.size wx W → Calls Tryz.prog 191 #[.pointer (some ⟨p, 4, none⟩), .agg #[.int .u32 e0, .int .u32 e1, .int .u32 e2, .int .i64 e3, .int .u64 e4, .int .u32 e5, .int .u32 e6]] W fun r w' => ∃ (f : Lg.En) (x : Int), r = .returned (.tuple #[.agg #[.int .u32 f.id.1, .int .u32 f.id.2, .int .u32 f.home, .int .i64 f.oc, .int .u64 f.w, .int .u32 f.l, .int .u32 f.n], .int .i64 x]) ∧ Hid (∃ m', St F w' p m1 m2 m' V I { s with E := Lg.decM s.E ⟨⟨e0, e1⟩, e2, e3, e4, e5, e6⟩ } ∧ (m' = m ∨ ∃ b, m' = some b ∧ wx.heap.size ≤ b) ∧ Onl (Lg.ItsL p m) wx w')) := hid fun W hb => by
  have TT := HT.out.later hb; refine (Lg.decideO_is TT.lg ⟨⟨e0, e1⟩, e2, e3, e4, e5, e6⟩).mono ?_; rintro r w' ⟨m', f, x, hr, _, _, h3, h4, h5, h6⟩; refine ⟨f, x, hr, hid ⟨m', TT.ledger h3.out h5.out h6.out h4.out, ?_, (Onl.of_below hb).trans h5.out⟩⟩; rcases h4.out with h | ⟨b, h, k⟩
  ·exact .inl h
  ·exact .inr ⟨b, h, Nat.le_trans hb.size k⟩
 clear T hbx; go_enter Tryz.func138, Tryz.ntmps138
 go_wp2_with fail
 rw [← hwx]; clear hwx; go_cut [] (fun wz => ∃ w3, w3 = wz ∧ ∃ m', St F w3 p m1 m2 m' V I { s with E := Lg.decM s.E ⟨⟨e0, e1⟩, e2, e3, e4, e5, e6⟩ } ∧ (m' = m ∨ ∃ b, m' = some b ∧ wx.heap.size ≤ b) ∧ Onl (Lg.ItsL p m) wx w3)
 case first =>
  go_region_with (go_at_call 191; refine (DE.out _ (by (repeat (first | with_reducible exact Below.refl _ _ | with_reducible assumption | with_reducible refine Below.drew ?_ | with_reducible refine Below.al ?_ _ | with_reducible refine Below.setCell ?_ (by first | exact Nat.le_refl _ | simp <;> omega) _ | with_reducible refine Below.on ?_ (by assumption))))).mono ?_; rintro e w2 ⟨f, x, rfl, HP⟩)
  all_goals (try go_wp2_with fail)
  all_goals go_meet
  all_goals exact ⟨_, rfl, HP.out⟩
 case rest =>
  obtain ⟨w3, rfl, m', T2, hm', ho⟩ := hcut; obtain ⟨x3, x4, x5, x6⟩ := HX.out; have hni : ¬ Lg.ItsL p m w.heap.size := by
   rintro (h | h)
   ·omega
   ·have := HM.out _ h; omega
  have y3 := ho.cell hni x3; have y4 := ho.cell hni x4; have y5 := ho.cell hni x5; have y6 := ho.cell hni x6
  have HT2 := hid T2; have HM2 := hid hm'; have HO := hid ho; have HLS := hid HBX.out.size; have HMF : Hid (m' = m ∨ ∃ b, m' = some b ∧ w.heap.size ≤ b) := hid (hm'.imp id fun ⟨b, h, k⟩ => ⟨b, h, Nat.le_trans HBX.out.size k⟩); have HOW : Hid (Onl (Lg.ItsL p m) w w3) := hid ((Onl.of_below HBX.out).trans ho); have c9 : w3.cell? ⟨p, 9, none⟩ = some (.bool s.cm) := T2.cell fun _ => rfl
  have c10 : w3.cell? ⟨p, 10, none⟩ = some (.int .u64 s.lc.a) := T2.cell fun _ => rfl
  have c11 : w3.cell? ⟨p, 11, none⟩ = some (.int .u32 s.lc.b) := T2.cell fun _ => rfl
  have c12 : w3.cell? ⟨p, 12, none⟩ = some (.int .u32 s.lc.c) := T2.cell fun _ => rfl
  have kf : ∀ o, w3.frozen? ⟨p, o, none⟩ = false := T2.loose; have hp3 : p < w3.heap.size := T2.lt; have hq3 : w.heap.size < w3.heap.size := World.block_lt_of_cell? _ _ y3; clear DE x0 x1 x2 x3 x4 x5 x6 T2 hm' ho HX; by_cases hoc : e3 = 1
  ·subst hoc; obtain ⟨mm, hmm⟩ : ∃ mm, maxSt zst [toSt s.lc, ⟨e4, e5, e6⟩] = mm := ⟨_, rfl⟩; have HMM := hid hmm; have HLY : Hid (layS s ⟨⟨e0, e1⟩, e2, 1, e4, e5, e6⟩ = { s with E := Lg.decM s.E ⟨⟨e0, e1⟩, e2, 1, e4, e5, e6⟩, cm := true, lc := ofSt mm }) := hid (by rw [← hmm]; exact if_pos rfl); clear hmm; go_wp2_with fail
   go_region_with (first | (go_at_call 192; refine (max2_any HMM.out _ (row2 (toSt s.lc) ⟨e4, e5, e6⟩ (by simp [go_sem]) (by simp [go_sem]) (by simp [go_sem]) (by simp [go_sem]) (by simp [go_sem]) (by simp [go_sem]))).mono ?_; rintro e w1 ⟨rfl, hb1⟩; have hB1 : Below w3.heap.size w3 w1 := (by refine Below.on ?_ hb1; (repeat (first | exact Below.refl _ _ | assumption | refine Below.drew ?_ | refine Below.al ?_ _ | refine Below.setCell ?_ (by first | exact Nat.le_refl _ | simp <;> omega) _ | refine Below.on ?_ (by assumption)))); have k9 := cell_later hB1 c9; have k10 := cell_later hB1 c10; have k11 := cell_later hB1 c11; have k12 := cell_later hB1 c12; have kf : ∀ o, w1.frozen? ⟨p, o, none⟩ = false := (fun o => (hB1.frozen (p := ⟨p, o, none⟩) hp3).trans (kf o)); clear hb1))
   all_goals (try go_wp2_with fail)
   all_goals go_end0
   all_goals exact ⟨rfl, m', HLY.out ▸ (HT2.out.later hB1).stamped (ofSt mm), HMF.out, Onl.set (F := Lg.ItsL p m) (Onl.set (F := Lg.ItsL p m) (Onl.set (F := Lg.ItsL p m) (Onl.set (F := Lg.ItsL p m) (Onl.on HOW.out hB1) (.inl rfl) _ _) (.inl rfl) _ _) (.inl rfl) _ _) (.inl rfl) _ _⟩
  ·have hoc' : (e3 == 1) = false := by simpa using hoc
   have HLY : Hid (layS s ⟨⟨e0, e1⟩, e2, e3, e4, e5, e6⟩ = { s with E := Lg.decM s.E ⟨⟨e0, e1⟩, e2, e3, e4, e5, e6⟩ }) := hid (if_neg hoc); clear hoc; go_wp2_with fail
   go_end0
   exact ⟨rfl, m', HLY.out ▸ HT2.out, HMF.out, HOW.out⟩
section
variable {F : Nat → Prop} {w : World} {p : Nat} {m1 m2 m : Option Nat} {V : List Lk.Hv} {I : Lk.It} {s : Ps}
theorem take_is (T : St F w p m1 m2 m V I s) {v : Lk.Hv} (hv : v.ok w) :
  Calls Tryz.prog 134 #[.pointer (some ⟨p, 2, none⟩), v.val] w fun e w' => e = .returned (.int .i64 (Lk.holdC s.H v.h)) ∧ Hid (∃ m1' m2' V' I', St F w' p m1' m2' m V' I' { s with H := Lk.holdM s.H v.h } ∧ (∀ b, Lk.Its p m1' m2' b → Lk.Its p m1 m2 b ∨ w.heap.size ≤ b) ∧ Onl (Lk.Its p m1 m2) w w') := by
 refine (Lk.holdO_is T.tb hv).mono ?_; rintro e w' ⟨he, m1', m2', V', I', h1, h2, h3, h4, h5, h6⟩; refine ⟨by rw [he, T.h], hid ⟨m1', m2', V', I', T.table h1 (by rw [h2, T.h]) h3 h6 h4 (fun x hx => ?_), h4, h3⟩⟩; rcases h5 x hx with h | h
 ·exact (T.ty x h).onl h3 (T.tb.foreignO noRow)
 ·exact h.typ
end
def Bm (p : Nat) (m1 m2 m : Option Nat) (b : Nat) : Prop := b = p ∨ m1 = some b ∨ m2 = some b ∨ m = some b
theorem Bm.t {p : Nat} {m1 m2 m : Option Nat} {b : Nat} (h : Lk.Its p m1 m2 b) : Bm p m1 m2 m b := by
 rcases h with h | h | h
 ·exact .inl h
 ·exact .inr (.inl h)
 ·exact .inr (.inr (.inl h))
theorem St.bm {F : Nat → Prop} {w : World} {p : Nat} {m1 m2 m : Option Nat} {V : List Lk.Hv} {I : Lk.It} {s : Ps} (T : St F w p m1 m2 m V I s) {b : Nat} (h : Bm p m1 m2 m b) : b < w.heap.size := by
 rcases h with rfl | h | h | h
 ·exact T.lt
 ·exact T.tb.held.lt b h
 ·exact T.tb.ints.lt b h
 ·exact T.lg.ents.lt b h
abbrev atH (h : Lk.Hd) : Vs.Sp := ⟨h.w, h.l, h.n⟩
def hldG (s : Ps) (h : Lk.Hd) : Bool := (Lg.outM s.E h.id).isSome || !decide (h.w < s.ceil)
def hldB (s : Ps) (h : Lk.Hd) : Bool := !hldG s h && Lk.holdC s.H h == 0
def hldS (s : Ps) (h : Lk.Hd) : Ps := if hldG s h then s else { s with H := Lk.holdM s.H h }
theorem hold_is {F : Nat → Prop} {w : World} {p : Nat} {m1 m2 m : Option Nat} {V : List Lk.Hv} {I : Lk.It} {s : Ps} (T : St F w p m1 m2 m V I s) {v : Lk.Hv} (hv : v.ok w) :
  Calls Tryz.prog 66 #[cp p, .agg #[.int .u32 v.h.id.1, .int .u32 v.h.id.2, .int .u32 v.h.home, .int .u64 v.h.w, .int .u32 v.h.l, .int .u32 v.h.n, .slice v.ra v.h.rs.length v.rc, .slice v.wa v.h.ws.length v.wc]] w fun e w' => e = .returned (.bool (hldB s v.h)) ∧ ∃ m1' m2' V' I', St F w' p m1' m2' m V' I' (hldS s v.h) ∧ (∀ b, Lk.Its p m1' m2' b → Lk.Its p m1 m2 b ∨ w.heap.size ≤ b) ∧ Onl (Lk.Its p m1 m2) w w' := by
 obtain ⟨wx, hwx⟩ : ∃ wx, wx = w.alloc (.cells #[.int .u32 v.h.id.1, .int .u32 v.h.id.2, .int .u32 v.h.home, .int .u64 v.h.w, .int .u32 v.h.l, .int .u32 v.h.n, .slice v.ra v.h.rs.length v.rc, .slice v.wa v.h.ws.length v.wc] 100) := ⟨_, rfl⟩; have hbx : Below w.heap.size w wx := by rw [hwx]; exact Below.al (Below.refl _ _) _
 have z0 : wx.cell? ⟨w.heap.size, 0, none⟩ = some (.int .u32 v.h.id.1) := by rw [hwx]; simp [go_sem]
 have z1 : wx.cell? ⟨w.heap.size, 1, none⟩ = some (.int .u32 v.h.id.2) := by rw [hwx]; simp [go_sem]
 have z2 : wx.cell? ⟨w.heap.size, 2, none⟩ = some (.int .u32 v.h.home) := by rw [hwx]; simp [go_sem]
 have z3 : wx.cell? ⟨w.heap.size, 3, none⟩ = some (.int .u64 v.h.w) := by rw [hwx]; simp [go_sem]
 have z4 : wx.cell? ⟨w.heap.size, 4, none⟩ = some (.int .u32 v.h.l) := by rw [hwx]; simp [go_sem]
 have z5 : wx.cell? ⟨w.heap.size, 5, none⟩ = some (.int .u32 v.h.n) := by rw [hwx]; simp [go_sem]
 have z6 : wx.cell? ⟨w.heap.size, 6, none⟩ = some (.slice v.ra v.h.rs.length v.rc) := by rw [hwx]; simp [go_sem]
 have z7 : wx.cell? ⟨w.heap.size, 7, none⟩ = some (.slice v.wa v.h.ws.length v.wc) := by rw [hwx]; simp [go_sem]
 have HT := hid (T.later hbx); have HBX := hid hbx; have HV := hid hv; have HNI : Hid (¬ Lk.Its p m1 m2 w.heap.size) := hid fun h => by have := T.bm (Bm.t h); omega
 have DC : Hid (∀ W, Below wx.heap.size wx W → Calls Tryz.prog 67 #[.pointer (some ⟨p, 1, none⟩), .agg #[.int .u32 v.h.id.1, .int .u32 v.h.id.2]] W fun e w' => e = .returned (.bool (Lg.outM s.E v.h.id).isSome) ∧ Below W.heap.size W w') := hid fun W hb => decided_is (HT.out.later hb) v.h.id
 obtain ⟨R, hR⟩ : ∃ R, decide (v.h.w < s.ceil) = R := ⟨_, rfl⟩; have RS : Hid (∀ W, Below wx.heap.size wx W → Calls Tryz.prog 133 #[.pointer (some ⟨p, 1, none⟩), .agg #[.int .u64 v.h.w, .int .u32 v.h.l, .int .u32 v.h.n]] W fun e w' => e = .returned (.bool R) ∧ Below W.heap.size W w') := hid fun W hb => reserved_is (HT.out.later hb) (atH v.h) hR
 obtain ⟨D, hD⟩ : ∃ D, (Lg.outM s.E v.h.id).isSome = D := ⟨_, rfl⟩; rw [hD] at DC; obtain ⟨G, hG⟩ : ∃ G, hldG s v.h = G := ⟨_, rfl⟩; have hG' := hG; rw [hldG, hD, hR] at hG'; have HB : Hid (hldB s v.h = (!G && Lk.holdC s.H v.h == 0)) := hid (by rw [hldB, hG]); have HS : Hid (hldS s v.h = if G then s else { s with H := Lk.holdM s.H v.h }) := hid (by rw [hldS, hG]); clear T hbx hv hG hD hR; go_enter Tryz.func66, Tryz.ntmps66
 go_wp2_with fail
 rw [← hwx]; clear hwx; refine (DC.out _ (Below.refl _ _)).mono ?_; rintro e w2 ⟨rfl, hb2⟩; replace z0 := cell_later hb2 z0; replace z1 := cell_later hb2 z1; replace z2 := cell_later hb2 z2; replace z3 := cell_later hb2 z3; replace z4 := cell_later hb2 z4; replace z5 := cell_later hb2 z5; replace z6 := cell_later hb2 z6; replace z7 := cell_later hb2 z7; have HB2 := hid hb2; clear DC hb2; cases D
 ·go_wp2_with fail
  refine (RS.out _ HB2.out).mono ?_; rintro e w3 ⟨rfl, hb3⟩; replace z0 := cell_later hb3 z0; replace z1 := cell_later hb3 z1; replace z2 := cell_later hb3 z2; replace z3 := cell_later hb3 z3; replace z4 := cell_later hb3 z4; replace z5 := cell_later hb3 z5; replace z6 := cell_later hb3 z6; replace z7 := cell_later hb3 z7; have HB3 : Hid (Below wx.heap.size wx w3) := hid (Below.on HB2.out hb3); clear RS hb3; cases R
  ·obtain rfl : true = G := hG'; go_wp2_with fail
   go_ret
   exact ⟨by rw [HB.out]; rfl, m1, m2, V, I, by rw [HS.out]; exact HT.out.later HB3.out, fun b hb => .inl hb, Onl.of_below (Below.on HBX.out HB3.out)⟩
  ·obtain rfl : false = G := hG'; have TK : Hid (∀ W, Below w3.heap.size w3 W → Calls Tryz.prog 134 #[.pointer (some ⟨p, 2, none⟩), .agg #[.int .u32 v.h.id.1, .int .u32 v.h.id.2, .int .u32 v.h.home, .int .u64 v.h.w, .int .u32 v.h.l, .int .u32 v.h.n, .slice v.ra v.h.rs.length v.rc, .slice v.wa v.h.ws.length v.wc]] W fun e w' => e = .returned (.int .i64 (Lk.holdC s.H v.h)) ∧ Hid (∃ m1' m2' V' I', St F w' p m1' m2' m V' I' { s with H := Lk.holdM s.H v.h } ∧ (∀ b, Lk.Its p m1' m2' b → Lk.Its p m1 m2 b ∨ w.heap.size ≤ b) ∧ Onl (Lk.Its p m1 m2) w w' ∧ Onl (Lk.Its p m1 m2) w3 w')) := hid fun W hb => by
    have hBW : Below w.heap.size w W := Below.on HBX.out (Below.on HB3.out hb); refine (take_is (HT.out.later (Below.on HB3.out hb)) (HV.out.later hBW)).mono ?_; rintro e w' ⟨he, HP⟩; obtain ⟨m1', m2', V', I', h1, h2, h3⟩ := HP.out; exact ⟨he, hid ⟨m1', m2', V', I', h1, fun b hb' => (h2 b hb').imp id fun k => Nat.le_trans hBW.size k, (Onl.of_below hBW).trans h3, (Onl.of_below hb).trans h3⟩⟩
   obtain ⟨C, hC⟩ : ∃ C, Lk.holdC s.H v.h = C := ⟨_, rfl⟩; rw [hC] at TK HB; have hni := HNI.out; clear hC; go_wp2_with fail
   go_region_held3 (fun w' => w'.cell? ⟨w.heap.size, 0, none⟩ = some (.int .u32 v.h.id.1) ∧ w'.cell? ⟨w.heap.size, 1, none⟩ = some (.int .u32 v.h.id.2) ∧ w'.cell? ⟨w.heap.size, 2, none⟩ = some (.int .u32 v.h.home) ∧ w'.cell? ⟨w.heap.size, 3, none⟩ = some (.int .u64 v.h.w) ∧ w'.cell? ⟨w.heap.size, 4, none⟩ = some (.int .u32 v.h.l) ∧ w'.cell? ⟨w.heap.size, 5, none⟩ = some (.int .u32 v.h.n) ∧ w'.cell? ⟨w.heap.size, 6, none⟩ = some (.slice v.ra v.h.rs.length v.rc) ∧ w'.cell? ⟨w.heap.size, 7, none⟩ = some (.slice v.wa v.h.ws.length v.wc) ∧ Onl (Lk.Its p m1 m2) w3 w')
    ((refine (fun (hO : Onl (Lk.Its p m1 m2) w3 _) => ⟨hO.cell hni z0, hO.cell hni z1, hO.cell hni z2, hO.cell hni z3, hO.cell hni z4, hO.cell hni z5, hO.cell hni z6, hO.cell hni z7, hO⟩) ?_; (repeat (first | with_reducible exact Onl.refl _ _ | with_reducible assumption | with_reducible refine Onl.drew ?_ | with_reducible refine Onl.al ?_ _))))
    (first | (go_at_call 134; refine (TK.out _ (by (repeat (first | with_reducible exact Below.refl _ _ | with_reducible assumption | with_reducible refine Below.drew ?_ | with_reducible refine Below.al ?_ _ | with_reducible refine Below.setCell ?_ (by first | exact Nat.le_refl _ | simp <;> omega) _ | with_reducible refine Below.on ?_ (by assumption))))).mono ?_; rintro e w4 ⟨rfl, HP⟩; have hO2 : Onl (Lk.Its p m1 m2) w3 w4 := (by obtain ⟨_, _, _, _, _, _, _, h⟩ := HP.out; exact h)))
   all_goals (try go_wp2_with fail)
   all_goals go_ret
   all_goals (obtain ⟨m1', m2', V', I', h1, h2, h3, _⟩ := HP.out; exact ⟨by rw [HB.out]; simp, m1', m2', V', I', by rw [HS.out]; exact h1, h2, h3⟩)
 ·obtain rfl : true = G := hG'; go_wp2_with fail
  go_ret
  exact ⟨by rw [HB.out]; rfl, m1, m2, V, I, by rw [HS.out]; exact HT.out.later HB2.out, fun b hb => .inl hb, Onl.of_below (Below.on HBX.out HB2.out)⟩
end Ys
end Go.Proofs.YtofpaldolcnmiaaGreat
