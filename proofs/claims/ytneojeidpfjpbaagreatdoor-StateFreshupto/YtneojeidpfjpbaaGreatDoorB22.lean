import Derived.Test.YtneojeidpfjpbaaGreatDoorB21
set_option linter.unusedVariables false
set_option maxHeartbeats 2000000
namespace Go.Proofs.YtneojeidpfjpbaaGreatDoor
open Go.RowKit Go.Sort
structure MaxAt (w wr : World) (N : Nat) (m : St) : Prop where
 below : Below w.heap.size w wr
 base : w.heap.size ≤ N
 size : N + 2 ≤ wr.heap.size
 res : StampAt wr N 0 0 0
 great : StampAt wr (N + 1) m.w m.l m.n
 loose : Loose wr N
 loose1 : Loose wr (N + 1)
theorem MaxAt.later {w wr wc : World} {N : Nat} {m : St} (R : MaxAt w wr N m) (hb : Below wr.heap.size wr wc) : MaxAt w wc N m :=
 ⟨Below.on R.below hb, R.base, Nat.le_trans R.size hb.size, R.res.later hb, R.great.later hb, R.loose.later hb (by have := R.size; omega), R.loose1.later hb (by have := R.size; omega)⟩
theorem MaxAt.put {w wr : World} {N : Nat} {m : St} (R : MaxAt w wr N m) (x : St) : MaxAt w (putStamp wr (N + 1) x.w x.l x.n) N x :=
 ⟨Below.put R.below (by have := R.base; omega) _ _ _, R.base, by simpa [putStamp, World.setCell] using R.size,
  ⟨cell_put _ _ _ (by omega) R.res.1, cell_put _ _ _ (by omega) R.res.2.1, cell_put _ _ _ (by omega) R.res.2.2⟩, R.great.put _ _ _, R.loose.put _ _ _, R.loose1.put _ _ _⟩
theorem max_any (a : Option Addr) (c : Nat) (xs : List St) (w : World) (h : Row w a xs) (hl : xs.length ≤ 9223372036854775807) :
  Calls Tryz.prog 132 #[.slice a xs.length c] w fun e w' => e = .returned (maxSt zst xs).val ∧ Below w.heap.size w w' := by
 go_enter Tryz.func132, Tryz.ntmps132
 go_wp2_with fail
 go_loopg [8] xs.length (fun g s8 wr => ∃ k : Nat, k ≤ xs.length ∧ g = xs.length - k ∧ s8 = .int .i64 k ∧ MaxAt w wr w.heap.size (maxSt zst (xs.take k)))
 case atStart =>
  refine ⟨0, by omega, by omega, rfl, ?_, Nat.le_refl _, by simp, ?_, ?_, fun o => by simp [go_sem], fun o => by simp [go_sem]⟩
  ·exact ((Below.refl _ _).alloc (Nat.le_refl _) _).alloc (by simp) _
  ·refine ⟨?_, ?_, ?_⟩ <;> (simp [go_sem]; done)
  ·refine ⟨?_, ?_, ?_⟩ <;> (simp [go_sem, maxSt, zst]; done)
 case round =>
  obtain ⟨k, hk, rfl, rfl, R⟩ := hrel; obtain ⟨m, hm⟩ : ∃ m, m = maxSt zst (xs.take k) := ⟨_, rfl⟩; rw [← hm] at R; have ⟨g0, g1, g2⟩ := R.great; have ⟨r0, r1, r2⟩ := R.res; have f1 : ∀ o, wr.frozen? ⟨w.heap.size + 1, o, none⟩ = false := R.loose1; have f0 : ∀ o, wr.frozen? ⟨w.heap.size, o, none⟩ = false := R.loose; by_cases hlt : k < xs.length
  ·have hs := maxSt_snoc (xs.take k) (nth xs k) zst; rw [← nth_take hlt, ← hm] at hs; have HS := hid hs; obtain ⟨b, off, rfl, c0, c1, c2⟩ := (h.later R.below) k hlt; obtain ⟨x, hx⟩ : ∃ x, x = nth xs k := ⟨_, rfl⟩; rw [← hx] at c0 c1 c2 HS; have hsz := R.size; have hN0 : w.heap.size < wr.heap.size := by omega
   have hN1 : w.heap.size + 1 < wr.heap.size := by omega
   have A5 : StampAt (wr.alloc (.cells #[.int .u64 x.w, .int .u32 x.l, .int .u32 x.n] 28)) wr.heap.size x.w x.l x.n := by
    refine ⟨?_, ?_, ?_⟩ <;> (simp [go_sem]; done)
   clear hs hx hm hsz; go_wp2_with fail
   have hless : ∃ u, lessB m.w m.l m.n x.w x.l x.n = u := ⟨_, rfl⟩; obtain ⟨u, hu⟩ := hless; refine (less_is hu _).mono ?_; rintro e w1 ⟨rfl, hw1⟩; have R1 := (R.later (Below.al (Below.refl _ _) _)).later hw1; have A1 := A5.later hw1; have ⟨g0, g1, g2⟩ := R1.great; have ⟨s0, s1, s2⟩ := A1; have f1 : ∀ o, w1.frozen? ⟨w.heap.size + 1, o, none⟩ = false := R1.loose1; have HU : Hid (m.less x = u) := hu; clear hu A5 hw1 R A1 hN0 hN1 r0 r1 r2 f0 c0 c1 c2; cases u
   all_goals
    go_wp2_with fail
    go_roundg (xs.length - (k + 1))
    case measure => omega
   ·refine ⟨k + 1, by omega, rfl, by go_num, ?_⟩; rw [HS.out, HU.out]; exact R1
   ·refine ⟨k + 1, by omega, rfl, by go_num, ?_⟩; rw [HS.out, HU.out]; exact R1.put x
  ·obtain rfl : k = xs.length := by omega
   rw [List.take_of_length_le (Nat.le_refl _)] at hm; have hsz := R.size; go_wp2_with fail
   rw [← hm]; refine bodyPost_ret (v := m.val) (by simp [results, Tryz.results132, go_sem, r0, r1, r2]) rfl ⟨rfl, ?_⟩; exact Below.put R.below (Nat.le_refl _) m.w m.l m.n
end Go.Proofs.YtneojeidpfjpbaaGreatDoor
namespace Go.Proofs.YtneojeidpfjpbaaGreatDoor.Ys
open Go.RowKit Go.Sort
theorem row2 {w : World} {b : Nat} (s t : Go.Proofs.YtneojeidpfjpbaaGreatDoor.St) (c0 : w.cell? ⟨b, 0, none⟩ = some (.int .u64 s.w)) (c1 : w.cell? ⟨b, 1, none⟩ = some (.int .u32 s.l)) (c2 : w.cell? ⟨b, 2, none⟩ = some (.int .u32 s.n))
  (c3 : w.cell? ⟨b, 3, none⟩ = some (.int .u64 t.w)) (c4 : w.cell? ⟨b, 4, none⟩ = some (.int .u32 t.l)) (c5 : w.cell? ⟨b, 5, none⟩ = some (.int .u32 t.n)) : Row w (some ⟨b, 0, none⟩) [s, t] := fun i hi => by
 match i, hi with
 | 0, _ => exact ⟨b, 0, rfl, c0, c1, c2⟩
 | 1, _ => exact ⟨b, 0, rfl, c3, c4, c5⟩
theorem max2_any {b : Nat} {s t m : Go.Proofs.YtneojeidpfjpbaaGreatDoor.St} (hm : maxSt zst [s, t] = m) (w : World) (h : Row w (some ⟨b, 0, none⟩) [s, t]) :
  Calls Tryz.prog 132 #[.slice (some ⟨b, 0, none⟩) 2 2] w fun e w' => e = .returned (stv m.w m.l m.n) ∧ Below w.heap.size w w' := by
 have := max_any (some ⟨b, 0, none⟩) 2 [s, t] w h (by simp); rw [hm] at this; exact this
abbrev toSt (x : Vs.Sp) : Go.Proofs.YtneojeidpfjpbaaGreatDoor.St := ⟨x.a, x.b, x.c⟩
abbrev ofSt (x : Go.Proofs.YtneojeidpfjpbaaGreatDoor.St) : Vs.Sp := ⟨x.w, x.l, x.n⟩
def mxS (x y : Vs.Sp) : Vs.Sp := ofSt (maxSt zst [toSt x, toSt y])
abbrev atE (e : Lg.En) : Vs.Sp := ⟨e.w, e.l, e.n⟩
def layS (s : Ps) (e : Lg.En) : Ps := if e.oc = 1 then { s with E := Lg.decM s.E e, cm := true, lc := mxS s.lc (atE e) } else { s with E := Lg.decM s.E e }
abbrev env (e : Lg.En) : Value := .agg #[.int .u32 e.id.1, .int .u32 e.id.2, .int .u32 e.home, .int .i64 e.oc, .int .u64 e.w, .int .u32 e.l, .int .u32 e.n]
theorem lay_is {F : Nat → Prop} {w : World} {p : Nat} {m1 m2 m : Option Nat} {V : List Lk.Hv} {I : Lk.It} {s : Ps} (T : St F w p m1 m2 m V I s) (e : Lg.En) :
  Calls Tryz.prog 97 #[cp p, env e] w fun r w' => r = .returned (.tuple #[]) ∧ ∃ m', St F w' p m1 m2 m' V I (layS s e) ∧ (m' = m ∨ ∃ b, m' = some b ∧ w.heap.size ≤ b) ∧ Onl (Lg.ItsL p m) w w' := by
 obtain ⟨⟨e0, e1⟩, e2, e3, e4, e5, e6⟩ := e; obtain ⟨wx, hwx⟩ : ∃ wx, wx = w.alloc (.cells #[.int .u32 e0, .int .u32 e1, .int .u32 e2, .int .i64 e3, .int .u64 e4, .int .u32 e5, .int .u32 e6] 91) := ⟨_, rfl⟩; have hbx : Below w.heap.size w wx := by rw [hwx]; exact Below.al (Below.refl _ _) _
 have x0 : wx.cell? ⟨w.heap.size, 0, none⟩ = some (.int .u32 e0) := by rw [hwx]; simp [go_sem]
 have x1 : wx.cell? ⟨w.heap.size, 1, none⟩ = some (.int .u32 e1) := by rw [hwx]; simp [go_sem]
 have x2 : wx.cell? ⟨w.heap.size, 2, none⟩ = some (.int .u32 e2) := by rw [hwx]; simp [go_sem]
 have x3 : wx.cell? ⟨w.heap.size, 3, none⟩ = some (.int .i64 e3) := by rw [hwx]; simp [go_sem]
 have x4 : wx.cell? ⟨w.heap.size, 4, none⟩ = some (.int .u64 e4) := by rw [hwx]; simp [go_sem]
 have x5 : wx.cell? ⟨w.heap.size, 5, none⟩ = some (.int .u32 e5) := by rw [hwx]; simp [go_sem]
 have x6 : wx.cell? ⟨w.heap.size, 6, none⟩ = some (.int .u32 e6) := by rw [hwx]; simp [go_sem]
 have HX := hid (And.intro x3 (And.intro x4 (And.intro x5 x6))); have hlt : p < w.heap.size := T.lt; have HM : Hid (∀ b, m = some b → b < w.heap.size) := hid fun b h => T.lg.ents.lt b h
 have HT := hid (T.later hbx); have HBX := hid hbx; have DE : Hid (∀ W, Below wx.heap.size wx W → Calls Tryz.prog 131 #[.pointer (some ⟨p, 4, none⟩), .agg #[.int .u32 e0, .int .u32 e1, .int .u32 e2, .int .i64 e3, .int .u64 e4, .int .u32 e5, .int .u32 e6]] W fun r w' => ∃ (f : Lg.En) (x : Int), r = .returned (.tuple #[.agg #[.int .u32 f.id.1, .int .u32 f.id.2, .int .u32 f.home, .int .i64 f.oc, .int .u64 f.w, .int .u32 f.l, .int .u32 f.n], .int .i64 x]) ∧ Hid (∃ m', St F w' p m1 m2 m' V I { s with E := Lg.decM s.E ⟨⟨e0, e1⟩, e2, e3, e4, e5, e6⟩ } ∧ (m' = m ∨ ∃ b, m' = some b ∧ wx.heap.size ≤ b) ∧ Onl (Lg.ItsL p m) wx w')) := hid fun W hb => by
  have TT := HT.out.later hb; refine (Lg.decideO_is TT.lg ⟨⟨e0, e1⟩, e2, e3, e4, e5, e6⟩).mono ?_; rintro r w' ⟨m', f, x, hr, _, _, h3, h4, h5, h6⟩; refine ⟨f, x, hr, hid ⟨m', TT.ledger h3.out h5.out h6.out h4.out, ?_, (Onl.of_below hb).trans h5.out⟩⟩; rcases h4.out with h | ⟨b, h, k⟩
  ·exact .inl h
  ·exact .inr ⟨b, h, Nat.le_trans hb.size k⟩
 clear T hbx; go_enter Tryz.func97, Tryz.ntmps97
 go_wp2_with fail
 rw [← hwx]; clear hwx; go_cut [] (fun wz => ∃ w3, w3 = wz ∧ ∃ m', St F w3 p m1 m2 m' V I { s with E := Lg.decM s.E ⟨⟨e0, e1⟩, e2, e3, e4, e5, e6⟩ } ∧ (m' = m ∨ ∃ b, m' = some b ∧ wx.heap.size ≤ b) ∧ Onl (Lg.ItsL p m) wx w3)
 case first =>
  go_region_with (go_at_call 131; refine (DE.out _ (by (repeat (first | with_reducible exact Below.refl _ _ | with_reducible assumption | with_reducible refine Below.drew ?_ | with_reducible refine Below.al ?_ _ | with_reducible refine Below.setCell ?_ (by first | exact Nat.le_refl _ | (simp; omega) | (simp; done)) _ | with_reducible refine Below.on ?_ (by assumption))))).mono ?_; rintro e w2 ⟨f, x, rfl, HP⟩)
  all_goals (try go_wp2_with fail)
  all_goals go_meet
  all_goals exact ⟨_, rfl, HP.out⟩
 case rest =>
  obtain ⟨w3, rfl, m', T2, hm', ho⟩ := hcut; obtain ⟨x3, x4, x5, x6⟩ := HX.out; have hni : ¬ Lg.ItsL p m w.heap.size := by
   rintro (h | h)
   ·omega
   ·have := HM.out _ h; omega
  have y3 := ho.cell hni x3; have y4 := ho.cell hni x4; have y5 := ho.cell hni x5; have y6 := ho.cell hni x6
  have HT2 := hid T2; have HM2 := hid hm'; have HO := hid ho; have HLS := hid HBX.out.size; have HMF : Hid (m' = m ∨ ∃ b, m' = some b ∧ w.heap.size ≤ b) := hid (hm'.imp id fun ⟨b, h, k⟩ => ⟨b, h, Nat.le_trans HBX.out.size k⟩); have HOW : Hid (Onl (Lg.ItsL p m) w w3) := hid ((Onl.of_below HBX.out).trans ho); have c9 : w3.cell? ⟨p, 9, none⟩ = some (.bool s.cm) := T2.cell fun _ => rfl
  have c10 : w3.cell? ⟨p, 10, none⟩ = some (.int .u64 s.lc.a) := T2.cell fun _ => rfl
  have c11 : w3.cell? ⟨p, 11, none⟩ = some (.int .u32 s.lc.b) := T2.cell fun _ => rfl
  have c12 : w3.cell? ⟨p, 12, none⟩ = some (.int .u32 s.lc.c) := T2.cell fun _ => rfl
  have kf : ∀ o, w3.frozen? ⟨p, o, none⟩ = false := T2.loose; have hp3 : p < w3.heap.size := T2.lt; have hq3 : w.heap.size < w3.heap.size := World.block_lt_of_cell? _ _ y3; clear DE x0 x1 x2 x3 x4 x5 x6 T2 hm' ho HX; by_cases hoc : e3 = 1
  ·subst hoc; obtain ⟨mm, hmm⟩ : ∃ mm, maxSt zst [toSt s.lc, ⟨e4, e5, e6⟩] = mm := ⟨_, rfl⟩; have HMM := hid hmm; have HLY : Hid (layS s ⟨⟨e0, e1⟩, e2, 1, e4, e5, e6⟩ = { s with E := Lg.decM s.E ⟨⟨e0, e1⟩, e2, 1, e4, e5, e6⟩, cm := true, lc := ofSt mm }) := hid (by rw [← hmm]; exact if_pos rfl); clear hmm; go_wp2_with fail
   go_region_with (first | (go_at_call 132; refine (max2_any HMM.out _ (row2 (toSt s.lc) ⟨e4, e5, e6⟩ (by simp [go_sem]) (by simp [go_sem]) (by simp [go_sem]) (by simp [go_sem]) (by simp [go_sem]) (by simp [go_sem]))).mono ?_; rintro e w1 ⟨rfl, hb1⟩; have hB1 : Below w3.heap.size w3 w1 := (by refine Below.on ?_ hb1; (repeat (first | exact Below.refl _ _ | assumption | refine Below.drew ?_ | refine Below.al ?_ _ | refine Below.setCell ?_ (by first | exact Nat.le_refl _ | (simp; omega) | (simp; done)) _ | refine Below.on ?_ (by assumption)))); have k9 := cell_later hB1 c9; have k10 := cell_later hB1 c10; have k11 := cell_later hB1 c11; have k12 := cell_later hB1 c12; have kf : ∀ o, w1.frozen? ⟨p, o, none⟩ = false := (fun o => (hB1.frozen (p := ⟨p, o, none⟩) hp3).trans (kf o)); clear hb1))
   all_goals (try go_wp2_with fail)
   all_goals go_end0
   all_goals exact ⟨rfl, m', HLY.out ▸ (HT2.out.later hB1).stamped (ofSt mm), HMF.out, Onl.set (F := Lg.ItsL p m) (Onl.set (F := Lg.ItsL p m) (Onl.set (F := Lg.ItsL p m) (Onl.set (F := Lg.ItsL p m) (Onl.on HOW.out hB1) (.inl rfl) _ _) (.inl rfl) _ _) (.inl rfl) _ _) (.inl rfl) _ _⟩
  ·have hoc' : (e3 == 1) = false := by simpa using hoc
   have HLY : Hid (layS s ⟨⟨e0, e1⟩, e2, e3, e4, e5, e6⟩ = { s with E := Lg.decM s.E ⟨⟨e0, e1⟩, e2, e3, e4, e5, e6⟩ }) := hid (if_neg hoc); clear hoc; go_wp2_with fail
   go_end0
   exact ⟨rfl, m', HLY.out ▸ HT2.out, HMF.out, HOW.out⟩
end Go.Proofs.YtneojeidpfjpbaaGreatDoor.Ys
namespace Go.Proofs.YtneojeidpfjpbaaGreatDoor.Lk
open Go.RowKit Go.Sort
theorem ok_drop {V : List Hv} {I : It} {i : Ix} {v : Hv} (ok : Ok (V.map Hv.h) I) (h : (v ∈ V ∧ v.h.id = i) ∨ (i ∉ (V.map Hv.h).map Hd.id ∧ v.h.ws = [])) : Ok ((dropV V i).map Hv.h) (dropAll I v.h.ws) := by
 rw [dropV_map]; rcases h with ⟨hv, rfl⟩ | ⟨hn, hw⟩
 ·exact ok.drop (List.mem_map.2 ⟨v, hv, rfl⟩)
 ·rw [dropM_not hn, hw]; exact ok
theorem TbO.dropped {w w' wm : World} {p oo : Nat} {ty : TypeId} {m1 m2 : Option Nat} {V : List Hv} {I : It} {i : Ix} {v : Hv} (T : TbO w p oo ty m1 m2 V I) (hv : (v ∈ V ∧ v.h.id = i) ∨ (i ∉ (V.map Hv.h).map Hd.id ∧ v.h.ws = []))
  (hi : MapO Value.string ixv wm m2 (dropAll I v.h.ws)) (o1 : Onl (fun c => m2 = some c) w wm) (hh : MapO ixv Hv.val w' m1 (dropA (prs V) i)) (o2 : Onl (fun c => m1 = some c) wm w') :
  TbO w' p oo ty m1 m2 (dropV V i) (dropAll I v.h.ws) := by
 have n1 : ∀ b, m1 = some b → b ≠ p := by
  rintro b rfl e; exact T.ne1 e.symm
 have n2 : ∀ b, m2 = some b → b ≠ p := by
  rintro b rfl e; exact T.ne2 e.symm
 have hlm : p < wm.heap.size := Nat.lt_of_lt_of_le T.lt o1.size; have e5 : w'.heap[p]? = w.heap[p]? := (o2.block p hlm (fun e => n1 p e rfl)).trans (o1.block p T.lt (fun e => n2 p e rfl)); have ba1 : ∀ c, m2 = some c → Bare w c := by rintro c rfl; exact bare_map T.ints
 have heldm : MapO ixv Hv.val wm m1 (prs V) := T.held.same (fun b e => o1.block b (T.held.lt b e) (T.ne b e)); have ba2 : ∀ c, m1 = some c → Bare wm c := by rintro c rfl; exact bare_map heldm
 refine ⟨(T.objs e5).1, (T.objs e5).2, by rw [dropV_prs]; exact hh, hi.same (fun b e => o2.block b (hi.lt b e) (fun k => T.ne b k e)), fun x hx => ?_, ok_drop T.ok hv, T.nil, T.ne⟩; exact ((T.rows x (List.mem_filter.1 hx).1).onl o1 ba1).onl o2 ba2
theorem releaseO_is {w : World} {p oo : Nat} {ty : TypeId} {m1 m2 : Option Nat} {V : List Hv} {I : It} (T : TbO w p oo ty m1 m2 V I) (i : Ix) :
  Calls Tryz.prog 98 #[.pointer (some ⟨p, oo, none⟩), ixv i] w fun e w' => e = .returned (.bool (hasB (V.map Hv.h) i)) ∧
   ∃ V' I', TbO w' p oo ty m1 m2 V' I' ∧ V'.map Hv.h = dropM (V.map Hv.h) i ∧ Onl (Its p m1 m2) w w' ∧ (∀ x ∈ V', x ∈ V) ∧ Part p oo 2 w w' := by
 obtain ⟨ic, is⟩ := i; obtain ⟨wx, hwx⟩ : ∃ wx, wx = w.alloc (.cells #[.int .u32 ic, .int .u32 is] 38) := ⟨_, rfl⟩; have hbx : Below w.heap.size w wx := by rw [hwx]; exact Below.al (Below.refl _ _) _
 have T0 := T.later hbx; have c0 := T0.c0; have x0 : wx.cell? ⟨w.heap.size, 0, none⟩ = some (.int .u32 ic) := by rw [hwx]; simp [go_sem]
 have x1 : wx.cell? ⟨w.heap.size, 1, none⟩ = some (.int .u32 is) := by rw [hwx]; simp [go_sem]
 obtain ⟨v0, ok, hyes, hno, hlook⟩ := T0.held.lookT (P := Tryz.prog) ids Tryz.underlying68 zero_hv ⟨ic, is⟩; have hok : ok = hasB (V.map Hv.h) ⟨ic, is⟩ := by
  cases ok with
  | true => exact (decide_eq_true (by rw [← prs_keys]; exact List.mem_map.2 ⟨_, hyes rfl, rfl⟩)).symm
  | false => exact (decide_eq_false (by have := (hno rfl).1; rwa [prs_keys] at this)).symm
 have hvv : (v0 ∈ V ∧ v0.h.id = ⟨ic, is⟩) ∨ ((⟨ic, is⟩ : Ix) ∉ (V.map Hv.h).map Hd.id ∧ v0.h.ws = []) := by
  cases ok with
  | true =>
   obtain ⟨v, hv, e⟩ := List.mem_map.1 (hyes rfl); injection e with e1 e2
   subst e2; exact .inl ⟨hv, e1⟩
  | false =>
   have := hno rfl; rw [prs_keys] at this; exact .inr ⟨this.1, by rw [this.2]; rfl⟩
 have hvo : v0.ok wx := by
  rcases hvv with ⟨h, _⟩ | ⟨h1, h2⟩
  ·exact T0.rows v0 h
  ·cases ok with
   | true => exact absurd (by rw [← prs_keys]; exact List.mem_map.2 ⟨_, hyes rfl, rfl⟩) h1
   | false =>
    rw [(hno rfl).2]; exact ⟨fun i hi => by simp [Hv.zero] at hi, fun i hi => by simp [Hv.zero] at hi, by simp [Hv.zero], by simp [Hv.zero]⟩
 rw [← hok]; have HVV := hid hvv; have HVO := hid hvo; clear hyes hno hok hvv hvo; obtain ⟨⟨⟨zc, zs⟩, zh, zw, zl, zn, zrs, ws⟩, zra, zrc, wa, wk⟩ := v0; simp only [Hv.val, ixv] at hlook; have hwl : ws.length + 1 ≤ 3518437208883 := HVO.out.wl; have HLK := hid hlook; have HT := hid T; have HT0 := hid T0; have HBX := hid hbx; have hsx : w.heap.size < wx.heap.size := by rw [hwx]; simp
 clear T T0 hlook hbx; go_enter Tryz.func98, Tryz.ntmps98
 go_wp2_with fail
 rw [← hwx]; clear hwx; go_cut [5, 6] (fun s5 s6 wz => ∃ q : Nat, s5 = .pointer (some ⟨q, 0, none⟩) ∧ s6 = .bool ok ∧ Hid (wz.cell? ⟨q, 7, none⟩ = some (.slice wa ws.length wk)) ∧ Hid (Below wx.heap.size wx wz))
 case first =>
  go_region_held3 (fun w' => w'.cell? ⟨p, oo, none⟩ = some (.map m1) ∧ w'.cell? ⟨w.heap.size, 0, none⟩ = some (.int .u32 ic) ∧ w'.cell? ⟨w.heap.size, 1, none⟩ = some (.int .u32 is) ∧ (Instr.lookup 68 (.map m1) (.agg #[.int .u32 ic, .int .u32 is]) true).run Tryz.prog w' = .ok (.tuple #[.agg #[.int .u32 zc, .int .u32 zs, .int .u32 zh, .int .u64 zw, .int .u32 zl, .int .u32 zn, .slice zra zrs.length zrc, .slice wa ws.length wk], .bool ok]) w' ∧ Below wx.heap.size wx w')
   ((refine (fun (hB : Below wx.heap.size wx _) => ⟨cell_later hB c0, cell_later hB x0, cell_later hB x1, HLK.out _ (fun b e => hB.block b (HT0.out.held.lt b e)), hB⟩) ?_; (repeat (first | exact Below.refl _ _ | assumption | refine Below.drew ?_ | refine Below.al ?_ _ | refine Below.setCell ?_ (by first | exact Nat.le_refl _ | (simp; omega) | (simp; done)) _ | refine Below.on ?_ (by assumption)))))
   (fail)
  all_goals (try go_wp2_with fail)
  all_goals go_meet
  all_goals refine ⟨_, rfl, rfl, hid ?_, hid ?_⟩
  all_goals (first | (simp [go_sem]; done) | ((repeat (first | exact Below.refl _ _ | assumption | refine Below.drew ?_ | refine Below.al ?_ _ | refine Below.setCell ?_ (by first | exact Nat.le_refl _ | (simp; omega) | (simp; done)) _ | refine Below.on ?_ (by assumption)))))
 case rest =>
  obtain ⟨q, rfl, rfl, HQ7, HZ⟩ := hcut; rename World => wz
  have hbz := HZ.out; have q7 := HQ7.out; have hBw : Below w.heap.size w wz := Below.on HBX.out hbz; have TZ := HT.out.later hBw; have z0 := TZ.c0; have z1 := TZ.c1; have x0 := cell_later hbz x0; have x1 := cell_later hbz x1; have hwr : RowW wz wa ws := HVO.out.w.later hbz; have n2b : ∀ c, m2 = some c → Bare wz c := by rintro c rfl; exact bare_map TZ.ints
  have n2p : ¬ m2 = some p := by rintro rfl; exact TZ.ne2 rfl
  have n2x : ¬ m2 = some w.heap.size := fun e => by have := HT.out.ints.lt _ e; omega
  have n1p : ¬ m1 = some p := by rintro rfl; exact TZ.ne1 rfl
  have n1x : ¬ m1 = some w.heap.size := fun e => by have := HT.out.held.lt _ e; omega
  have HTZ := hid TZ; have HWR := hid hwr; have HN2 := hid n2b; clear TZ hwr n2b HQ7 HLK HT0; go_wp2_with fail
  go_loopg [21] ws.length (fun g s21 wr => ∃ k : Nat, k ≤ ws.length ∧ g = ws.length - k ∧ s21 = .int .i64 k ∧ Hid (MapO Value.string ixv wr m2 (dropAll I (ws.take k))) ∧ Hid (Onl (fun c => m2 = some c) wz wr))
  case atStart => exact ⟨0, by omega, by omega, rfl, hid (by simpa [dropAll] using HTZ.out.ints), Onl.refl _ _⟩
  case round =>
   obtain ⟨k, hk, rfl, rfl, HM, HR⟩ := hrel; by_cases hlt : k < ws.length
   ·obtain ⟨b, off, e9, d0, d1, d2⟩ := (rowW_onl HWR.out HR.out HN2.out) k hlt; obtain ⟨⟨key, del, val⟩, hx⟩ : ∃ x, x = nthW ws k := ⟨_, rfl⟩; rw [← hx] at d0 d1 d2; simp only at d0 d1 d2; have HX := hid hx; clear hx; subst e9; obtain ⟨wy, hwy⟩ : ∃ wy, wy = wr.alloc (.cells #[.string key, .bool del, .string val] 103) := ⟨_, rfl⟩; have hby : Below wr.heap.size wr wy := by rw [hwy]; exact Below.al (Below.refl _ _) _
    have k0 : wy.cell? ⟨wr.heap.size, 0, none⟩ = some (.string key) := by rw [hwy]; simp [go_sem]
    have cy1 := cell_later hby (HR.out.cell n2p z1); have nby : ¬ m2 = some wr.heap.size := fun e => by have := HM.out.lt _ e; omega
    obtain ⟨w6, hdel, hm6, ho6, _⟩ := ((HM.out.later hby).later (Below.drew (Below.refl _ _)) : MapO Value.string ixv wy.drew m2 _).drop (P := Tryz.prog) keysS Tryz.underlying69 key 0; have hdl : ∀ ty, (Builtin.delete_ #[69, 9] ty #[.map m2, .string key]).run Tryz.prog wy.drew = .ok (.tuple #[]) w6 := fun ty => hdel
    have ho6' : Onl (fun c => m2 = some c) wy w6 := (Onl.drew (Onl.refl _ wy)).trans ho6; have HM6 := hid hm6; have HOK : Hid (Onl (fun c => m2 = some c) wz w6) := (HR.out.on hby).trans ho6'; clear hm6 ho6 hdel; go_wp2_with fail
    rw [← hwy]; clear hwy; go_region_held3 (fun w' => w'.cell? ⟨p, oo + 1, none⟩ = some (.map m2) ∧ w'.cell? ⟨wr.heap.size, 0, none⟩ = some (.string key) ∧ Onl (fun c => m2 = some c) wy w')
     ((refine (fun (hO : Onl (fun c => m2 = some c) wy _) => ⟨hO.cell n2p cy1, hO.cell nby k0, hO⟩) ?_; (repeat (first | exact Onl.refl _ _ | assumption | refine Onl.drew ?_))))
     (fail)
    go_wp2_with fail
    go_roundg (ws.length - (k + 1))
    case measure => omega
    case rel =>
     refine ⟨k + 1, by omega, rfl, by go_num, hid ?_, HOK⟩; have e : dropAll I (ws.take (k + 1)) = dropA (dropAll I (ws.take k)) key := by
      rw [nthW_take hlt, ← HX.out]; simp [dropAll, List.foldl_append]
     rw [e]; exact HM6.out
   ·obtain rfl : k = ws.length := by omega
    have hM := HM.out; rw [List.take_length] at hM; rename World => wm
    have hme : MapO ixv Hv.val wm m1 (prs V) := HTZ.out.held.same (fun b e => HR.out.block b (HTZ.out.held.lt b e) (HTZ.out.ne b e)); have cz0 := HR.out.cell n2p z0; have cx0 := HR.out.cell n2x x0; have cx1 := HR.out.cell n2x x1; obtain ⟨w7, hdel, hm7, ho7, _⟩ := (hme.later (Below.drew (Below.refl _ _)) : MapO ixv Hv.val wm.drew m1 _).drop (P := Tryz.prog) ids Tryz.underlying68 (⟨ic, is⟩ : Ix) 0; have hdl : ∀ ty, (Builtin.delete_ #[68, 38] ty #[.map m1, .agg #[.int .u32 ic, .int .u32 is]]).run Tryz.prog wm.drew = .ok (.tuple #[]) w7 := fun ty => hdel
    have ho7' : Onl (fun c => m1 = some c) wm w7 := (Onl.drew (Onl.refl _ wm)).trans ho7; have HTD : Hid (TbO w7 p oo ty m1 m2 (dropV V ⟨ic, is⟩) (dropAll I ws)) := HTZ.out.dropped HVV.out hM HR.out hm7 ho7'; have HON : Hid (Onl (Its p m1 m2) w w7) := by
     refine (((Onl.of_below hBw : Onl (Its p m1 m2) w wz).fresh HR.out ?_).fresh ho7' ?_)
     ·intro c hc; exact .inl (.inr (.inr hc))
     ·intro c hc; exact .inl (.inr (.inl hc))
    have HPP : Hid (Part p oo 2 w w7) := hid (((Part.below hBw).trans (Part.onl HR.out n2p)).trans (Part.onl ho7' n1p)); clear hdel hm7 ho7 hme hM; go_wp2_with fail
    go_region_held3 (fun w' => w'.cell? ⟨p, oo, none⟩ = some (.map m1) ∧ w'.cell? ⟨w.heap.size, 0, none⟩ = some (.int .u32 ic) ∧ w'.cell? ⟨w.heap.size, 1, none⟩ = some (.int .u32 is) ∧ Onl (fun c => m1 = some c) wm w')
     ((refine (fun (hO : Onl (fun c => m1 = some c) wm _) => ⟨hO.cell n1p cz0, hO.cell n1x cx0, hO.cell n1x cx1, hO⟩) ?_; (repeat (first | exact Onl.refl _ _ | assumption | refine Onl.drew ?_))))
     (fail)
    go_wp2_with fail
    go_ret
    exact ⟨rfl, _, _, HTD.out, dropV_map _ _, HON.out, fun x hx => (List.mem_filter.1 hx).1, HPP.out⟩
end Go.Proofs.YtneojeidpfjpbaaGreatDoor.Lk
namespace Go.Proofs.YtneojeidpfjpbaaGreatDoor.Ys
open Go.RowKit Go.Sort
section
variable {F : Nat → Prop} {w : World} {p : Nat} {m1 m2 m : Option Nat} {V : List Lk.Hv} {I : Lk.It} {s : Ps}
theorem drop_is (T : St F w p m1 m2 m V I s) (i : Lk.Ix) :
  Calls Tryz.prog 98 #[.pointer (some ⟨p, 2, none⟩), .agg #[.int .u32 i.1, .int .u32 i.2]] w fun e w' => ∃ u, e = .returned (.bool u) ∧ Hid (∃ V' I', St F w' p m1 m2 m V' I' { s with H := Lk.dropM s.H i } ∧ Onl (Lk.Its p m1 m2) w w') := by
 refine (Lk.releaseO_is T.tb i).mono ?_; rintro e w' ⟨he, V', I', h1, h2, h3, h4, h5⟩; exact ⟨_, he, hid ⟨V', I', T.table h1 (by rw [h2, T.h]) h3 h5 (fun b hb => .inl hb) (fun v hv => (T.ty v (h4 v hv)).onl h3 (T.tb.foreignO noRow)) (fun v hv => T.lw.1 v (h4 v hv)), h3⟩⟩
theorem take_is (T : St F w p m1 m2 m V I s) {v : Lk.Hv} (hv : v.ok w) :
  Calls Tryz.prog 94 #[.pointer (some ⟨p, 2, none⟩), v.val] w fun e w' => e = .returned (.int .i64 (Lk.holdC s.H v.h)) ∧ Hid (∃ m1' m2' V' I', St F w' p m1' m2' m V' I' { s with H := Lk.holdM s.H v.h } ∧ (∀ b, Lk.Its p m1' m2' b → Lk.Its p m1 m2 b ∨ w.heap.size ≤ b) ∧ Onl (Lk.Its p m1 m2) w w') := by
 refine (Lk.holdO_is T.tb hv).mono ?_; rintro e w' ⟨he, m1', m2', V', I', h1, h2, h3, h4, h5, h6⟩; refine ⟨by rw [he, T.h], hid ⟨m1', m2', V', I', T.table h1 (by rw [h2, T.h]) h3 h6 h4 (fun x hx => ?_) (fun x hx => ?_), h4, h3⟩⟩
 ·rcases h5 x hx with h | h
  ·exact (T.ty x h).onl h3 (T.tb.foreignO noRow)
  ·exact h.typ
 ·rcases h5 x hx with h | h
  ·exact T.lw.1 x h
  ·exact h.lowB T.lw.2
end
def Bm (p : Nat) (m1 m2 m : Option Nat) (b : Nat) : Prop := b = p ∨ m1 = some b ∨ m2 = some b ∨ m = some b
theorem Bm.l {p : Nat} {m1 m2 m : Option Nat} {b : Nat} (h : Lg.ItsL p m b) : Bm p m1 m2 m b := by
 rcases h with h | h
 ·exact .inl h
 ·exact .inr (.inr (.inr h))
theorem Bm.t {p : Nat} {m1 m2 m : Option Nat} {b : Nat} (h : Lk.Its p m1 m2 b) : Bm p m1 m2 m b := by
 rcases h with h | h | h
 ·exact .inl h
 ·exact .inr (.inl h)
 ·exact .inr (.inr (.inl h))
theorem St.bm {F : Nat → Prop} {w : World} {p : Nat} {m1 m2 m : Option Nat} {V : List Lk.Hv} {I : Lk.It} {s : Ps} (T : St F w p m1 m2 m V I s) {b : Nat} (h : Bm p m1 m2 m b) : b < w.heap.size := by
 rcases h with rfl | h | h | h
 ·exact T.lt
 ·exact T.tb.held.lt b h
 ·exact T.tb.ints.lt b h
 ·exact T.lg.ents.lt b h
abbrev enR (r : Rg) : Lg.En := ⟨⟨r.c, r.s⟩, r.h, r.oc, r.w, r.l, r.n⟩
def setS (s : Ps) (r : Rg) : Ps := { layS s (enR r) with H := Lk.dropM s.H (r.c, r.s) }
theorem layS_H (s : Ps) (e : Lg.En) : (layS s e).H = s.H := by unfold layS; split <;> rfl
theorem settle_is {F : Nat → Prop} {w : World} {p : Nat} {m1 m2 m : Option Nat} {V : List Lk.Hv} {I : Lk.It} {s : Ps} (T : St F w p m1 m2 m V I s) (r : Rg) :
  Calls Tryz.prog 58 #[sp p, r.val] w fun e w' => e = .returned (.tuple #[]) ∧ ∃ m' V' I', St F w' p m1 m2 m' V' I' (setS s r) ∧ (m' = m ∨ ∃ b, m' = some b ∧ w.heap.size ≤ b) ∧ Onl (Bm p m1 m2 m) w w' := by
 obtain ⟨wx, hwx⟩ : ∃ wx, wx = w.alloc (.cells r.cells 43) := ⟨_, rfl⟩; have hbx : Below w.heap.size w wx := by rw [hwx]; exact Below.al (Below.refl _ _) _
 have BX : BoxG wx w.heap.size r := by rw [hwx]; exact boxG w r _
 have x2 := BX.c2; have x3 := BX.c3; have x4 := BX.c4; have x5 := BX.c5; have x6 := BX.c6; have x7 := BX.c7; have x8 := BX.c8
 have HX := hid (And.intro x2 x3); have HBM : Hid (∀ b, Bm p m1 m2 m b → b < w.heap.size) := hid fun b h => T.bm h
 have HNI : Hid (¬ Lg.ItsL p m w.heap.size) := hid fun h => by have := HBM.out _ (Bm.l h); omega
 have HNB : Hid (¬ Bm p m1 m2 m w.heap.size) := hid fun h => by have := HBM.out _ h; omega
 have HT := hid (T.later hbx); have HBX := hid hbx; have LA : Hid (∀ W, Below wx.heap.size wx W → Calls Tryz.prog 97 #[.pointer (some ⟨p, 1, none⟩), .agg #[.int .u32 r.c, .int .u32 r.s, .int .u32 r.h, .int .i64 r.oc, .int .u64 r.w, .int .u32 r.l, .int .u32 r.n]] W fun e w' => e = .returned (.tuple #[]) ∧ Hid (∃ m', St F w' p m1 m2 m' V I (layS s (enR r)) ∧ (m' = m ∨ ∃ b, m' = some b ∧ wx.heap.size ≤ b) ∧ Onl (Lg.ItsL p m) wx w')) := hid fun W hb => by
  refine (lay_is (HT.out.later hb) (enR r)).mono ?_; rintro e w' ⟨he, m', h1, h2, h3⟩; exact ⟨he, hid ⟨m', h1, h2.imp id fun ⟨b, h, k⟩ => ⟨b, h, Nat.le_trans hb.size k⟩, (Onl.of_below hb).trans h3⟩⟩
 clear T hbx BX; go_enter Tryz.func58, Tryz.ntmps58
 go_wp2_with fail
 rw [← hwx]; clear hwx; go_cut [] (fun wz => ∃ w3, w3 = wz ∧ ∃ m', St F w3 p m1 m2 m' V I (layS s (enR r)) ∧ (m' = m ∨ ∃ b, m' = some b ∧ wx.heap.size ≤ b) ∧ Onl (Lg.ItsL p m) wx w3)
 case first =>
  have hni : ¬ Lg.ItsL p m w.heap.size := HNI.out; go_region_held3 (fun w' => w'.cell? ⟨w.heap.size, 2, none⟩ = some (.int .u32 r.c) ∧ w'.cell? ⟨w.heap.size, 3, none⟩ = some (.int .u32 r.s) ∧ w'.cell? ⟨w.heap.size, 4, none⟩ = some (.int .u32 r.h) ∧ w'.cell? ⟨w.heap.size, 5, none⟩ = some (.int .i64 r.oc) ∧ w'.cell? ⟨w.heap.size, 6, none⟩ = some (.int .u64 r.w) ∧ w'.cell? ⟨w.heap.size, 7, none⟩ = some (.int .u32 r.l) ∧ w'.cell? ⟨w.heap.size, 8, none⟩ = some (.int .u32 r.n) ∧ Onl (Lg.ItsL p m) wx w')
   ((refine (fun (hO : Onl (Lg.ItsL p m) wx _) => ⟨hO.cell hni x2, hO.cell hni x3, hO.cell hni x4, hO.cell hni x5, hO.cell hni x6, hO.cell hni x7, hO.cell hni x8, hO⟩) ?_; (repeat (first | with_reducible exact Onl.refl _ _ | with_reducible assumption | with_reducible refine Onl.drew ?_ | with_reducible refine Onl.al ?_ _))))
   (first | (go_at_call 97; refine (LA.out _ (by (repeat (first | with_reducible exact Below.refl _ _ | with_reducible assumption | with_reducible refine Below.drew ?_ | with_reducible refine Below.al ?_ _ | with_reducible refine Below.setCell ?_ (by first | exact Nat.le_refl _ | (simp; omega) | (simp; done)) _ | with_reducible refine Below.on ?_ (by assumption))))).mono ?_; rintro e w2 ⟨rfl, HP⟩; have hO2 : Onl (Lg.ItsL p m) wx w2 := (by obtain ⟨_, _, _, h⟩ := HP.out; exact h)))
  all_goals (try go_wp2_with fail)
  all_goals go_meet
  all_goals exact ⟨_, rfl, HP.out⟩
 case rest =>
  obtain ⟨w3, rfl, m', T2, hm', ho⟩ := hcut; obtain ⟨x2, x3⟩ := HX.out; have hni : ¬ Lg.ItsL p m w.heap.size := HNI.out; have y2 := ho.cell hni x2; have y3 := ho.cell hni x3
  have HMF : Hid (m' = m ∨ ∃ b, m' = some b ∧ w.heap.size ≤ b) := hid (hm'.imp id fun ⟨b, h, k⟩ => ⟨b, h, Nat.le_trans HBX.out.size k⟩); have HOW : Hid (Onl (Bm p m1 m2 m) w w3) := hid ((Onl.of_below HBX.out).trans (ho.mono fun b h => Bm.l h)); have DR : Hid (∀ W, Below w3.heap.size w3 W → Calls Tryz.prog 98 #[.pointer (some ⟨p, 2, none⟩), .agg #[.int .u32 r.c, .int .u32 r.s]] W fun e w' => ∃ u, e = .returned (.bool u) ∧ Hid (∃ V' I', St F w' p m1 m2 m' V' I' (setS s r) ∧ Onl (Bm p m1 m2 m) w w' ∧ Onl (Lk.Its p m1 m2) w3 w')) := hid fun W hb => by
   refine (drop_is (T2.later hb) (r.c, r.s)).mono ?_; rintro e w' ⟨u, he, HP⟩; obtain ⟨V', I', h1, h2⟩ := HP.out; rw [layS_H] at h1; exact ⟨u, he, hid ⟨V', I', h1, (HOW.out.on hb).trans (h2.mono fun b h => Bm.t h), (Onl.of_below hb).trans h2⟩⟩
  clear LA x2 x3 x4 x5 x6 x7 x8 T2 hm' ho HX HT; go_wp2_with fail
  have hnb : ¬ Lk.Its p m1 m2 w.heap.size := fun h => HNB.out (Bm.t h)
  go_region_held3 (fun w' => w'.cell? ⟨w.heap.size, 2, none⟩ = some (.int .u32 r.c) ∧ w'.cell? ⟨w.heap.size, 3, none⟩ = some (.int .u32 r.s) ∧ Onl (Lk.Its p m1 m2) w3 w')
   ((refine (fun (hO : Onl (Lk.Its p m1 m2) w3 _) => ⟨hO.cell hnb y2, hO.cell hnb y3, hO⟩) ?_; (repeat (first | with_reducible exact Onl.refl _ _ | with_reducible assumption | with_reducible refine Onl.drew ?_ | with_reducible refine Onl.al ?_ _))))
   (first | (go_at_call 98; refine (DR.out _ (by (repeat (first | with_reducible exact Below.refl _ _ | with_reducible assumption | with_reducible refine Below.drew ?_ | with_reducible refine Below.al ?_ _ | with_reducible refine Below.setCell ?_ (by first | exact Nat.le_refl _ | (simp; omega) | (simp; done)) _ | with_reducible refine Below.on ?_ (by assumption))))).mono ?_; rintro e w2 ⟨u, rfl, HP⟩; have hO2 : Onl (Lk.Its p m1 m2) w3 w2 := (by obtain ⟨_, _, _, _, h⟩ := HP.out; exact h)))
  all_goals (try go_wp2_with fail)
  all_goals go_end0
  all_goals (obtain ⟨V', I', h1, h2, _⟩ := HP.out; exact ⟨rfl, m', V', I', h1, HMF.out, h2⟩)
end Go.Proofs.YtneojeidpfjpbaaGreatDoor.Ys
