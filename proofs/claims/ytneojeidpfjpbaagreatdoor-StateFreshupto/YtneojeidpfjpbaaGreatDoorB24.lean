import Derived.Test.YtneojeidpfjpbaaGreatDoorB23
set_option linter.unusedVariables false
set_option maxHeartbeats 1000000
namespace Go.Proofs.YtneojeidpfjpbaaGreatDoor.Ys
open Go.RowKit Go.Sort
abbrev hvR (r : Rg) : Lk.Hv := ⟨⟨⟨r.c, r.s⟩, r.h, r.w, r.l, r.n, r.rs, r.ws⟩, r.ra, r.rc, r.wa, r.wc⟩
abbrev acB (s : Ps) (t : Vs.Sp) : Bool := !s.cm || lsS s.lc t
abbrev ovA (s : Ps) (r : Rg) : Bool := r.ws.any (ovB s (jb (at' r)))
def prpE (s : Ps) (r : Rg) : Int := if acB s (at' r) && !ovA s r && hldB s (hvR r).h then 0 else 130
def prpS (s : Ps) (r : Rg) : Ps := if acB s (at' r) && !ovA s r then hldS s (hvR r).h else s
theorem prepare_is {F : Nat → Prop} {w : World} {p : Nat} {m1 m2 m : Option Nat} {V : List Lk.Hv} {I : Lk.It} {s : Ps} (T : St F w p m1 m2 m V I s) (hn : Vs.countM s.M ≤ 268435456) (r : Rg) (hv : (hvR r).ok w) (hat : OkS (at' r)) (hj : acB s (at' r) = true → jbB (at' r) = true) (hk : ∀ x ∈ r.ws, KeyOk x) :
  Calls Tryz.prog 20 #[sp p, r.val] w fun e w' => e = .returned (.int .i64 (prpE s r)) ∧ ∃ m1' m2' V' I', St F w' p m1' m2' m V' I' (prpS s r) ∧ (∀ b, Lk.Its p m1' m2' b → Lk.Its p m1 m2 b ∨ w.heap.size ≤ b) ∧ Onl (Lk.Its p m1 m2) w w' := by
 obtain ⟨wx, hwx⟩ : ∃ wx, wx = (w.alloc (.cells r.cells 43)).alloc (.cells #[.int .u32 r.c, .int .u32 r.s, .int .u32 r.h, .int .u64 r.w, .int .u32 r.l, .int .u32 r.n, .slice r.ra r.rs.length r.rc, .slice r.wa r.ws.length r.wc] 52) := ⟨_, rfl⟩; have hbx : Below w.heap.size w wx := by rw [hwx]; exact Below.al (Below.al (Below.refl _ _) _) _
 have BX : BoxG wx w.heap.size r := by rw [hwx]; exact (boxG w r _).later (Below.al (Below.refl _ _) _)
 have x6 := BX.c6; have x7 := BX.c7; have x8 := BX.c8
 have z0 : wx.cell? ⟨w.heap.size + 1, 0, none⟩ = some (.int .u32 r.c) := by rw [hwx]; simp [go_sem]
 have z1 : wx.cell? ⟨w.heap.size + 1, 1, none⟩ = some (.int .u32 r.s) := by rw [hwx]; simp [go_sem]
 have z2 : wx.cell? ⟨w.heap.size + 1, 2, none⟩ = some (.int .u32 r.h) := by rw [hwx]; simp [go_sem]
 have z3 : wx.cell? ⟨w.heap.size + 1, 3, none⟩ = some (.int .u64 r.w) := by rw [hwx]; simp [go_sem]
 have z4 : wx.cell? ⟨w.heap.size + 1, 4, none⟩ = some (.int .u32 r.l) := by rw [hwx]; simp [go_sem]
 have z5 : wx.cell? ⟨w.heap.size + 1, 5, none⟩ = some (.int .u32 r.n) := by rw [hwx]; simp [go_sem]
 have z6 : wx.cell? ⟨w.heap.size + 1, 6, none⟩ = some (.slice r.ra r.rs.length r.rc) := by rw [hwx]; simp [go_sem]
 have z7 : wx.cell? ⟨w.heap.size + 1, 7, none⟩ = some (.slice r.wa r.ws.length r.wc) := by rw [hwx]; simp [go_sem]
 have HT := hid (T.later hbx); have HBX := hid hbx; have HV := hid hv; have HNI : Hid (¬ Lk.Its p m1 m2 w.heap.size ∧ ¬ Lk.Its p m1 m2 (w.heap.size + 1)) := hid ⟨fun h => by have := T.bm (Bm.t (m := m) h); omega, fun h => by have := T.bm (Bm.t (m := m) h); omega⟩; obtain ⟨A, hA⟩ : ∃ A, acB s (at' r) = A := ⟨_, rfl⟩; obtain ⟨O, hO⟩ : ∃ O, ovA s r = O := ⟨_, rfl⟩; obtain ⟨G, hG⟩ : ∃ G, hldB s (hvR r).h = G := ⟨_, rfl⟩; have AC : Hid (∀ W, Below wx.heap.size wx W → Calls Tryz.prog 53 #[.pointer (some ⟨p, 1, none⟩), .agg #[.int .u64 r.w, .int .u32 r.l, .int .u32 r.n]] W fun e w' => e = .returned (.bool A) ∧ Below W.heap.size W w') := hid fun W hb => aboveCommits_is (HT.out.later hb) (at' r) hA
 have OV : Hid (A = true → ∀ W, Below wx.heap.size wx W → Calls Tryz.prog 54 #[.pointer (some ⟨p, 1, none⟩), .agg #[.int .u32 r.c, .int .u32 r.s, .int .u32 r.h, .int .u64 r.w, .int .u32 r.l, .int .u32 r.n, .slice r.ra r.rs.length r.rc, .slice r.wa r.ws.length r.wc]] W fun e w' => e = .returned (.bool O) ∧ Below W.heap.size W w') := hid fun hA' W hb => by
  have := overtaken_is (HT.out.later hb) hn (HV.out.later (Below.on hbx hb)) hat (hj (hA.trans hA')) hk; rw [show (hvR r).h.ws.any (ovB s (jb (atH (hvR r).h))) = O from hO] at this; exact this
 have HL : Hid (∀ W, Below wx.heap.size wx W → Calls Tryz.prog 55 #[.pointer (some ⟨p, 1, none⟩), .agg #[.int .u32 r.c, .int .u32 r.s, .int .u32 r.h, .int .u64 r.w, .int .u32 r.l, .int .u32 r.n, .slice r.ra r.rs.length r.rc, .slice r.wa r.ws.length r.wc]] W fun e w' => e = .returned (.bool G) ∧ Hid (∃ m1' m2' V' I', St F w' p m1' m2' m V' I' (hldS s (hvR r).h) ∧ (∀ b, Lk.Its p m1' m2' b → Lk.Its p m1 m2 b ∨ w.heap.size ≤ b) ∧ Onl (Lk.Its p m1 m2) w w' ∧ Onl (Lk.Its p m1 m2) wx w')) := hid fun W hb => by
  have hBW : Below w.heap.size w W := Below.on hbx hb; refine (hold_is (HT.out.later hb) (HV.out.later hBW)).mono ?_; rintro e w' ⟨he, m1', m2', V', I', h1, h2, h3⟩; exact ⟨by rw [he, hG], hid ⟨m1', m2', V', I', h1, fun b hb' => (h2 b hb').imp id fun k => Nat.le_trans hBW.size k, (Onl.of_below hBW).trans h3, (Onl.of_below hb).trans h3⟩⟩
 have HE : Hid (prpE s r = if A && !O && G then 0 else 130) := hid (by rw [prpE, hA, hO, hG]); have HS : Hid (prpS s r = if A && !O then hldS s (hvR r).h else s) := hid (by rw [prpS, hA, hO]); clear T hbx hv hat hj hk hn hA hO hG BX; go_enter Tryz.func20, Tryz.ntmps20
 have q6 := cell_regrown x6; have q7 := cell_regrown x7; have q8 := cell_regrown x8
 have q10 := cell_regrown z0; have q11 := cell_regrown z1; have q12 := cell_regrown z2; have q13 := cell_regrown z3; have q14 := cell_regrown z4; have q15 := cell_regrown z5; have q16 := cell_regrown z6; have q17 := cell_regrown z7; go_wp2_with fail
 rw [← hwx]; clear hwx; cases A
 ·refine wp_region_quiet_below (by kernel_rfl) (by kernel_rfl) ?_; repeat (go_big_quiet_step ((go_at_call 53; exact Calls.regrown_of (AC.out _ (below_regrown _ _ _)))))
  refine wpQuiet_nil ?_; intro wq hq; replace hq := below_of_regrown hq; go_wp2_with fail
  go_ret
  exact ⟨by rw [HE.out]; rfl, m1, m2, V, I, by rw [HS.out]; exact HT.out.later hq, fun b hb => .inl hb, Onl.of_below (Below.on HBX.out hq)⟩
 replace OV := hid (OV.out rfl); cases O
 ·clear q6 q7 q8 q10 q11 q12 q13 q14 q15 q16 q17; obtain ⟨hni, hnj⟩ := HNI.out; go_cut [38] (fun s38 wz => s38 = .bool (!G) ∧ ∃ m1' m2' V' I', St F wz p m1' m2' m V' I' (hldS s (hvR r).h) ∧ (∀ b, Lk.Its p m1' m2' b → Lk.Its p m1 m2 b ∨ w.heap.size ≤ b) ∧ Onl (Lk.Its p m1 m2) w wz)
  case first =>
   go_region_held3 (fun w' => w'.cell? ⟨w.heap.size, 6, none⟩ = some (.int .u64 r.w) ∧ w'.cell? ⟨w.heap.size, 7, none⟩ = some (.int .u32 r.l) ∧ w'.cell? ⟨w.heap.size, 8, none⟩ = some (.int .u32 r.n) ∧ w'.cell? ⟨w.heap.size + 1, 0, none⟩ = some (.int .u32 r.c) ∧ w'.cell? ⟨w.heap.size + 1, 1, none⟩ = some (.int .u32 r.s) ∧ w'.cell? ⟨w.heap.size + 1, 2, none⟩ = some (.int .u32 r.h) ∧ w'.cell? ⟨w.heap.size + 1, 3, none⟩ = some (.int .u64 r.w) ∧ w'.cell? ⟨w.heap.size + 1, 4, none⟩ = some (.int .u32 r.l) ∧ w'.cell? ⟨w.heap.size + 1, 5, none⟩ = some (.int .u32 r.n) ∧ w'.cell? ⟨w.heap.size + 1, 6, none⟩ = some (.slice r.ra r.rs.length r.rc) ∧ w'.cell? ⟨w.heap.size + 1, 7, none⟩ = some (.slice r.wa r.ws.length r.wc) ∧ Onl (Lk.Its p m1 m2) wx w')
    ((refine (fun (hO : Onl (Lk.Its p m1 m2) wx _) => ⟨hO.cell hni x6, hO.cell hni x7, hO.cell hni x8, hO.cell hnj z0, hO.cell hnj z1, hO.cell hnj z2, hO.cell hnj z3, hO.cell hnj z4, hO.cell hnj z5, hO.cell hnj z6, hO.cell hnj z7, hO⟩) ?_; (repeat (first | with_reducible exact Onl.refl _ _ | with_reducible assumption | with_reducible refine Onl.drew ?_ | with_reducible refine Onl.al ?_ _))))
    (first | (go_at_call 53; refine (AC.out _ (by (repeat (first | with_reducible exact Below.refl _ _ | with_reducible assumption | with_reducible refine Below.drew ?_ | with_reducible refine Below.al ?_ _ | with_reducible refine Below.setCell ?_ (by first | exact Nat.le_refl _ | (simp; omega) | (simp; done)) _ | with_reducible refine Below.on ?_ (by assumption))))).mono ?_; rintro e w4 ⟨rfl, hb4⟩; have hBA : Below wx.heap.size wx w4 := (by refine Below.on ?_ hb4; (repeat (first | with_reducible exact Below.refl _ _ | with_reducible assumption | with_reducible refine Below.drew ?_ | with_reducible refine Below.al ?_ _ | with_reducible refine Below.setCell ?_ (by first | exact Nat.le_refl _ | (simp; omega) | (simp; done)) _ | with_reducible refine Below.on ?_ (by assumption)))); have hOA : Onl (Lk.Its p m1 m2) wx w4 := Onl.of_below hBA) | (go_at_call 54; refine (OV.out _ (by (repeat (first | with_reducible exact Below.refl _ _ | with_reducible assumption | with_reducible refine Below.drew ?_ | with_reducible refine Below.al ?_ _ | with_reducible refine Below.setCell ?_ (by first | exact Nat.le_refl _ | (simp; omega) | (simp; done)) _ | with_reducible refine Below.on ?_ (by assumption))))).mono ?_; rintro e w5 ⟨rfl, hb5⟩; have hBO : Below wx.heap.size wx w5 := (by refine Below.on ?_ hb5; (repeat (first | with_reducible exact Below.refl _ _ | with_reducible assumption | with_reducible refine Below.drew ?_ | with_reducible refine Below.al ?_ _ | with_reducible refine Below.setCell ?_ (by first | exact Nat.le_refl _ | (simp; omega) | (simp; done)) _ | with_reducible refine Below.on ?_ (by assumption)))); have hOO : Onl (Lk.Its p m1 m2) wx w5 := Onl.of_below hBO) | (go_at_call 55; refine (HL.out _ (by (repeat (first | with_reducible exact Below.refl _ _ | with_reducible assumption | with_reducible refine Below.drew ?_ | with_reducible refine Below.al ?_ _ | with_reducible refine Below.setCell ?_ (by first | exact Nat.le_refl _ | (simp; omega) | (simp; done)) _ | with_reducible refine Below.on ?_ (by assumption))))).mono ?_; rintro e w6 ⟨rfl, HP⟩; have hO2 : Onl (Lk.Its p m1 m2) wx w6 := (by obtain ⟨_, _, _, _, _, _, _, h⟩ := HP.out; exact h)))
   all_goals (try go_wp2_with fail)
   all_goals go_meet
   all_goals (obtain ⟨m1', m2', V', I', h1, h2, h3, _⟩ := HP.out; exact ⟨rfl, m1', m2', V', I', h1, h2, h3⟩)
  case rest =>
   obtain ⟨rfl, m1', m2', V', I', h1, h2, h3⟩ := hcut; have HP := hid (And.intro h1 (And.intro h2 h3)); clear h1 h2 h3 AC OV HL; cases G
   ·go_wp2_with fail
    go_ret
    have K1 : St F wc p m1' m2' m V' I' (prpS s r) := by rw [HS.out]; exact HP.out.1
    first | exact ⟨by rw [HE.out]; rfl, m1', m2', V', I', K1, HP.out.2.1, HP.out.2.2⟩ | exact ⟨by rw [HE.out]; rfl, m1', m2', ⟨V', I', K1⟩, HP.out.2.1, HP.out.2.2⟩
   ·go_wp2_with fail
    go_ret
    have K1 : St F wc p m1' m2' m V' I' (prpS s r) := by rw [HS.out]; exact HP.out.1
    first | exact ⟨by rw [HE.out]; rfl, m1', m2', V', I', K1, HP.out.2.1, HP.out.2.2⟩ | exact ⟨by rw [HE.out]; rfl, m1', m2', ⟨V', I', K1⟩, HP.out.2.1, HP.out.2.2⟩
 ·refine wp_region_quiet_below (by kernel_rfl) (by kernel_rfl) ?_; repeat (go_big_quiet_step (first | (go_at_call 53; exact Calls.regrown_of (AC.out _ (below_regrown _ _ _))) | (go_at_call 54; exact Calls.regrown_of (OV.out _ (below_regrown _ _ _)))))
  refine wpQuiet_nil ?_; intro wq hq; replace hq := below_of_regrown hq; go_wp2_with fail
  go_ret
  exact ⟨by rw [HE.out]; rfl, m1, m2, V, I, by rw [HS.out]; exact HT.out.later hq, fun b hb => .inl hb, Onl.of_below (Below.on HBX.out hq)⟩
structure BoxH (w : World) (q : Nat) (u : Lk.Hv) : Prop where
 c0 : w.cell? ⟨q, 0, none⟩ = some (.int .u32 u.h.id.1)
 c1 : w.cell? ⟨q, 1, none⟩ = some (.int .u32 u.h.id.2)
 c2 : w.cell? ⟨q, 2, none⟩ = some (.int .u32 u.h.home)
 c3 : w.cell? ⟨q, 3, none⟩ = some (.int .u64 u.h.w)
 c4 : w.cell? ⟨q, 4, none⟩ = some (.int .u32 u.h.l)
 c5 : w.cell? ⟨q, 5, none⟩ = some (.int .u32 u.h.n)
 c6 : w.cell? ⟨q, 6, none⟩ = some (.slice u.ra u.h.rs.length u.rc)
 c7 : w.cell? ⟨q, 7, none⟩ = some (.slice u.wa u.h.ws.length u.wc)
theorem BoxH.later {w w' : World} {q : Nat} {u : Lk.Hv} (h : BoxH w q u) (hb : Below w.heap.size w w') : BoxH w' q u := ⟨cell_later hb h.c0, cell_later hb h.c1, cell_later hb h.c2, cell_later hb h.c3, cell_later hb h.c4, cell_later hb h.c5, cell_later hb h.c6, cell_later hb h.c7⟩
def getH (H : List Lk.Hd) (i : Lk.Ix) : Option Lk.Hd := H.find? fun h => decide (h.id = i)
theorem getH_some {H : List Lk.Hd} (hn : (H.map Lk.Hd.id).Nodup) {i : Lk.Ix} {h : Lk.Hd} (hm : h ∈ H) (hi : h.id = i) : getH H i = some h := by
 induction H with
 | nil => cases hm
 | cons x H ih =>
  rw [List.map_cons, List.nodup_cons] at hn; unfold getH; rw [List.find?_cons]; by_cases hx : x.id = i
  ·rw [decide_eq_true hx]; rcases List.mem_cons.1 hm with rfl | k
   ·rfl
   ·exact absurd (List.mem_map.2 ⟨h, k, hi.trans hx.symm⟩) hn.1
  ·rw [decide_eq_false hx]; rcases List.mem_cons.1 hm with rfl | k
   ·exact absurd hi hx
   ·exact ih hn.2 k
theorem getH_none {H : List Lk.Hd} {i : Lk.Ix} (h : Lk.hasB H i = false) : getH H i = none := by
 have h' : ¬ i ∈ H.map Lk.Hd.id := by simpa [Lk.hasB] using h
 exact List.find?_eq_none.2 fun x hx => by simpa using fun e => h' (List.mem_map.2 ⟨x, hx, e⟩)
structure Got (w w' : World) (s : Ps) (i : Lk.Ix) (u : Lk.Hv) (ok : Bool) : Prop where
 yes : ok = true → getH s.H i = some u.h
 no : ok = false → getH s.H i = none
 fresh : u.fresh w.heap.size w'
 rows : u.ok w'
 base : ∀ g off, u.wa = some ⟨g, off, none⟩ → w.heap.size ≤ g
theorem got_is {F : Nat → Prop} {w : World} {p : Nat} {m1 m2 m : Option Nat} {V : List Lk.Hv} {I : Lk.It} {s : Ps} (T : St F w p m1 m2 m V I s) (i : Lk.Ix) :
  Calls Tryz.prog 42 #[.pointer (some ⟨p, 2, none⟩), .agg #[.int .u32 i.1, .int .u32 i.2]] w fun e w' => ∃ (u : Lk.Hv) (ok : Bool), e = .returned (.tuple #[.agg #[.int .u32 u.h.id.1, .int .u32 u.h.id.2, .int .u32 u.h.home, .int .u64 u.h.w, .int .u32 u.h.l, .int .u32 u.h.n, .slice u.ra u.h.rs.length u.rc, .slice u.wa u.h.ws.length u.wc], .bool ok]) ∧ Hid (Got w w' s i u ok) ∧ Below w.heap.size w w' := by
 refine (Lk.get_is T.tb i).mono ?_; rintro e w' ⟨u, he, h1, h2, h3, h4, h5⟩; rw [T.h] at h1 h2 he; have hnd : (s.H.map Lk.Hd.id).Nodup := by have := T.tb.ok.ids; rw [T.h] at this; exact this
 exact ⟨u, _, he, hid ⟨fun k => getH_some hnd (h1.out k).1 (h1.out k).2, fun k => getH_none k, h3.out, h4.out, fun g off e => by
  obtain ⟨_, ⟨e1, _⟩ | ⟨g', cap, cur, e1, hB, _⟩⟩ := h3.out.w
  ·rw [e] at e1; cases e1
  ·rw [e] at e1; injection e1 with e2; injection e2 with e3; injection e3 with e4; omega⟩, h5.out⟩
theorem foreign_held {w : World} {q : Nat} {cs : Array Value} {z : Nat × Nat} (h : w.heap[q]? = some (.cells cs 52 z)) : Lk.Foreign w (fun b => b = q) := fun b hb => by
 subst hb; exact ⟨fun cur h' => absurd (Lk.cells_ne h h') (by decide), fun cur h' => absurd (Lk.cells_ne h h') (by decide)⟩
def cmtB (s : Ps) (r : Rg) (h : Lk.Hd) : Bool := h.home == r.h && !lsS (at' r) (atH h) && decide (r.w < s.ceil)
def cmtE (s : Ps) (r : Rg) : Int := match getH s.H (r.c, r.s) with
 | none => 130
 | some h => if cmtB s r h then 0 else 130
def cmtS (s : Ps) (r : Rg) : Ps := match getH s.H (r.c, r.s) with
 | none => s
 | some h => if cmtB s r h then setS { s with M := Vs.instR s.M h.ws (at' r) } r else s
def Aft (F : Nat → Prop) (w : World) (p : Nat) (m1 m2 m : Option Nat) (s' : Ps) (w' : World) : Prop := ∃ F' m' V' I', St F' w' p m1 m2 m' V' I' s' ∧ (∀ b, F' b → F b ∨ w.heap.size ≤ b) ∧ (m' = m ∨ ∃ b, m' = some b ∧ w.heap.size ≤ b) ∧ Onl (fun b => F b ∨ Bm p m1 m2 m b) w w'
theorem boxH_new (w : World) (u : Lk.Hv) (t : TypeId) : BoxH (w.alloc (.cells #[.int .u32 u.h.id.1, .int .u32 u.h.id.2, .int .u32 u.h.home, .int .u64 u.h.w, .int .u32 u.h.l, .int .u32 u.h.n, .slice u.ra u.h.rs.length u.rc, .slice u.wa u.h.ws.length u.wc] t)) w.heap.size u := by
 have h := World.alloc_heap_new w (.cells #[.int .u32 u.h.id.1, .int .u32 u.h.id.2, .int .u32 u.h.home, .int .u64 u.h.w, .int .u32 u.h.l, .int .u32 u.h.n, .slice u.ra u.h.rs.length u.rc, .slice u.wa u.h.ws.length u.wc] t); exact ⟨Vs.cell_of_obj h rfl, Vs.cell_of_obj h rfl, Vs.cell_of_obj h rfl, Vs.cell_of_obj h rfl, Vs.cell_of_obj h rfl, Vs.cell_of_obj h rfl, Vs.cell_of_obj h rfl, Vs.cell_of_obj h rfl⟩
theorem boxH_put {w : World} {q : Nat} {a0 a1 a2 a3 a4 a5 a6 a7 : Value} {t : TypeId} {z : Nat × Nat} (h : w.heap[q]? = some (.cells #[a0, a1, a2, a3, a4, a5, a6, a7] t z)) (u : Lk.Hv) : BoxH ((((((((w.setCell ⟨q, 0, none⟩ (.int .u32 u.h.id.1)).setCell ⟨q, 1, none⟩ (.int .u32 u.h.id.2)).setCell ⟨q, 2, none⟩ (.int .u32 u.h.home)).setCell ⟨q, 3, none⟩ (.int .u64 u.h.w)).setCell ⟨q, 4, none⟩ (.int .u32 u.h.l)).setCell ⟨q, 5, none⟩ (.int .u32 u.h.n)).setCell ⟨q, 6, none⟩ (.slice u.ra u.h.rs.length u.rc)).setCell ⟨q, 7, none⟩ (.slice u.wa u.h.ws.length u.wc)) q u := by
 have h := (heap_put (o := 7) (.slice u.wa u.h.ws.length u.wc) (heap_put (o := 6) (.slice u.ra u.h.rs.length u.rc) (heap_put (o := 5) (.int .u32 u.h.n) (heap_put (o := 4) (.int .u32 u.h.l) (heap_put (o := 3) (.int .u64 u.h.w) (heap_put (o := 2) (.int .u32 u.h.home) (heap_put (o := 1) (.int .u32 u.h.id.2) (heap_put (o := 0) (.int .u32 u.h.id.1) h)))))))); simp only [List.setIfInBounds_toArray, List.set_cons_zero, List.set_cons_succ] at h; exact ⟨Vs.cell_of_obj h rfl, Vs.cell_of_obj h rfl, Vs.cell_of_obj h rfl, Vs.cell_of_obj h rfl, Vs.cell_of_obj h rfl, Vs.cell_of_obj h rfl, Vs.cell_of_obj h rfl, Vs.cell_of_obj h rfl⟩
theorem commit_is {F : Nat → Prop} {w : World} {p : Nat} {m1 m2 m : Option Nat} {V : List Lk.Hv} {I : Lk.It} {s : Ps} (T : St F w p m1 m2 m V I s) (r : Rg) (hn : (Vs.countM s.M + 17) * 64 ≤ 140737488355328) :
  Calls Tryz.prog 57 #[sp p, r.val] w fun e w' => e = .returned (.int .i64 (cmtE s r)) ∧ Aft F w p m1 m2 m (cmtS s r) w' := by
 obtain ⟨wx, hwx⟩ : ∃ wx, wx = w.alloc (.cells r.cells 43) := ⟨_, rfl⟩; have hbx : Below w.heap.size w wx := by rw [hwx]; exact Below.al (Below.refl _ _) _
 have BX : BoxG wx w.heap.size r := by rw [hwx]; exact boxG w r _
 have x2 := BX.c2; have x3 := BX.c3
 have HX := hid BX; have HT := hid (T.later hbx); have HBX := hid hbx; have HN := hid hn; have hlt0 : w.heap.size < wx.heap.size := by rw [hwx]; simp
 have HBM : Hid (∀ b, F b ∨ Bm p m1 m2 m b → b < w.heap.size) := hid fun b h => h.elim (fun k => by obtain ⟨y, hy, _⟩ := T.st; exact hy.lt k) fun k => T.bm k
 have GT : Hid (∀ W, Below wx.heap.size wx W → Calls Tryz.prog 42 #[.pointer (some ⟨p, 2, none⟩), .agg #[.int .u32 r.c, .int .u32 r.s]] W fun e w' => ∃ (u : Lk.Hv) (ok : Bool), e = .returned (.tuple #[.agg #[.int .u32 u.h.id.1, .int .u32 u.h.id.2, .int .u32 u.h.home, .int .u64 u.h.w, .int .u32 u.h.l, .int .u32 u.h.n, .slice u.ra u.h.rs.length u.rc, .slice u.wa u.h.ws.length u.wc], .bool ok]) ∧ Hid (Got W w' s (r.c, r.s) u ok) ∧ Below W.heap.size W w') := hid fun W hb => got_is (HT.out.later hb) (r.c, r.s)
 clear T hbx BX hn; go_enter Tryz.func57, Tryz.ntmps57
 go_wp2_with fail
 rw [← hwx]; clear hwx; go_cut [5, 6] (fun s5 s6 wz => ∃ (q : Nat) (u : Lk.Hv) (ok : Bool) (w3 : World), s5 = .pointer (some ⟨q, 0, none⟩) ∧ s6 = .bool ok ∧ w3 = wz ∧ wx.heap.size ≤ q ∧ BoxH w3 q u ∧ (ok = true → getH s.H (r.c, r.s) = some u.h) ∧ (ok = false → getH s.H (r.c, r.s) = none) ∧ (∀ g off, u.wa = some ⟨g, off, none⟩ → wx.heap.size ≤ g) ∧ u.ok w3 ∧ Below wx.heap.size wx w3)
 case first =>
  go_region_held3 (fun w' => w'.cell? ⟨w.heap.size, 2, none⟩ = some (.int .u32 r.c) ∧ w'.cell? ⟨w.heap.size, 3, none⟩ = some (.int .u32 r.s) ∧ Below wx.heap.size wx w')
   ((refine (fun (hB : Below wx.heap.size wx _) => ⟨cell_later hB x2, cell_later hB x3, hB⟩) ?_; (repeat (first | with_reducible exact Below.refl _ _ | with_reducible assumption | with_reducible refine Below.drew ?_ | with_reducible refine Below.al ?_ _ | with_reducible refine Below.setCell ?_ (by first | exact Nat.le_refl _ | (simp; omega) | (simp; done)) _ | with_reducible refine Below.on ?_ (by assumption)))))
   (first | (go_at_call 42; refine (GT.out _ (by (repeat (first | with_reducible exact Below.refl _ _ | with_reducible assumption | with_reducible refine Below.drew ?_ | with_reducible refine Below.al ?_ _ | with_reducible refine Below.setCell ?_ (by first | exact Nat.le_refl _ | (simp; omega) | (simp; done)) _ | with_reducible refine Below.on ?_ (by assumption))))).mono ?_; rintro e w2 ⟨u, ok, rfl, HG, hb2⟩; have hB2 : Below wx.heap.size wx w2 := (by refine Below.on ?_ hb2; (repeat (first | with_reducible exact Below.refl _ _ | with_reducible assumption | with_reducible refine Below.drew ?_ | with_reducible refine Below.al ?_ _ | with_reducible refine Below.setCell ?_ (by first | exact Nat.le_refl _ | (simp; omega) | (simp; done)) _ | with_reducible refine Below.on ?_ (by assumption)))); have HFR : Hid (∀ g off, u.wa = some ⟨g, off, none⟩ → wx.heap.size ≤ g) := hid (fun g off e => (by refine Nat.le_trans ?_ (HG.out.base g off e); first | with_reducible exact Nat.le_refl _ | (simp; done) | (simp; omega))); (first | (have hk2 : w2.heap[wx.heap.size]? = some (.cells #[.int .u32 0, .int .u32 0, .int .u32 0, .int .u64 0, .int .u32 0, .int .u32 0, .slice none 0 0, .slice none 0 0] 52) := (hb2.block _ (by simp)).trans (MapKept.heap_alloc wx.drew _).1; have f2 : ∀ o, w2.frozen? ⟨wx.heap.size, o, none⟩ = false := (fun o => by simp [World.frozen?, hk2]); have r0 : w2.cell? ⟨wx.heap.size, 0, none⟩ = some (.int .u32 0) := Vs.cell_of_obj hk2 rfl; have r1 : w2.cell? ⟨wx.heap.size, 1, none⟩ = some (.int .u32 0) := Vs.cell_of_obj hk2 rfl; have r2 : w2.cell? ⟨wx.heap.size, 2, none⟩ = some (.int .u32 0) := Vs.cell_of_obj hk2 rfl; have r3 : w2.cell? ⟨wx.heap.size, 3, none⟩ = some (.int .u64 0) := Vs.cell_of_obj hk2 rfl; have r4 : w2.cell? ⟨wx.heap.size, 4, none⟩ = some (.int .u32 0) := Vs.cell_of_obj hk2 rfl; have r5 : w2.cell? ⟨wx.heap.size, 5, none⟩ = some (.int .u32 0) := Vs.cell_of_obj hk2 rfl; have r6 : w2.cell? ⟨wx.heap.size, 6, none⟩ = some (.slice none 0 0) := Vs.cell_of_obj hk2 rfl; have r7 : w2.cell? ⟨wx.heap.size, 7, none⟩ = some (.slice none 0 0) := Vs.cell_of_obj hk2 rfl; have HK2 := hid hk2; clear hk2) | skip)))
  all_goals (try go_wp2_with fail)
  all_goals go_meet
  all_goals (refine ⟨_, u, ok, _, rfl, rfl, rfl, (by first | with_reducible exact Nat.le_refl _ | with_reducible exact hB2.size), (by first | with_reducible exact boxH_new _ _ _ | with_reducible exact boxH_put HK2.out u), HG.out.yes, HG.out.no, HFR.out, ?_, by (repeat (first | with_reducible exact Below.refl _ _ | with_reducible assumption | with_reducible refine Below.drew ?_ | with_reducible refine Below.al ?_ _ | with_reducible refine Below.setCell ?_ (by first | exact Nat.le_refl _ | (simp; omega) | (simp; done)) _ | with_reducible refine Below.on ?_ (by assumption)))⟩)
  all_goals (first | (with_reducible refine HG.out.rows.later ?_; (with_reducible exact Below.al (Below.refl _ _) _)) | (with_reducible refine HG.out.rows.typ_onl HG.out.fresh.typ ?_ (foreign_held HK2.out); (repeat (first | with_reducible refine Onl.drew ?_ | with_reducible refine onl_p _ _ _ _ ?_)); with_reducible exact Onl.refl _ _))
 case rest =>
  obtain ⟨q, u, ok, w3, rfl, rfl, rfl, hq, hbox, hy, hno, hfr, hok, hb3⟩ := hcut; have BG := HX.out.later hb3; have HT3 := hid (HT.out.later hb3); have HB3 := hid (Below.on HBX.out hb3); have HBG := hid BG; have HBH := hid hbox; have HOK := hid hok; have HFR := hid hfr; have HQ := hid hq; have g4 := cell_regrown BG.c4; have g6 := cell_regrown BG.c6; have g7 := cell_regrown BG.c7; have g8 := cell_regrown BG.c8
  have b2 := cell_regrown hbox.c2; have b3 := cell_regrown hbox.c3; have b4 := cell_regrown hbox.c4; have b5 := cell_regrown hbox.c5
  obtain ⟨R, hR⟩ : ∃ R, decide (r.w < s.ceil) = R := ⟨_, rfl⟩; have RS : Hid (∀ W, Below w3.heap.size w3 W → Calls Tryz.prog 93 #[.pointer (some ⟨p, 1, none⟩), .agg #[.int .u64 r.w, .int .u32 r.l, .int .u32 r.n]] W fun e w' => e = .returned (.bool R) ∧ Below W.heap.size W w') := hid fun W hb => reserved_is (HT3.out.later hb) (at' r) hR
  obtain ⟨L, hL⟩ : ∃ L, lessB r.w r.l r.n u.h.w u.h.l u.h.n = L := ⟨_, rfl⟩; have HL := hid hL; have HC : Hid (cmtB s r u.h = (u.h.home == r.h && !L && R)) := hid (by rw [cmtB, hR, show lsS (at' r) (atH u.h) = L from hL]); clear BG hbox hok hfr hq hb3 hR hL GT x2 x3; cases ok
  ·have hg := hno rfl; clear hy hno; have REF : Hid (cmtE s r = 130 ∧ cmtS s r = s) := hid (by simp [cmtE, cmtS, hg]); go_wp2_with fail
   refine wp_region_quiet_below (by kernel_rfl) (by kernel_rfl) ?_; repeat (go_big_quiet_step (first | (go_at_call 59; exact Calls.regrown_of (less_is HL.out _)) | (go_at_call 93; exact Calls.regrown_of (RS.out _ (below_regrown _ _ _)))))
   refine wpQuiet_nil ?_; intro wq hq; replace hq := below_of_regrown hq; go_wp2_with fail
   go_ret
   exact ⟨by rw [REF.out.1]; rfl, by rw [REF.out.2]; exact ⟨F, m, V, I, HT3.out.later hq, fun b hb => .inl hb, .inl rfl, Onl.of_below (Below.on HB3.out hq)⟩⟩
  ·have hg := hy rfl; have HG := hid hg; clear hy hno hg; by_cases hh : u.h.home = r.h
   ·have hh' : (u.h.home != r.h) = false := by simpa using hh
    have hc : cmtB s r u.h = (!L && R) := by rw [HC.out]; simp [hh]
    have HH := hid hc; clear hc hh; cases L
    ·cases R
     ·have REF : Hid (cmtE s r = 130 ∧ cmtS s r = s) := hid (by simp [cmtE, cmtS, HG.out, HH.out]); go_wp2_with fail
      refine wp_region_quiet_below (by kernel_rfl) (by kernel_rfl) ?_; repeat (go_big_quiet_step (first | (go_at_call 59; exact Calls.regrown_of (less_is HL.out _)) | (go_at_call 93; exact Calls.regrown_of (RS.out _ (below_regrown _ _ _)))))
      refine wpQuiet_nil ?_; intro wq hq; replace hq := below_of_regrown hq; go_wp2_with fail
      go_ret
      exact ⟨by rw [REF.out.1]; rfl, by rw [REF.out.2]; exact ⟨F, m, V, I, HT3.out.later hq, fun b hb => .inl hb, .inl rfl, Onl.of_below (Below.on HB3.out hq)⟩⟩
     ·have ACC : Hid (cmtE s r = 0 ∧ cmtS s r = setS { s with M := Vs.instR s.M u.h.ws (at' r) } r) := hid (by simp [cmtE, cmtS, HG.out, HH.out]); go_wp2_with fail
      refine wp_region_quiet_below (by kernel_rfl) (by kernel_rfl) ?_; repeat (go_big_quiet_step (first | (go_at_call 59; exact Calls.regrown_of (less_is HL.out _)) | (go_at_call 93; exact Calls.regrown_of (RS.out _ (below_regrown _ _ _)))))
      refine wpQuiet_nil ?_; intro wq hq; replace hq := below_of_regrown hq; clear g4 g6 g7 g8 b2 b3 b4 b5; have BG := HBG.out.later hq; have y6 := BG.c6; have y7 := BG.c7; have y8 := BG.c8
      have z7 := (HBH.out.later hq).c7; have HBQ := hid (Below.on HB3.out hq); have hnf : ¬ F w.heap.size := fun h => by have := HBM.out _ (.inl h); omega
      have hnq : ¬ F q := fun h => by have := HBM.out _ (.inl h); have := HQ.out; omega
      have IN : Hid (∀ W, Below wq.heap.size wq W → Calls Tryz.prog 96 #[.pointer (some ⟨p, 5, none⟩), .slice u.wa u.h.ws.length u.wc, .agg #[.int .u64 r.w, .int .u32 r.l, .int .u32 r.n]] W fun e w' => ∃ x, e = .returned (.int .i64 x) ∧ Hid (∃ F', St F' w' p m1 m2 m V I { s with M := Vs.instR s.M u.h.ws (at' r) } ∧ (∀ b, F' b → F b ∨ w.heap.size ≤ b) ∧ Onl F wq w')) := hid fun W hb => by
       have TT := HT3.out.later (Below.on hq hb); have hBW := Below.on HBQ.out hb; refine (Vs.installG_is (c := u.wc) (at' r) TT.st (HOK.out.later (Below.on hq hb)).w (fun b off e hf => ?_) (by have := HOK.out.wl; omega) HN.out).mono ?_
       ·have := HFR.out b off e; have := HBM.out _ (.inl hf); omega
       ·rintro e w' ⟨he, F', h1, h2, h3, h4⟩; exact ⟨_, he, hid ⟨F', TT.store h1 h3 (h4.wide (by omega) (by omega)), fun b hb' => (h2 b hb').imp id fun k => Nat.le_trans hBW.size k, (Onl.of_below hb).trans h3⟩⟩
      have BGQ := hid BG; clear BG RS HL; go_wp2_with fail
      go_cut [] (fun wz => ∃ w5, w5 = wz ∧ ∃ F', St F' w5 p m1 m2 m V I { s with M := Vs.instR s.M u.h.ws (at' r) } ∧ (∀ b, F' b → F b ∨ w.heap.size ≤ b) ∧ Onl F wq w5)
      case first =>
       go_region_held3 (fun w' => w'.cell? ⟨w.heap.size, 6, none⟩ = some (.int .u64 r.w) ∧ w'.cell? ⟨w.heap.size, 7, none⟩ = some (.int .u32 r.l) ∧ w'.cell? ⟨w.heap.size, 8, none⟩ = some (.int .u32 r.n) ∧ w'.cell? ⟨q, 7, none⟩ = some (.slice u.wa u.h.ws.length u.wc) ∧ Onl F wq w')
        ((refine (fun (hO : Onl F wq _) => ⟨hO.cell hnf y6, hO.cell hnf y7, hO.cell hnf y8, hO.cell hnq z7, hO⟩) ?_; (repeat (first | with_reducible exact Onl.refl _ _ | with_reducible assumption | with_reducible refine Onl.drew ?_ | with_reducible refine Onl.al ?_ _))))
        (first | (go_at_call 96; refine (IN.out _ (by (repeat (first | with_reducible exact Below.refl _ _ | with_reducible assumption | with_reducible refine Below.drew ?_ | with_reducible refine Below.al ?_ _ | with_reducible refine Below.setCell ?_ (by first | exact Nat.le_refl _ | (simp; omega) | (simp; done)) _ | with_reducible refine Below.on ?_ (by assumption))))).mono ?_; rintro e w6 ⟨x, rfl, HP⟩; have hO2 : Onl F wq w6 := (by obtain ⟨_, _, _, h⟩ := HP.out; exact h)))
       all_goals (try go_wp2_with fail)
       all_goals go_meet
       all_goals exact ⟨_, rfl, HP.out⟩
      case rest =>
       obtain ⟨w5, rfl, F', T5, hF', ho5⟩ := hcut; have d0 := ho5.cell hnf BGQ.out.c0; have d1 := ho5.cell hnf BGQ.out.c1; have d2 := ho5.cell hnf BGQ.out.c2; have d3 := ho5.cell hnf BGQ.out.c3; have d4 := ho5.cell hnf BGQ.out.c4; have d5 := ho5.cell hnf BGQ.out.c5; have d6 := ho5.cell hnf BGQ.out.c6; have d7 := ho5.cell hnf BGQ.out.c7; have d8 := ho5.cell hnf BGQ.out.c8; have d9 := ho5.cell hnf BGQ.out.c9; have d10 := ho5.cell hnf BGQ.out.c10; have d11 := ho5.cell hnf BGQ.out.c11
       have HO5 : Hid (Onl (fun b => F b ∨ Bm p m1 m2 m b) w w5) := hid ((Onl.of_below HBQ.out).trans (ho5.mono fun b h => .inl h)); have SE := hid (settle_is T5 r); have HF' := hid hF'; clear T5 hF' ho5 y6 y7 y8 z7 IN; go_wp2_with fail
       refine SE.out.mono ?_; rintro e w6 ⟨rfl, m', V', I', h1, h2, h3⟩; have HP : Hid (Aft F w p m1 m2 m (cmtS s r) w6) := hid ⟨F', m', V', I', by rw [ACC.out.2]; exact h1, HF'.out, h2.imp id fun ⟨b, h, k⟩ => ⟨b, h, Nat.le_trans HO5.out.size k⟩, HO5.out.trans (h3.mono fun b h => .inr h)⟩; clear h1 h2 h3 SE; go_wp2_with fail
       go_ret
       exact ⟨by rw [ACC.out.1]; rfl, HP.out⟩
    ·have REF : Hid (cmtE s r = 130 ∧ cmtS s r = s) := hid (by simp [cmtE, cmtS, HG.out, HH.out]); go_wp2_with fail
     refine wp_region_quiet_below (by kernel_rfl) (by kernel_rfl) ?_; repeat (go_big_quiet_step (first | (go_at_call 59; exact Calls.regrown_of (less_is HL.out _)) | (go_at_call 93; exact Calls.regrown_of (RS.out _ (below_regrown _ _ _)))))
     refine wpQuiet_nil ?_; intro wq hq; replace hq := below_of_regrown hq; go_wp2_with fail
     go_ret
     exact ⟨by rw [REF.out.1]; rfl, by rw [REF.out.2]; exact ⟨F, m, V, I, HT3.out.later hq, fun b hb => .inl hb, .inl rfl, Onl.of_below (Below.on HB3.out hq)⟩⟩
   ·have hh' : (u.h.home != r.h) = true := by simpa using hh
    have hc : cmtB s r u.h = false := by rw [HC.out]; simp [hh]
    have REF : Hid (cmtE s r = 130 ∧ cmtS s r = s) := hid (by simp [cmtE, cmtS, HG.out, hc]); go_wp2_with fail
    refine wp_region_quiet_below (by kernel_rfl) (by kernel_rfl) ?_; repeat (go_big_quiet_step (first | (go_at_call 59; exact Calls.regrown_of (less_is HL.out _)) | (go_at_call 93; exact Calls.regrown_of (RS.out _ (below_regrown _ _ _)))))
    refine wpQuiet_nil ?_; intro wq hq; replace hq := below_of_regrown hq; go_wp2_with fail
    go_ret
    exact ⟨by rw [REF.out.1]; rfl, by rw [REF.out.2]; exact ⟨F, m, V, I, HT3.out.later hq, fun b hb => .inl hb, .inl rfl, Onl.of_below (Below.on HB3.out hq)⟩⟩
def dcdE (s : Ps) (r : Rg) : Int := if (Lg.outM s.E (r.c, r.s)).isSome then 130 else if r.oc = 1 then cmtE s r else 0
def dcdS (s : Ps) (r : Rg) : Ps := if (Lg.outM s.E (r.c, r.s)).isSome then s else if r.oc = 1 then cmtS s r else setS s r
theorem decide_is {F : Nat → Prop} {w : World} {p : Nat} {m1 m2 m : Option Nat} {V : List Lk.Hv} {I : Lk.It} {s : Ps} (T : St F w p m1 m2 m V I s) (r : Rg) (hn : (Vs.countM s.M + 17) * 64 ≤ 140737488355328) :
  Calls Tryz.prog 21 #[sp p, r.val] w fun e w' => e = .returned (.int .i64 (dcdE s r)) ∧ Aft F w p m1 m2 m (dcdS s r) w' := by
 obtain ⟨wx, hwx⟩ : ∃ wx, wx = w.alloc (.cells r.cells 43) := ⟨_, rfl⟩; have hbx : Below w.heap.size w wx := by rw [hwx]; exact Below.al (Below.refl _ _) _
 have BX : BoxG wx w.heap.size r := by rw [hwx]; exact boxG w r _
 have HX := hid BX; have k2 := cell_regrown BX.c2; have k3 := cell_regrown BX.c3
 have HT := hid (T.later hbx); have HBX := hid hbx; have HN := hid hn; obtain ⟨D, hD⟩ : ∃ D, (Lg.outM s.E (r.c, r.s)).isSome = D := ⟨_, rfl⟩; have DC : Hid (∀ W, Below wx.heap.size wx W → Calls Tryz.prog 56 #[.pointer (some ⟨p, 1, none⟩), .agg #[.int .u32 r.c, .int .u32 r.s]] W fun e w' => e = .returned (.bool D) ∧ Below W.heap.size W w') := hid fun W hb => by
  have := decided_is (HT.out.later hb) (r.c, r.s); rw [hD] at this; exact this
 have HE : Hid (dcdE s r = if D then 130 else if r.oc = 1 then cmtE s r else 0) := hid (by rw [dcdE, hD]); have HS : Hid (dcdS s r = if D then s else if r.oc = 1 then cmtS s r else setS s r) := hid (by rw [dcdS, hD]); clear T hbx BX hn hD; go_enter Tryz.func21, Tryz.ntmps21
 go_wp2_with fail
 rw [← hwx]; clear hwx; refine wp_region_quiet_below (by kernel_rfl) (by kernel_rfl) ?_; repeat (go_big_quiet_step ((go_at_call 56; exact Calls.regrown_of (DC.out _ (below_regrown _ _ _)))))
 refine wpQuiet_nil ?_; intro wq hq; replace hq := below_of_regrown hq; have BG := HX.out.later hq; have d0 := BG.c0; have d1 := BG.c1; have d2 := BG.c2; have d3 := BG.c3; have d4 := BG.c4; have d5 := BG.c5; have d6 := BG.c6; have d7 := BG.c7; have d8 := BG.c8; have d9 := BG.c9; have d10 := BG.c10; have d11 := BG.c11; have HTQ := hid (HT.out.later hq); have HBQ := hid (Below.on HBX.out hq); clear k2 k3 DC BG hq; cases D
 ·by_cases ho : r.oc = 1
  ·have ho' : (r.oc == 1) = true := by simpa using ho
   have HE' : Hid (dcdE s r = cmtE s r ∧ dcdS s r = cmtS s r) := hid ⟨by rw [HE.out]; simp [ho], by rw [HS.out]; simp [ho]⟩; have CM := hid (commit_is HTQ.out r HN.out); clear ho; go_wp2_with fail
   refine CM.out.mono ?_; rintro e w6 ⟨rfl, F', m', V', I', h1, h2, h3, h4⟩; have HP : Hid (Aft F w p m1 m2 m (dcdS s r) w6) := hid ⟨F', m', V', I', by rw [HE'.out.2]; exact h1, fun b hb => (h2 b hb).imp id fun k => Nat.le_trans HBQ.out.size k, h3.imp id fun ⟨b, h, k⟩ => ⟨b, h, Nat.le_trans HBQ.out.size k⟩, (Onl.of_below HBQ.out).trans h4⟩; clear h1 h2 h3 h4 CM; go_wp2_with fail
   go_ret
   exact ⟨by rw [HE'.out.1]; rfl, HP.out⟩
  ·have ho' : (r.oc == 1) = false := by simpa using ho
   have HE' : Hid (dcdE s r = 0 ∧ dcdS s r = setS s r) := hid ⟨by rw [HE.out]; simp [ho], by rw [HS.out]; simp [ho]⟩; have SE := hid (settle_is HTQ.out r); clear ho; go_wp2_with fail
   refine SE.out.mono ?_; rintro e w6 ⟨rfl, m', V', I', h1, h2, h3⟩; have HP : Hid (Aft F w p m1 m2 m (dcdS s r) w6) := hid ⟨F, m', V', I', by rw [HE'.out.2]; exact h1, fun b hb => .inl hb, h2.imp id fun ⟨b, h, k⟩ => ⟨b, h, Nat.le_trans HBQ.out.size k⟩, (Onl.of_below HBQ.out).trans (h3.mono fun b h => .inr h)⟩; clear h1 h2 h3 SE; go_wp2_with fail
   go_ret
   exact ⟨by rw [HE'.out.1]; rfl, HP.out⟩
 ·have HE' : Hid (dcdE s r = 130 ∧ dcdS s r = s) := hid ⟨by rw [HE.out]; rfl, by rw [HS.out]; rfl⟩; go_wp2_with fail
  go_ret
  exact ⟨by rw [HE'.out.1]; rfl, by rw [HE'.out.2]; exact ⟨F, m, V, I, HTQ.out, fun b hb => .inl hb, .inl rfl, Onl.of_below HBQ.out⟩⟩
end Go.Proofs.YtneojeidpfjpbaaGreatDoor.Ys
