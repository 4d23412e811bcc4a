import Derived.Test.YtneojeidpfjpbaaGreatDoorB04
import Derived.Test.YtneojeidpfjpbaaGreatDoorB05
import Derived.Carry
set_option linter.unusedVariables false
set_option maxHeartbeats 2000000
namespace Go.Proofs.YtneojeidpfjpbaaGreatDoor.Lk
open Go.RowKit Go.Sort
def holdC (M : List Hd) (h : Hd) : Int := if h.id ∈ M.map Hd.id then 101 else if confl M h.id h.rs h.ws then 100 else 0
def holdM (M : List Hd) (h : Hd) : List Hd := if h.id ∈ M.map Hd.id then M else if confl M h.id h.rs h.ws then M else M ++ [h]
def Hv.zero : Hv := ⟨⟨⟨0, 0⟩, 0, 0, 0, 0, [], []⟩, none, 0, none, 0⟩
theorem zero_hv (W : World) : (zeroValue 52).run Tryz.prog W = .ok (Hv.val Hv.zero) W := by kernel_rfl
theorem prs_keys (V : List Hv) : (prs V).map (·.1) = (V.map Hv.h).map Hd.id := by simp [prs, List.map_map, Function.comp_def]
theorem run_nilMap (m : Option Nat) (W : World) : (binOp .eql 68 (.map m) (.map none)).run Tryz.prog W = .ok (.bool m.isNone) W := by
 cases m with
 | none => kernel_rfl
 | some b => kernel_rfl
theorem mapat_ne {α β γ δ : Type} {ev : α → Value} {fv : β → Value} {ev' : γ → Value} {fv' : δ → Value} {w : World} {b : Nat} {ps : List (α × β)} {cs : Array Value} {t : TypeId} {z : Nat × Nat} {q : Nat} (h : MapO ev fv w (some b) ps) (hq : w.heap[q]? = some (.cells cs t z)) : q ≠ b := by
 rintro rfl; obtain ⟨es, clock, hb, _⟩ := h.at; rw [hb] at hq; cases hq
theorem bare_map {α β : Type} {ev : α → Value} {fv : β → Value} {w : World} {b : Nat} {ps : List (α × β)} (h : MapO ev fv w (some b) ps) : Bare w b := by
 obtain ⟨es, clock, hb, _⟩ := h.at; exact map_bare hb
theorem putA_new {α β : Type} [DecidableEq α] {ps : List (α × β)} {a : α} (h : a ∉ ps.map (·.1)) (v : β) : putA ps a v = ps ++ [(a, v)] := by simp only [putA, if_neg h]
theorem TbO.ne1 {w : World} {p oo b1 : Nat} {ty : TypeId} {m2 : Option Nat} {V : List Hv} {I : It} (T : TbO w p oo ty (some b1) m2 V I) : p ≠ b1 := by
 obtain ⟨cs, hc⟩ := T.blk; exact mapat_ne (γ := Ix) (δ := Hv) (ev' := ixv) (fv' := Hv.val) T.held hc
theorem TbO.ne2 {w : World} {p oo b2 : Nat} {ty : TypeId} {m1 : Option Nat} {V : List Hv} {I : It} (T : TbO w p oo ty m1 (some b2) V I) : p ≠ b2 := by
 obtain ⟨cs, hc⟩ := T.blk; exact mapat_ne (γ := Ix) (δ := Hv) (ev' := ixv) (fv' := Hv.val) T.ints hc
theorem TbO.held_on {wE w3 w4 w' : World} {p oo b1 b2 : Nat} {ty : TypeId} {V : List Hv} {I : It} {v' : Hv} (T : TbO wE p oo ty (some b1) (some b2) V I) (hb : Below wE.heap.size wE w3) (hv : v'.ok w3)
  (h4 : MapO ixv Hv.val w4 (some b1) (putA (prs V) v'.h.id v')) (o4 : Onl (fun c => b1 = c) w3 w4) (h5 : MapO Value.string ixv w' (some b2) (putAll I v'.h.id v'.h.ws)) (o5 : Onl (fun c => b2 = c) w4 w')
  (hi : v'.h.id ∉ (V.map Hv.h).map Hd.id) (hc : confl (V.map Hv.h) v'.h.id v'.h.rs v'.h.ws = false) :
  TbO w' p oo ty (some b1) (some b2) (V ++ [v']) (putAll I v'.h.id v'.h.ws) ∧ (V ++ [v']).map Hv.h = V.map Hv.h ++ [v'.h] := by
 have T3 := T.later hb; have hn1 : p ≠ b1 := T3.ne1; have hn2 : p ≠ b2 := T3.ne2; have hn3 : b1 ≠ b2 := fun e => T.ne b1 rfl (by rw [e])
 have hl4 : p < w4.heap.size := Nat.lt_of_lt_of_le T3.lt o4.size; have e5 : w'.heap[p]? = w3.heap[p]? := (o5.block p hl4 (fun e => hn2 e.symm)).trans (o4.block p T3.lt (fun e => hn1 e.symm)); have i4 : MapO Value.string ixv w4 (some b2) I := T3.ints.same (fun b e => by injection e with e; subst e; exact o4.block _ (T3.ints.lt _ rfl) hn3); have bare3 : ∀ c, b1 = c → Bare w3 c := by rintro c rfl; exact bare_map T3.held
 have bare4 : ∀ c, b2 = c → Bare w4 c := by rintro c rfl; exact bare_map i4
 have key : (prs V).map (·.1) = (V.map Hv.h).map Hd.id := prs_keys V; rw [putA_new (by rw [key]; exact hi)] at h4; refine ⟨⟨(T3.objs e5).1, (T3.objs e5).2, ?_, h5, ?_, ?_, by simp, fun b e => by injection e with e; subst e; intro e; injection e with e; exact hn3 e.symm⟩, by simp⟩
 ·have := h4.same (w' := w') (fun b e => by injection e with e; subst e; exact o5.block _ (h4.lt _ rfl) (fun e => hn3 e.symm)); simpa [prs] using this
 ·intro x hx; rcases List.mem_append.1 hx with hx | hx
  ·exact ((T3.rows x hx).onl o4 bare3).onl o5 bare4
  ·simp at hx; subst hx
   exact (hv.onl o4 bare3).onl o5 bare4
 ·have := T.ok.hold (h := v'.h) hi hc; simpa using this
theorem TbO.made {w : World} {p oo : Nat} {ty : TypeId} {m2 : Option Nat} {V : List Hv} {I : It} (T : TbO w p oo ty none m2 V I) :
  TbO ((((w.setCell ⟨p, oo, none⟩ (.map (some w.heap.size))).setCell ⟨p, oo + 1, none⟩ (.map (some (w.heap.size + 1)))).alloc (.map #[] 0)).alloc (.map #[] 0)) p oo ty (some w.heap.size) (some (w.heap.size + 1)) V I := by
 have hm2 : m2 = none := T.nil.1 rfl; subst hm2; have hV : V = [] := by have : prs V = [] := T.held; simpa [prs] using this
 have hI : I = [] := T.ints; subst hV hI; have hlt := T.lt; obtain ⟨w2, h2⟩ : ∃ w2, w2 = (w.setCell ⟨p, oo, none⟩ (.map (some w.heap.size))).setCell ⟨p, oo + 1, none⟩ (.map (some (w.heap.size + 1))) := ⟨_, rfl⟩; have hs : w2.heap.size = w.heap.size := by rw [h2]; simp
 obtain ⟨cs, hc, y0, y1⟩ := T.obj; have l0 := (Array.getElem?_eq_some_iff.1 y0).1; have l1 := (Array.getElem?_eq_some_iff.1 y1).1; have b0 : w2.heap[p]? = some (.cells ((cs.setIfInBounds oo (.map (some w.heap.size))).setIfInBounds (oo + 1) (.map (some (w.heap.size + 1)))) ty (0, 0)) := by
  rw [h2]; exact heap_put _ (heap_put _ hc)
 have hbr : Bare w2 p := by rw [h2]; exact bare_set (bare_set T.bar (fun s e => by cases e)) (fun s e => by cases e)
 rw [← h2, ← hs]; rw [← hs] at b0 hlt; clear h2; have e9 : ((w2.alloc (.map #[] 0)).alloc (.map #[] 0)).heap[p]? = w2.heap[p]? := by rw [(MapKept.heap_alloc _ _).2 p (by simp; omega), (MapKept.heap_alloc _ _).2 p hlt]
 refine ⟨⟨_, e9.trans b0, ?_, ?_⟩, bare_same hbr e9, ?_, ?_, by simp, T.ok, by simp, fun b e => by injection e with e; subst e; simp⟩
 ·rw [Array.getElem?_setIfInBounds_ne (by omega)]; simp [l0]
 ·simp [l1]
 ·refine ⟨#[], 0, ?_, MapKept.stamped_empty 0, by simp [prs], by simp [prs]⟩; rw [(MapKept.heap_alloc _ _).2 _ (by simp)]; exact (MapKept.heap_alloc _ _).1
 ·refine ⟨#[], 0, ?_, MapKept.stamped_empty 0, by simp, by simp⟩; have := (MapKept.heap_alloc (w2.alloc (.map #[] 0)) (.map #[] 0)).1; simpa using this
theorem own_obj {w : World} {B n size : Nat} {e : TypeId} {v : Value} {xs : List Value} (h : w.ownsRow B e size v n xs) {g : Nat} (hg : v.ownBlock = some g) : ∃ cur, w.heap[g]? = some (.cells cur e (0, 0)) := by
 obtain ⟨_, ⟨e1, _⟩ | ⟨g', cap, cur, e1, _, hh, _⟩⟩ := h
 ·subst e1; simp [Value.ownBlock] at hg
 ·subst e1; simp [Value.ownBlock] at hg; subst hg; exact ⟨cur, hh⟩
theorem Hv.fresh.mapo {α β : Type} {ev : α → Value} {fv : β → Value} {B b : Nat} {w w' : World} {ps : List (α × β)} {v : Hv} (h : v.fresh B w) (hm : MapO ev fv w (some b) ps) (ho : Onl (fun c => b = c) w w') : v.fresh B w' := by
 obtain ⟨es, clock, hb, _⟩ := hm.at; refine ⟨owns_keep h.r fun g e => ho.block g (h.r.lt g e).2 (fun k => ?_), owns_keep h.w fun g e => ho.block g (h.w.lt g e).2 (fun k => ?_)⟩
 ·obtain ⟨cur, hc⟩ := own_obj h.r e; rw [← k, hb] at hc; cases hc
 ·obtain ⟨cur, hc⟩ := own_obj h.w e; rw [← k, hb] at hc; cases hc
theorem holdO_is {w : World} {p oo : Nat} {ty : TypeId} {m1 m2 : Option Nat} {V : List Hv} {I : It} {v : Hv} (T : TbO w p oo ty m1 m2 V I) (hv : v.ok w) :
  Calls Tryz.prog 94 #[.pointer (some ⟨p, oo, none⟩), v.val] w fun e w' => e = .returned (.int .i64 (holdC (V.map Hv.h) v.h)) ∧
   ∃ m1' m2' V' I', TbO w' p oo ty m1' m2' V' I' ∧ V'.map Hv.h = holdM (V.map Hv.h) v.h ∧ Onl (Its p m1 m2) w w' ∧ (∀ b, Its p m1' m2' b → Its p m1 m2 b ∨ w.heap.size ≤ b) ∧ (∀ x ∈ V', x ∈ V ∨ x.fresh w.heap.size w') ∧ Part p oo 2 w w' := by
 obtain ⟨⟨⟨vc, vs⟩, home, vw, vl, vn, rs, ws⟩, ra, rc, wa, wk⟩ := v; obtain ⟨C, hC⟩ : ∃ C, holdC (V.map Hv.h) ⟨⟨vc, vs⟩, home, vw, vl, vn, rs, ws⟩ = C := ⟨_, rfl⟩; obtain ⟨M', hM⟩ : ∃ M', holdM (V.map Hv.h) ⟨⟨vc, vs⟩, home, vw, vl, vn, rs, ws⟩ = M' := ⟨_, rfl⟩; simp only [hC, hM]; have HCC := hid hC; have HMM := hid hM; clear hC hM; have HV := hid hv; obtain ⟨hr, hw, hrl, hwl⟩ := hv; simp only at hr hw hrl hwl; obtain ⟨wx, hwx⟩ : ∃ wx, wx = w.alloc (.cells #[.int .u32 vc, .int .u32 vs, .int .u32 home, .int .u64 vw, .int .u32 vl, .int .u32 vn, .slice ra rs.length rc, .slice wa ws.length wk] 52) := ⟨_, rfl⟩; have hbx : Below w.heap.size w wx := by rw [hwx]; exact Below.al (Below.refl _ _) _
 have hblk : wx.heap[w.heap.size]? = some (.cells #[.int .u32 vc, .int .u32 vs, .int .u32 home, .int .u64 vw, .int .u32 vl, .int .u32 vn, .slice ra rs.length rc, .slice wa ws.length wk] 52) := by rw [hwx]; exact (MapKept.heap_alloc _ _).1
 have T0 := T.later hbx; have c0 := T0.c0; have x0 : wx.cell? ⟨w.heap.size, 0, none⟩ = some (.int .u32 vc) := cell_of_obj hblk rfl; have x1 : wx.cell? ⟨w.heap.size, 1, none⟩ = some (.int .u32 vs) := cell_of_obj hblk rfl; have x2 : wx.cell? ⟨w.heap.size, 2, none⟩ = some (.int .u32 home) := cell_of_obj hblk rfl; have x3 : wx.cell? ⟨w.heap.size, 3, none⟩ = some (.int .u64 vw) := cell_of_obj hblk rfl; have x4 : wx.cell? ⟨w.heap.size, 4, none⟩ = some (.int .u32 vl) := cell_of_obj hblk rfl; have x5 : wx.cell? ⟨w.heap.size, 5, none⟩ = some (.int .u32 vn) := cell_of_obj hblk rfl; have x6 : wx.cell? ⟨w.heap.size, 6, none⟩ = some (.slice ra rs.length rc) := cell_of_obj hblk rfl; have x7 : wx.cell? ⟨w.heap.size, 7, none⟩ = some (.slice wa ws.length wk) := cell_of_obj hblk rfl; obtain ⟨v0, ok, hyes, hno, hlook⟩ := T0.held.lookT (P := Tryz.prog) ids Tryz.underlying68 zero_hv ⟨vc, vs⟩
 have hno' : ok = false → (⟨vc, vs⟩ : Ix) ∉ (V.map Hv.h).map Hd.id := fun e => by have := (hno e).1; rwa [prs_keys] at this
 have hyes' : ok = true → (⟨vc, vs⟩ : Ix) ∈ (V.map Hv.h).map Hd.id := fun e => by rw [← prs_keys]; exact List.mem_map.2 ⟨_, hyes e, rfl⟩
 clear hyes hno; obtain ⟨⟨⟨zc, zs⟩, zh, zw, zl, zn, zrs, zws⟩, zra, zrc, zwa, zwc⟩ := v0; simp only [Hv.val, ixv] at hlook; have HLK := hid hlook; have HT := hid T; have HT0 := hid T0; have HBX := hid hbx; have HBK := hid hblk; have HY := hid hyes'; have HN := hid hno'; have hsx : w.heap.size < wx.heap.size := by rw [hwx]; simp
 clear T T0 hlook hyes' hno' hr hw hbx hblk; go_enter Tryz.func94, Tryz.ntmps94
 go_wp2_with fail
 rw [← hwx]; clear hwx; go_cut [6] (fun s6 wz => s6 = .bool ok ∧ Hid (Below wx.heap.size wx wz))
 case first =>
  go_region_held3 (fun w' => w'.cell? ⟨p, oo, none⟩ = some (.map m1) ∧ w'.cell? ⟨w.heap.size, 0, none⟩ = some (.int .u32 vc) ∧ w'.cell? ⟨w.heap.size, 1, none⟩ = some (.int .u32 vs) ∧ (Instr.lookup 68 (.map m1) (.agg #[.int .u32 vc, .int .u32 vs]) true).run Tryz.prog w' = .ok (.tuple #[.agg #[.int .u32 zc, .int .u32 zs, .int .u32 zh, .int .u64 zw, .int .u32 zl, .int .u32 zn, .slice zra zrs.length zrc, .slice zwa zws.length zwc], .bool ok]) w' ∧ Below wx.heap.size wx w')
   ((refine (fun (hB : Below wx.heap.size wx _) => ⟨cell_later hB c0, cell_later hB x0, cell_later hB x1, HLK.out _ (fun b e => hB.block b (HT0.out.held.lt b e)), hB⟩) ?_; (repeat (first | exact Below.refl _ _ | assumption | refine Below.drew ?_ | refine Below.al ?_ _ | refine Below.setCell ?_ (by first | exact Nat.le_refl _ | (simp; omega) | (simp; done)) _ | refine Below.on ?_ (by assumption)))))
   (fail)
  all_goals (try go_wp2_with fail)
  all_goals go_meet
  all_goals refine ⟨rfl, hid ?_⟩
  all_goals ((repeat (first | exact Below.refl _ _ | assumption | refine Below.drew ?_ | refine Below.al ?_ _ | refine Below.setCell ?_ (by first | exact Nat.le_refl _ | (simp; omega) | (simp; done)) _ | refine Below.on ?_ (by assumption))))
 case rest =>
  obtain ⟨rfl, HZ⟩ := hcut; have hbz := HZ.out; have c0 := cell_later hbz c0; have x0 := cell_later hbz x0; have x1 := cell_later hbz x1; have x2 := cell_later hbz x2; have x3 := cell_later hbz x3; have x4 := cell_later hbz x4; have x5 := cell_later hbz x5; have x6 := cell_later hbz x6; have x7 := cell_later hbz x7; have hBw : Below w.heap.size w wc := Below.on HBX.out hbz; cases ok with
  | true =>
   have hin := HY.out rfl; have e1 : holdC (V.map Hv.h) ⟨⟨vc, vs⟩, home, vw, vl, vn, rs, ws⟩ = 101 := by simp only [holdC, if_pos hin]
   have e2 : holdM (V.map Hv.h) ⟨⟨vc, vs⟩, home, vw, vl, vn, rs, ws⟩ = V.map Hv.h := by simp only [holdM, if_pos hin]
   rw [HCC.out] at e1; rw [HMM.out] at e2; subst e1 e2; have HFin : Hid (∃ m1' m2' V' I', TbO wc p oo ty m1' m2' V' I' ∧ V'.map Hv.h = V.map Hv.h ∧ Onl (Its p m1 m2) w wc ∧ (∀ b, Its p m1' m2' b → Its p m1 m2 b ∨ w.heap.size ≤ b) ∧ (∀ x ∈ V', x ∈ V ∨ x.fresh w.heap.size wc) ∧ Part p oo 2 w wc) := ⟨m1, m2, V, I, HT.out.later hBw, rfl, Onl.of_below hBw, fun b hb => .inl hb, fun x hx => .inl hx, Part.below hBw⟩; clear hin HT HT0 HLK HY HN; go_wp2_with fail
   go_ret
   exact ⟨rfl, HFin.out⟩
  | false =>
   have hni := HN.out rfl; obtain ⟨u, hu⟩ : ∃ u, confl (V.map Hv.h) ⟨vc, vs⟩ rs ws = u := ⟨_, rfl⟩; have CF := hid (conflict_is (rc := rc) (wc := wk) hu (HT.out.later hBw) ((HV.out.r).later hBw) ((HV.out.w).later hBw) (by omega) (by omega)); simp only [ixv] at CF; cases u with
   | true =>
    have e1 : holdC (V.map Hv.h) ⟨⟨vc, vs⟩, home, vw, vl, vn, rs, ws⟩ = 100 := by simp only [holdC, if_neg hni, hu, if_true]
    have e2 : holdM (V.map Hv.h) ⟨⟨vc, vs⟩, home, vw, vl, vn, rs, ws⟩ = V.map Hv.h := by simp only [holdM, if_neg hni, hu, if_true]
    rw [HCC.out] at e1; rw [HMM.out] at e2; subst e1 e2; clear hni hu HLK HY HN; go_wp2_with fail
    refine CF.out.mono ?_; rintro e w1 ⟨rfl, hw1⟩; have hB1 := Below.on hBw hw1; go_wp2_with fail
    go_ret
    exact ⟨rfl, m1, m2, V, I, HT.out.later hB1, rfl, Onl.of_below hB1, fun b hb => .inl hb, fun x hx => .inl hx, Part.below hB1⟩
   | false =>
    have e1 : holdC (V.map Hv.h) ⟨⟨vc, vs⟩, home, vw, vl, vn, rs, ws⟩ = 0 := by simp only [holdC, if_neg hni, hu, Bool.false_eq_true, if_false]
    have e2 : holdM (V.map Hv.h) ⟨⟨vc, vs⟩, home, vw, vl, vn, rs, ws⟩ = V.map Hv.h ++ [⟨⟨vc, vs⟩, home, vw, vl, vn, rs, ws⟩] := by simp only [holdM, if_neg hni, hu, Bool.false_eq_true, if_false]
    rw [HCC.out] at e1; rw [HMM.out] at e2; subst e1 e2; have HNI := hid hni; have HCF := hid hu; clear hni hu HLK HY HN; have hnm := run_nilMap m1; go_wp2_with fail
    refine CF.out.mono ?_; rintro e w1 ⟨rfl, hw1⟩; have hB1 := Below.on hBw hw1; have hBx1 : Below wx.heap.size wx w1 := Below.on hbz hw1; have c0 := cell_later hw1 c0; have T1 := HT.out.later hB1; have c1 := T1.c1; have HT1 := hid T1; have HB1 := hid hB1; have HBX1 := hid hBx1; clear T1 CF; go_upto_if 32 with fail
    go_cut [] (fun wE => ∃ b1 b2, Hid (TbO wE p oo ty (some b1) (some b2) V I) ∧ Hid (Onl (Its p m1 m2) w wE) ∧ Hid (wE.heap[w.heap.size]? = wx.heap[w.heap.size]?) ∧ Hid (m1 = some b1 ∨ w.heap.size ≤ b1) ∧ Hid (m2 = some b2 ∨ w.heap.size ≤ b2) ∧ Hid (Part p oo 2 w wE))
    case first =>
     have hbox : w1.heap[w.heap.size]? = wx.heap[w.heap.size]? := HBX1.out.block _ hsx; have hlw : w.heap.size ≤ w1.heap.size := HB1.out.size; cases m1 with
     | some b1 =>
      have hm2 : ∃ b2, m2 = some b2 := by
       cases m2 with
       | none => have := HT1.out.nil.2 rfl; cases this
       | some b2 => exact ⟨b2, rfl⟩
      obtain ⟨b2, rfl⟩ := hm2; go_wp2_with fail
      go_meet
      exact ⟨b1, b2, HT1, Onl.of_below HB1.out, hbox, .inl rfl, .inl rfl, hid (Part.below HB1.out)⟩
     | none =>
      have f0 : ∀ o, w1.frozen? ⟨p, o, none⟩ = false := fun o => HT1.out.loose o
      have hpl := HT1.out.lt; have hne : p ≠ w1.heap.size := by omega
      have hne2 : p ≠ w1.heap.size + 1 := by omega
      have mk1 : ∀ W, (Instr.makeMap 68 none).run Tryz.prog W = .ok (.map (some W.heap.size)) (W.alloc (.map #[] 0)) := fun W => run_makeMap _ W
      have mk2 : ∀ W, (Instr.makeMap 69 none).run Tryz.prog W = .ok (.map (some W.heap.size)) (W.alloc (.map #[] 0)) := fun W => run_makeMap _ W
      go_wp2_with fail
      go_meet
      refine ⟨w1.heap.size, w1.heap.size + 1, HT1.out.made, ?_, ?_, .inr hlw, .inr (by show _ ≤ _; omega), hid ((((Part.below HB1.out).trans ((Part.set _ p oo _).wide (by omega) (by omega))).trans ((Part.set _ p (oo + 1) _).wide (by omega) (by omega))).al _ |>.al _)⟩
      ·refine hid (Onl.al (Onl.al (Onl.set (Onl.set (Onl.of_below HB1.out) (Or.inl rfl) _ _) (Or.inl rfl) _ _) _) _)
      ·show _ = _
       have hpn : w.heap.size ≠ p := by have := HT.out.lt; omega
       rw [(MapKept.heap_alloc _ _).2 _ (by simp; have := HBX1.out.size; omega), (MapKept.heap_alloc _ _).2 _ (by simp; have := HBX1.out.size; omega), Below.heap_setCell _ _ _ _ (by exact hpn), Below.heap_setCell _ _ _ _ (by exact hpn)]; exact hbox
    case rest =>
     obtain ⟨b1, b2, HE, HO, HX, H1, H2, HPE⟩ := hcut; rename World => wE
     clear c0 c1 x0 x1 x2 x3 x4 x5 x6 x7; have hblk := HX.out.trans HBK.out; have x0 : wE.cell? ⟨w.heap.size, 0, none⟩ = some (.int .u32 vc) := cell_of_obj hblk rfl; have x1 : wE.cell? ⟨w.heap.size, 1, none⟩ = some (.int .u32 vs) := cell_of_obj hblk rfl; have x2 : wE.cell? ⟨w.heap.size, 2, none⟩ = some (.int .u32 home) := cell_of_obj hblk rfl; have x3 : wE.cell? ⟨w.heap.size, 3, none⟩ = some (.int .u64 vw) := cell_of_obj hblk rfl; have x4 : wE.cell? ⟨w.heap.size, 4, none⟩ = some (.int .u32 vl) := cell_of_obj hblk rfl; have x5 : wE.cell? ⟨w.heap.size, 5, none⟩ = some (.int .u32 vn) := cell_of_obj hblk rfl; have x6 : wE.cell? ⟨w.heap.size, 6, none⟩ = some (.slice ra rs.length rc) := cell_of_obj hblk rfl; have x7 : wE.cell? ⟨w.heap.size, 7, none⟩ = some (.slice wa ws.length wk) := cell_of_obj hblk rfl; have c0 := HE.out.c0; have hvE := HV.out.onl HO.out (fun b hb => HT.out.bare hb)
     have nb1 : b1 ≠ w.heap.size := fun e => mapat_ne (γ := Ix) (δ := Hv) (ev' := ixv) (fv' := Hv.val) HE.out.held hblk e.symm
     have nb2 : b2 ≠ w.heap.size := fun e => mapat_ne (γ := Ix) (δ := Hv) (ev' := ixv) (fv' := Hv.val) HE.out.ints hblk e.symm
     have np1 : b1 ≠ p := fun e => HE.out.ne1 e.symm
     have np2 : b2 ≠ p := fun e => HE.out.ne2 e.symm
     have OW : Hid (∀ W, Below wE.heap.size wE W → Calls Tryz.prog 76 #[.agg #[.int .u32 vc, .int .u32 vs, .int .u32 home, .int .u64 vw, .int .u32 vl, .int .u32 vn, .slice ra rs.length rc, .slice wa ws.length wk]] W fun e w' => ∃ v' : Hv, e = .returned (.agg #[.int .u32 v'.h.id.1, .int .u32 v'.h.id.2, .int .u32 v'.h.home, .int .u64 v'.h.w, .int .u32 v'.h.l, .int .u32 v'.h.n, .slice v'.ra v'.h.rs.length v'.rc, .slice v'.wa v'.h.ws.length v'.wc]) ∧ Hid (v'.h = ⟨⟨vc, vs⟩, home, vw, vl, vn, rs, ws⟩) ∧ Hid (v'.fresh W.heap.size w') ∧ Below W.heap.size W w') := fun W hb =>
      (own_is (hvE.later hb)).mono fun e w' ⟨v', h1, h2, h3, h4⟩ => ⟨v', h1, h2, h3, h4⟩
     have PUT : Hid (∀ W (v' : Hv), Below wE.heap.size wE W → ∃ w4, (Instr.mapUpdate 68 (.map (some b1)) (.agg #[.int .u32 vc, .int .u32 vs]) (.agg #[.int .u32 v'.h.id.1, .int .u32 v'.h.id.2, .int .u32 v'.h.home, .int .u64 v'.h.w, .int .u32 v'.h.l, .int .u32 v'.h.n, .slice v'.ra v'.h.rs.length v'.rc, .slice v'.wa v'.h.ws.length v'.wc])).run Tryz.prog W = .ok () w4 ∧ Hid (MapO ixv Hv.val w4 (some b1) (putA (prs V) ⟨vc, vs⟩ v')) ∧ Onl (fun c => b1 = c) W w4) := fun W v' hb => by
      obtain ⟨w4, h1, h2, h3, _⟩ := (HE.out.held.later hb).put (P := Tryz.prog) ids Tryz.underlying68 ⟨vc, vs⟩ v'; exact ⟨w4, h1, h2, h3⟩
     have HVE := hid hvE; have HBE := hid hblk; clear hvE hblk HX HBK HBX HBX1 HB1 HT1 HT0 HZ HV hnm; go_wp2_with fail
     go_region_held3 (fun w' => w'.cell? ⟨p, oo, none⟩ = some (.map (some b1)) ∧ w'.cell? ⟨w.heap.size, 0, none⟩ = some (.int .u32 vc) ∧ w'.cell? ⟨w.heap.size, 1, none⟩ = some (.int .u32 vs) ∧ w'.cell? ⟨w.heap.size, 2, none⟩ = some (.int .u32 home) ∧ w'.cell? ⟨w.heap.size, 3, none⟩ = some (.int .u64 vw) ∧ w'.cell? ⟨w.heap.size, 4, none⟩ = some (.int .u32 vl) ∧ w'.cell? ⟨w.heap.size, 5, none⟩ = some (.int .u32 vn) ∧ w'.cell? ⟨w.heap.size, 6, none⟩ = some (.slice ra rs.length rc) ∧ w'.cell? ⟨w.heap.size, 7, none⟩ = some (.slice wa ws.length wk) ∧ Onl (fun c => b1 = c) wE w')
      ((refine (fun (hO : Onl (fun c => b1 = c) wE _) => ⟨hO.cell np1 c0, hO.cell nb1 x0, hO.cell nb1 x1, hO.cell nb1 x2, hO.cell nb1 x3, hO.cell nb1 x4, hO.cell nb1 x5, hO.cell nb1 x6, hO.cell nb1 x7, hO⟩) ?_; (repeat (first | exact Onl.refl _ _ | assumption | refine Onl.drew ?_ | refine Onl.on ?_ (by assumption)))))
      (first | (go_at_call 76; refine (OW.out _ (by (repeat (first | exact Below.refl _ _ | assumption | refine Below.drew ?_ | refine Below.al ?_ _ | refine Below.setCell ?_ (by first | exact Nat.le_refl _ | (simp; omega) | (simp; done)) _ | refine Below.on ?_ (by assumption))))).mono ?_; rintro e w3 ⟨v', rfl, hh, hf, hb3⟩; obtain ⟨w4, hput, hm4, ho4⟩ := PUT.out w3 v' (by (repeat (first | exact Below.refl _ _ | assumption | refine Below.drew ?_ | refine Below.al ?_ _ | refine Below.setCell ?_ (by first | exact Nat.le_refl _ | (simp; omega) | (simp; done)) _ | refine Below.on ?_ (by assumption)))); have hO4 : Onl (fun c => b1 = c) wE w4 := ((Onl.drew (Onl.refl _ wE)).on hb3).trans ho4))
     have y0 := hO4.cell nb1 x0; have y1 := hO4.cell nb1 x1; have y7 := hO4.cell nb1 x7; have hn12 : b1 ≠ b2 := fun e => HE.out.ne b1 rfl (by rw [e])
     have e42 : w4.heap[b2]? = wE.heap[b2]? := hO4.block b2 (HE.out.ints.lt b2 rfl) hn12; have i4 : MapO Value.string ixv w4 (some b2) I := HE.out.ints.same (fun b e => by cases e; exact e42); have c1 : w4.cell? ⟨p, oo + 1, none⟩ = some (.map (some b2)) := hO4.cell np1 HE.out.c1; have hwr : RowW w4 wa ws := rowW_onl HVE.out.w hO4 (by rintro c rfl; exact bare_map HE.out.held); have bare4 : ∀ c, b2 = c → Bare w4 c := by rintro c rfl; exact bare_map i4
     have HI4 := hid i4; have HWR := hid hwr; have HB4 := hid bare4; have HO4 := hid hO4; have HO3 := hid ho4; have HB3 := hid hb3; have HLEN : Hid (ws.length ≤ 9223372036854775807) := by show _ ≤ _; omega
     clear i4 hwr bare4 hO4 ho4 hb3 hput x0 x1 x2 x3 x4 x5 x6 x7 c0 OW PUT e42; go_wp2_with fail
     go_loopg [52] ws.length (fun g s52 wr => ∃ k : Nat, k ≤ ws.length ∧ g = ws.length - k ∧ s52 = .int .i64 k ∧ Hid (MapO Value.string ixv wr (some b2) (putAll I ⟨vc, vs⟩ (ws.take k))) ∧ Hid (Onl (fun c => b2 = c) w4 wr))
     case atStart => exact ⟨0, by omega, by omega, rfl, hid (by simpa [putAll] using HI4.out), Onl.refl _ _⟩
     case round =>
      obtain ⟨k, hk, rfl, rfl, HM, HR⟩ := hrel; by_cases hlt : k < ws.length
      ·obtain ⟨b, off, e9, d0, d1, d2⟩ := (rowW_onl HWR.out HR.out HB4.out) k hlt; obtain ⟨⟨key, del, val⟩, hx⟩ : ∃ x, x = nthW ws k := ⟨_, rfl⟩; rw [← hx] at d0 d1 d2; simp only at d0 d1 d2; have HX := hid hx; clear hx; subst e9; obtain ⟨wy, hwy⟩ : ∃ wy, wy = wr.alloc (.cells #[.string key, .bool del, .string val] 103) := ⟨_, rfl⟩; have hby : Below wr.heap.size wr wy := by rw [hwy]; exact Below.al (Below.refl _ _) _
       have k0 : wy.cell? ⟨wr.heap.size, 0, none⟩ = some (.string key) := by rw [hwy]; simp [go_sem]
       have cy1 := cell_later hby (HR.out.cell np2 c1); have cy0 := cell_later hby (HR.out.cell nb2 y0); have cyy := cell_later hby (HR.out.cell nb2 y1); have nby : b2 ≠ wr.heap.size := by have := HM.out.lt b2 rfl; omega
       obtain ⟨w6, hput, hm6, ho6, _⟩ := ((HM.out.later hby).later (Below.drew (Below.refl _ _)) : MapO Value.string ixv wy.drew (some b2) _).put (P := Tryz.prog) keysS Tryz.underlying69 key (⟨vc, vs⟩ : Ix); simp only [ixv] at hput; have ho6' : Onl (fun c => b2 = c) wy w6 := (Onl.drew (Onl.refl _ wy)).trans ho6; have HM6 := hid hm6; have HOK : Hid (Onl (fun c => b2 = c) w4 w6) := (HR.out.on hby).trans ho6'; clear hm6 ho6; go_wp2_with fail
       rw [← hwy]; clear hwy; go_region_held3 (fun w' => w'.cell? ⟨p, oo + 1, none⟩ = some (.map (some b2)) ∧ w'.cell? ⟨wr.heap.size, 0, none⟩ = some (.string key) ∧ w'.cell? ⟨w.heap.size, 0, none⟩ = some (.int .u32 vc) ∧ w'.cell? ⟨w.heap.size, 1, none⟩ = some (.int .u32 vs) ∧ Onl (fun c => b2 = c) wy w')
        ((refine (fun (hO : Onl (fun c => b2 = c) wy _) => ⟨hO.cell np2 cy1, hO.cell nby k0, hO.cell nb2 cy0, hO.cell nb2 cyy, hO⟩) ?_; (repeat (first | exact Onl.refl _ _ | assumption | refine Onl.drew ?_))))
        (fail)
       go_wp2_with fail
       go_roundg (ws.length - (k + 1))
       case measure => omega
       case rel =>
        refine ⟨k + 1, by omega, rfl, by go_num, hid ?_, HOK⟩; have e : putAll I ⟨vc, vs⟩ (ws.take (k + 1)) = putA (putAll I ⟨vc, vs⟩ (ws.take k)) key ⟨vc, vs⟩ := by
         rw [nthW_take hlt, ← HX.out]; simp [putAll, List.foldl_append]
        rw [e]; exact HM6.out
      ·obtain rfl : k = ws.length := by omega
       have hM := HM.out; rw [List.take_length] at hM; have hh' := hh.out; have hfo : v'.ok w3 := hf.out.ok (by rw [hh']; exact hrl) (by rw [hh']; exact hwl); obtain ⟨t1, t2⟩ := HE.out.held_on (v' := v') (Below.on (Below.drew (Below.refl _ _)) HB3.out) hfo (by rw [hh']; exact hm4.out) HO3.out (by rw [hh']; exact hM) HR.out (by rw [hh']; exact HNI.out) (by rw [hh']; exact HCF.out); have HFin : Hid (∃ m1' m2' V' I', TbO wr p oo ty m1' m2' V' I' ∧ V'.map Hv.h = V.map Hv.h ++ [⟨⟨vc, vs⟩, home, vw, vl, vn, rs, ws⟩] ∧ Onl (Its p m1 m2) w wr ∧ (∀ b, Its p m1' m2' b → Its p m1 m2 b ∨ w.heap.size ≤ b) ∧ (∀ x ∈ V', x ∈ V ∨ x.fresh w.heap.size wr) ∧ Part p oo 2 w wr) := by
        refine ⟨_, _, _, _, t1, by rw [t2, hh'], ?_, fun b hb => ?_, fun x hx => ?_, (HPE.out.trans (Part.onl HO4.out np1)).trans (Part.onl HR.out np2)⟩
        case refine_3 =>
         rcases List.mem_append.1 hx with hx | hx
         ·exact .inl hx
         ·simp at hx; subst hx
          right
          have hb3w : Below wE.heap.size wE w3 := Below.on (Below.drew (Below.refl _ _)) HB3.out; have f4 := hf.out.mapo (HE.out.held.later hb3w) HO3.out; have f5 := f4.mapo HI4.out HR.out; exact ⟨owns_base f5.r HO.out.size, owns_base f5.w HO.out.size⟩
        case refine_2 =>
         rcases hb with rfl | hb | hb
         ·exact .inl (.inl rfl)
         ·injection hb with hb; subst hb
          rcases H1.out with e | e
          ·exact .inl (.inr (.inl e))
          ·exact .inr e
         ·injection hb with hb; subst hb
          rcases H2.out with e | e
          ·exact .inl (.inr (.inr e))
          ·exact .inr e
        refine (HO.out.fresh HO4.out ?_).fresh HR.out ?_
        ·rintro c rfl; rcases H1.out with e | e
         ·exact .inl (.inr (.inl e))
         ·exact .inr e
        ·rintro c rfl; rcases H2.out with e | e
         ·exact .inl (.inr (.inr e))
         ·exact .inr e
       clear t1 t2 hfo hh' hM; go_wp2_with fail
       go_ret
       exact ⟨rfl, HFin.out⟩
theorem cells_ne {w : World} {b : Nat} {x y : Array Value} {t u : TypeId} {z z' : Nat × Nat} (h : w.heap[b]? = some (.cells x t z)) (h' : w.heap[b]? = some (.cells y u z')) : t = u := by
 rw [h] at h'; injection h' with h'
 injection h'
def Hv.typ (W : World) (v : Hv) : Prop := (∀ ad, v.ra = some ad → ∃ cur, W.heap[ad.block]? = some (.cells cur 25 (0, 0))) ∧ (∀ ad, v.wa = some ad → ∃ cur, W.heap[ad.block]? = some (.cells cur 103 (0, 0)))
theorem Hv.fresh.typ {B : Nat} {W : World} {v : Hv} (h : v.fresh B W) : v.typ W := ⟨fun ad e => own_obj h.r (by rw [e]; rfl), fun ad e => own_obj h.w (by rw [e]; rfl)⟩
def Foreign (w : World) (F : Nat → Prop) : Prop := ∀ b, F b → (∀ cur, w.heap[b]? ≠ some (.cells cur 25 (0, 0))) ∧ (∀ cur, w.heap[b]? ≠ some (.cells cur 103 (0, 0)))
theorem Hv.typ.onl {F : Nat → Prop} {w w' : World} {v : Hv} (h : v.typ w) (ho : Onl F w w') (hF : Foreign w F) : v.typ w' := by
 refine ⟨fun ad e => ?_, fun ad e => ?_⟩
 ·obtain ⟨cur, hc⟩ := h.1 ad e; exact ⟨cur, (ho.block _ (Array.getElem?_eq_some_iff.1 hc).1 (fun k => (hF _ k).1 cur hc)).trans hc⟩
 ·obtain ⟨cur, hc⟩ := h.2 ad e; exact ⟨cur, (ho.block _ (Array.getElem?_eq_some_iff.1 hc).1 (fun k => (hF _ k).2 cur hc)).trans hc⟩
theorem Hv.typ.later {w w' : World} {v : Hv} (h : v.typ w) (hb : Below w.heap.size w w') : v.typ w' := h.onl (F := fun _ => False) (Onl.of_below hb) (fun b e => e.elim)
theorem Hv.ok.typ_onl {F : Nat → Prop} {w w' : World} {v : Hv} (h : v.ok w) (ht : v.typ w) (ho : Onl F w w') (hF : Foreign w F) : v.ok w' := by
 refine ⟨fun i hi => ?_, fun i hi => ?_, h.rl, h.wl⟩
 ·obtain ⟨b, off, e, h0, h1⟩ := h.r i hi; obtain ⟨cur, hc⟩ := ht.1 _ e; have hn : ¬ F b := fun k => (hF _ k).1 cur hc
  exact ⟨b, off, e, ho.cell hn h0, ho.cell hn h1⟩
 ·obtain ⟨b, off, e, h0, h1, h2⟩ := h.w i hi; obtain ⟨cur, hc⟩ := ht.2 _ e; have hn : ¬ F b := fun k => (hF _ k).2 cur hc
  exact ⟨b, off, e, ho.cell hn h0, ho.cell hn h1, ho.cell hn h2⟩
def NoRow (t : TypeId) : Prop := t ≠ 25 ∧ t ≠ 103
theorem TbO.foreignO {w : World} {p oo : Nat} {ty : TypeId} {m1 m2 : Option Nat} {V : List Hv} {I : It} (T : TbO w p oo ty m1 m2 V I) (hn : NoRow ty) : Foreign w (Its p m1 m2) := fun b hb => by
 rcases hb with rfl | rfl | rfl
 ·obtain ⟨cs, hk⟩ := T.blk; exact ⟨fun cur' h' => hn.1 (cells_ne hk h'), fun cur' h' => hn.2 (cells_ne hk h')⟩
 ·obtain ⟨es, clock, hb, _⟩ := T.held.at; exact ⟨fun cur h' => (by rw [hb] at h'; cases h'), fun cur h' => (by rw [hb] at h'; cases h')⟩
 ·obtain ⟨es, clock, hb, _⟩ := T.ints.at; exact ⟨fun cur h' => (by rw [hb] at h'; cases h'), fun cur h' => (by rw [hb] at h'; cases h')⟩
theorem TbO.keepC {F : Nat → Prop} {w w' : World} {p oo : Nat} {ty : TypeId} {m1 m2 : Option Nat} {V : List Hv} {I : It} (T : TbO w p oo ty m1 m2 V I) (hty : ∀ v ∈ V, v.typ w) (ho : Onl F w w') (hF : Foreign w F) (hm : ∀ b, m1 = some b ∨ m2 = some b → ¬ F b)
  (hp : ∀ cs, w.heap[p]? = some (.cells cs ty (0, 0)) → ∃ cs', w'.heap[p]? = some (.cells cs' ty (0, 0)) ∧ cs'[oo]? = cs[oo]? ∧ cs'[oo + 1]? = cs[oo + 1]?) (hb : Bare w' p) : TbO w' p oo ty m1 m2 V I := by
 obtain ⟨cs, hc, x0, x1⟩ := T.obj; obtain ⟨cs', hc', e0, e1⟩ := hp cs hc; exact ⟨⟨cs', hc', e0.trans x0, e1.trans x1⟩, hb, T.held.same fun b e => ho.block b (T.held.lt b e) (hm b (.inl e)), T.ints.same fun b e => ho.block b (T.ints.lt b e) (hm b (.inr e)), fun v hv => (T.rows v hv).typ_onl (hty v hv) ho hF, T.ok, T.nil, T.ne⟩
abbrev Hv.rV (v : Hv) : Value := .slice v.ra v.h.rs.length v.rc
abbrev Hv.wV (v : Hv) : Value := .slice v.wa v.h.ws.length v.wc
def Hv.far (x y : Hv) : Prop := (∀ b, x.rV.ownBlock = some b → y.rV.ownBlock ≠ some b) ∧ (∀ b, x.wV.ownBlock = some b → y.wV.ownBlock ≠ some b)
theorem Hv.far.symm {x y : Hv} (h : x.far y) : y.far x := ⟨fun b e e' => h.1 b e' e, fun b e e' => h.2 b e' e⟩
theorem Hv.far_of {B B' : Nat} {w w' : World} {x y : Hv} (hx : x.fresh B w) (hy : y.fresh B' w') (h : w.heap.size ≤ B') : x.far y :=
 ⟨fun b e e' => by have h1 := (hx.r.lt b e).2; have h2 := (hy.r.lt b e').1; omega, fun b e e' => by have h1 := (hx.w.lt b e).2; have h2 := (hy.w.lt b e').1; omega⟩
def Hv.low (B : Nat) (v : Hv) : Prop := (∀ b, v.rV.ownBlock = some b → B ≤ b) ∧ (∀ b, v.wV.ownBlock = some b → B ≤ b)
theorem Hv.fresh.lowB {B : Nat} {w : World} {v : Hv} (h : v.fresh B w) {C : Nat} (hC : C ≤ B) : v.low C := ⟨fun b e => Nat.le_trans hC (h.r.lt b e).1, fun b e => Nat.le_trans hC (h.w.lt b e).1⟩
end Go.Proofs.YtneojeidpfjpbaaGreatDoor.Lk
