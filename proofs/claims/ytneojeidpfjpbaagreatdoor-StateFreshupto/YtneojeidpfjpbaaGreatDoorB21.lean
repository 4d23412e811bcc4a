import Derived.Test.YtneojeidpfjpbaaGreatDoorB20
set_option linter.unusedVariables false
set_option maxHeartbeats 2000000
namespace Go.Proofs.YtneojeidpfjpbaaGreatDoor.Vs
open Go.RowKit Go.Sort Go.Shelf
def stepP (t : Sp) (M : Mst) (e : ByteArray × Chain) : Mst := dropM M e.1 e.2 (unseen e.2 t)
theorem set_mid {l r : Mst} {k : ByteArray} {v u : Chain} (h1 : ∀ e ∈ l, lt e.1 k = true) : setX (l ++ (k, v) :: r) k u = l ++ (k, u) :: r := by
 induction l with
 | nil => simp [setX, lt_irrefl]
 | cons x l ih =>
  simp only [List.cons_append, setX]; rw [if_pos (h1 x (by simp)), ih (fun e he => h1 e (by simp [he]))]
theorem del_mid {l r : Mst} {k : ByteArray} {v : Chain} (h1 : ∀ e ∈ l, e.1 ≠ k) (h2 : ∀ e ∈ r, e.1 ≠ k) : delX (l ++ (k, v) :: r) k = l ++ r := by
 unfold delX; rw [List.filter_append, List.filter_cons, if_neg (by simp), List.filter_eq_self.2 (fun e he => by simp [h1 e he]), List.filter_eq_self.2 (fun e he => by simp [h2 e he])]
theorem pruneM_app (a b : Mst) (t : Sp) : pruneM (a ++ b) t = pruneM a t ++ pruneM b t := List.filterMap_append ..
theorem pruneM_key {M : Mst} {t : Sp} {e : ByteArray × Chain} (h : e ∈ pruneM M t) : ∃ e' ∈ M, e'.1 = e.1 := by
 obtain ⟨x, hx, hxe⟩ := List.mem_filterMap.1 h; split at hxe
 ·cases hxe
 ·injection hxe with hxe; exact ⟨x, hx, by rw [← hxe]⟩
theorem fold_prune (t : Sp) : ∀ (rest pre : Mst), Rising (pre ++ rest) → (∀ e ∈ rest, e.2 ≠ []) → rest.foldl (stepP t) (pruneM pre t ++ rest) = pruneM (pre ++ rest) t
 | [], pre, _, _ => by simp
 | x :: rest, pre, h, hne => by
  have hp := List.pairwise_append.1 h; have hx := List.pairwise_cons.1 hp.2.1; have h1 : ∀ e ∈ pruneM pre t, lt e.1 x.1 = true := fun e he => by
   obtain ⟨e', he', ek⟩ := pruneM_key he; rw [← ek]; exact hp.2.2 e' he' x (by simp)
  have hl := List.length_pos_iff.2 (hne x (by simp)); have hstep : stepP t (pruneM pre t ++ x :: rest) x = pruneM (pre ++ [x]) t ++ rest := by
   obtain ⟨k, cs⟩ := x; unfold stepP dropM; rw [pruneM_app]; by_cases h0 : unseen cs t = 0
   ·rw [if_pos h0]; have hne0 : ¬ unseen cs t = cs.length := by simp only at hl; omega
    have : pruneM [(k, cs)] t = [(k, cs)] := by unfold pruneM; simp only [List.filterMap_cons, List.filterMap_nil]; rw [if_neg hne0]; simp [h0]
    rw [this]; simp
   ·rw [if_neg h0]; by_cases h2 : unseen cs t = cs.length
    ·rw [if_pos h2, del_mid (fun e he => lt_ne (h1 e he)) (fun e he e' => lt_ne (hx.1 e he) e'.symm)]; have : pruneM [(k, cs)] t = [] := by unfold pruneM; simp only [List.filterMap_cons, List.filterMap_nil]; rw [if_pos h2]
     rw [this]; simp
    ·rw [if_neg h2, set_mid h1]; have : pruneM [(k, cs)] t = [(k, cs.drop (unseen cs t))] := by unfold pruneM; simp only [List.filterMap_cons, List.filterMap_nil]; rw [if_neg h2]
     rw [this]; simp
  rw [List.foldl_cons, hstep, fold_prune t rest (pre ++ [x]) (by rw [List.append_assoc]; exact h) (fun e he => hne e (by simp [he])), List.append_assoc]; rfl
theorem prune_all {M : Mst} (h : Good M) (t : Sp) : M.foldl (stepP t) M = pruneM M t := fold_prune t M [] h.rising fun e he => (h.chain e he).1
def prG (M : Mst) (mk t : Sp) : Nat := if mk.lt t then goneM M t else 0
def prM (M : Mst) (mk t : Sp) : Mst := if mk.lt t then pruneM M t else M
def prK (mk t : Sp) : Sp := if mk.lt t then t else mk
def goneE (l : List En) (t : Sp) : Nat := (l.map fun e => unseen e.2.vs t).sum
theorem goneE_snoc (l : List En) (e : En) (t : Sp) : goneE (l ++ [e]) t = goneE l t + unseen e.2.vs t := by simp [goneE]
theorem goneE_abs (l : List En) (t : Sp) : goneE l t = goneM (abs l) t := by unfold goneE goneM abs; rw [List.map_map]; rfl
theorem goneE_bound {E : List En} (t : Sp) (N : Nat) (hN : ∀ e ∈ E, e.2.vs.length ≤ N) : ∀ pre : List (Of E), goneE (pre.map (fun x => x.1)) t ≤ pre.length * N
 | [] => by simp [goneE]
 | x :: pre => by
  have := goneE_bound t N hN pre; have h1 := hN x.1 x.2; have h2 := unseen_le x.1.2.vs t; simp only [goneE, List.map_cons, List.sum_cons, List.length_cons, Nat.add_mul, Nat.one_mul] at *; omega
theorem StoX.marked {F : Nat → Prop} {w : World} {p o : Nat} {ty : TypeId} {m : List En} {mk : Sp} (h : StoX F w p o ty m mk) (t : Sp) : StoX F (((w.setCell ⟨p, o + 1, none⟩ (.int .u64 t.a)).setCell ⟨p, o + 2, none⟩ (.int .u32 t.b)).setCell ⟨p, o + 3, none⟩ (.int .u32 t.c)) p o ty m t ∧
  Onl (fun b => b = p) w (((w.setCell ⟨p, o + 1, none⟩ (.int .u64 t.a)).setCell ⟨p, o + 2, none⟩ (.int .u32 t.b)).setCell ⟨p, o + 3, none⟩ (.int .u32 t.c)) ∧ Part p o 4 w (((w.setCell ⟨p, o + 1, none⟩ (.int .u64 t.a)).setCell ⟨p, o + 2, none⟩ (.int .u32 t.b)).setCell ⟨p, o + 3, none⟩ (.int .u32 t.c)) := by
 have ho : Onl (fun b => b = p) w (((w.setCell ⟨p, o + 1, none⟩ (.int .u64 t.a)).setCell ⟨p, o + 2, none⟩ (.int .u32 t.b)).setCell ⟨p, o + 3, none⟩ (.int .u32 t.c)) := (((Onl.refl (fun k => k = p) w).set (p := p) rfl _ _).set (p := p) rfl _ _).set (p := p) rfl _ _; have hpt : Part p o 4 w (((w.setCell ⟨p, o + 1, none⟩ (.int .u64 t.a)).setCell ⟨p, o + 2, none⟩ (.int .u32 t.b)).setCell ⟨p, o + 3, none⟩ (.int .u32 t.c)) := (((Part.set w p (o + 1) _).wide (by omega) (by omega)).trans ((Part.set _ p (o + 2) _).wide (by omega) (by omega))).trans ((Part.set _ p (o + 3) _).wide (by omega) (by omega)); obtain ⟨cs, hb, x1, x2, x3⟩ := h.obj; have h1 := heap_put (o := o + 1) (.int .u64 t.a) hb; have h2 := heap_put (o := o + 2) (.int .u32 t.b) h1; have h3 := heap_put (o := o + 3) (.int .u32 t.c) h2; have l1 := (Array.getElem?_eq_some_iff.1 x1).1; have l2 := (Array.getElem?_eq_some_iff.1 x2).1
 have l3 := (Array.getElem?_eq_some_iff.1 x3).1; have hk : Kp w (((w.setCell ⟨p, o + 1, none⟩ (.int .u64 t.a)).setCell ⟨p, o + 2, none⟩ (.int .u32 t.b)).setCell ⟨p, o + 3, none⟩ (.int .u32 t.c)) := Kp.of_index ho hb h.ty.1; refine ⟨⟨⟨_, h3, ?_, ?_, ?_⟩, h.ty, h.xi.keepC hk ?_, fun e he => ?_, h.apart, h.good, h.fp, h.fr, fun b hf => ?_⟩, ho, hpt⟩
 ·rw [Array.getElem?_setIfInBounds_ne (by omega), Array.getElem?_setIfInBounds_ne (by omega)]; simp [l1]
 ·rw [Array.getElem?_setIfInBounds_ne (by omega)]; simp [l2]
 ·simp [l3]
 ·intro cs' t' hc'; rw [hb] at hc'; injection hc' with hc'; injection hc' with e1 e2 _; subst e1 e2
  exact ⟨_, h3, by rw [Array.getElem?_setIfInBounds_ne (by omega), Array.getElem?_setIfInBounds_ne (by omega), Array.getElem?_setIfInBounds_ne (by omega)]⟩
 ·have r := h.row e he; obtain ⟨cs, z, hb2⟩ := r.block; exact r.keep (ho.block _ r.lt (type_ne hb2 hb h.ty.2.symm))
 ·by_cases e : b = p
  ·subst e; exact ⟨_, _, _, h3, .inl rfl⟩
  ·obtain ⟨cs, ty, z, hc, ht⟩ := h.own b hf; exact ⟨cs, ty, z, (ho.block b (h.lt hf) e).trans hc, ht⟩
theorem part_own {β : Type} {p o k : Nat} {w0 : World} : Own (fun (_ : β) W => Part p o k w0 W) := fun s A B row hs hg hr => fun cs t z hc => by
 obtain ⟨cs', h1, h2, h3⟩ := hs cs t z hc; exact ⟨cs', (grownBy_keeps_cells hg hr h1 rfl).trans h1, h2, h3⟩
theorem stoX_own {β : Type} {F : Nat → Prop} {p o : Nat} {ty : TypeId} {m : List En} {mk : Sp} : Own (fun (_ : β) W => StoX F W p o ty m mk) := fun s A B row hs hg hr =>
 hs.keep ⟨hg.size, fun b cs t z _ hb => (grownBy_keeps_cells hg hr hb rfl).trans hb⟩ fun b hf => by
  obtain ⟨cs, t, z, hc, _⟩ := hs.own b hf; exact grownBy_keeps_cells hg hr hc rfl
theorem onl_own {β : Type} {G : Nat → Prop} {w0 : World} {Q : Nat} (hq : w0.heap.size ≤ Q) : OwnFrom Q (fun (_ : β) W => Onl G w0 W) := fun _ A B row hs hg hr =>
 hs.fresh (grown_onl hg) fun i hi => .inr (Nat.le_trans hq (hr i hi).1)
theorem onl_keeps {G : Nat → Prop} {W W' : World} (B : Nat) (h : Onl G W W') (hF : ∀ k o, G k → W.heap[k]? = some o → o.isCells = true) : KeepsFrom B W W' :=
 ⟨h.size, fun k o _ hk ho => (h.block k (Array.getElem?_eq_some_iff.1 hk).1 (fun hf => by rw [hF k o hf hk] at ho; cases ho)).trans hk⟩
theorem onl_put (W : World) (D : Nat) (o : Obj) : Onl (fun b => b = D) W (W.putObj D o) := ⟨rfl, rfl, rfl, by simp, fun k _ hk => World.putObj_heap_other hk⟩
def PrI (wL : World) (F : Nat → Prop) (M0 : Mst) (n0 p o : Nat) (ty : TypeId) (bg : Nat) (t : Sp) {E : List En} (pre : List (Of E)) (W : World) : Prop :=
 (∃ F' m', StoX F' W p o ty m' t ∧ abs m' = (abs (pre.map (fun x => x.1))).foldl (stepP t) M0 ∧ m'.length ≤ E.length + pre.length ∧ ∀ b, F' b → F b ∨ n0 ≤ b) ∧
 Boxed W bg 3 (.int .i64 (goneE (pre.map (fun x => x.1)) t : Nat)) ∧ Onl (fun b => b = p ∨ b = bg) wL W ∧ Part p o 4 wL W
theorem prI_own {wL : World} {F : Nat → Prop} {M0 : Mst} {n0 p o bg Q : Nat} {ty : TypeId} {t : Sp} {E : List En} (hq : wL.heap.size ≤ Q) : OwnFrom Q (PrI wL F M0 n0 p o ty bg t (E := E)) := fun s A B row hs hg hr => by
 obtain ⟨⟨F', m', h1, h2, h3, h4⟩, hb, ho, hpt⟩ := hs; exact ⟨⟨F', m', (Own.from (stoX_own (β := Unit)) Q) () A B row h1 hg hr, h2, h3, h4⟩, (Own.from (boxed_own (β := Unit) bg 3 (fun _ => _)) Q) () A B row hb hg hr, (onl_own (β := Unit) hq) () A B row ho hg hr, (Own.from (part_own (β := Unit)) Q) () A B row hpt hg hr⟩
attribute [local go_sem] Oper.semAt_some
set_option maxRecDepth 100000 in
theorem pruneG_is {F : Nat → Prop} {w : World} {p o : Nat} {ty : TypeId} {M : Mst} {mk : Sp} (h : StoG F w p o ty M mk) (t : Sp) (hn : countM M ≤ 268435456) :
  Calls Tryz.prog 60 #[.pointer (some ⟨p, o, none⟩), sv t] w fun e w' => e = .returned (.int .i64 (prG M mk t : Nat)) ∧ (∃ F', StoG F' w' p o ty (prM M mk t) (prK mk t) ∧ ∀ b, F' b → F b ∨ w.heap.size ≤ b) ∧ Onl F w w' ∧ Part p o 4 w w' := by
 obtain ⟨m, h, rfl⟩ := h; refine (callsIn_wide (n := 5)).1 ?_; obtain ⟨wS, hwS⟩ : ∃ wS, wS = (w.alloc (.cells #[.pointer (some ⟨p, o, none⟩)] 163)).alloc (.cells #[.int .u64 t.a, .int .u32 t.b, .int .u32 t.c] 28) := ⟨_, rfl⟩; have hbS : Below w.heap.size w wS := by rw [hwS]; exact Below.al (Below.al (Below.refl _ _) _) _
 have hsz : wS.heap.size = w.heap.size + 1 + 1 := by rw [hwS]; simp
 have kP : Boxed wS w.heap.size 163 (.pointer (some ⟨p, o, none⟩)) := by rw [hwS]; exact (Boxed.new w _ _).alloc _
 have kT : wS.heap[w.heap.size + 1]? = some (.cells #[.int .u64 t.a, .int .u32 t.b, .int .u32 t.c] 28 (0, 0)) := by
  rw [hwS]; have := World.alloc_heap_new (w.alloc (.cells #[.pointer (some ⟨p, o, none⟩)] 163)) (.cells #[.int .u64 t.a, .int .u32 t.b, .int .u32 t.c] 28)
  rw [World.size_alloc] at this; exact this
 have hS := h.later hbS; have p0 := kP.cell; have t0 : wS.cell? ⟨w.heap.size + 1, 0, none⟩ = some (.int .u64 t.a) := cell_of_obj kT rfl; have t1 : wS.cell? ⟨w.heap.size + 1, 1, none⟩ = some (.int .u32 t.b) := cell_of_obj kT rfl; have t2 : wS.cell? ⟨w.heap.size + 1, 2, none⟩ = some (.int .u32 t.c) := cell_of_obj kT rfl; have c1 := Sto.c1 hS; have c2 := Sto.c2 hS; have c3 := Sto.c3 hS; have kp0 := cell_regrown p0; have kt0 := cell_regrown t0; have kt1 := cell_regrown t1; have kt2 := cell_regrown t2
 have kc1 := cell_regrown c1; have kc2 := cell_regrown c2; have kc3 := cell_regrown c3
 have H := hid (show _ ∧ _ ∧ _ ∧ _ from ⟨h, hbS, kP, kT⟩); have HSZ := hid hsz; have HN := hid hn; clear h hS hbS hsz kP kT hn; refine callsIn_of_wp_marks Tryz.func60 rfl trivial ?_ rfl; simp only [Tryz.ntmps60, List.size_toArray, List.length_cons, List.length_nil, Nat.reduceAdd, Nat.reduceSub, Array.replicate_succ, Array.replicate_zero, List.push_toArray, List.append_toArray, List.nil_append, List.cons_append]; refine wpIn_wide.2 ?_; go_wp2_with fail
 rw [← hwS]; clear hwS; cases hlt : mk.lt t with
 | false =>
  have hlt' : lessB mk.a mk.b mk.c t.a t.b t.c = false := hlt; have HG : Hid (prG (abs m) mk t = 0 ∧ prM (abs m) mk t = abs m ∧ prK mk t = mk) := by unfold prG prM prK; rw [hlt]; exact ⟨rfl, rfl, rfl⟩
  clear hlt; refine wp_region_quiet_below (by kernel_rfl) (by kernel_rfl) ?_; repeat (go_big_quiet_step ((go_at_call 59; exact Calls.regrown_of (less_is (by assumption) _))))
  refine wpQuiet_nil ?_; intro w1 hw; replace hw := below_of_regrown hw; have hb : Below w.heap.size w w1 := Below.on H.out.2.1 hw; clear kp0 kt0 kt1 kt2 kc1 kc2 kc3 p0 t0 t1 t2 c1 c2 c3 hw; go_wp2_with fail
  refine ⟨_, results_tmp rfl _ _ _, by rw [HG.out.1]; rfl, ⟨F, ⟨m, by rw [HG.out.2.2]; exact H.out.1.later hb, HG.out.2.1.symm⟩, fun b hb => .inl hb⟩, Onl.of_below hb, Part.below hb⟩
 | true =>
  have hlt' : lessB mk.a mk.b mk.c t.a t.b t.c = true := hlt; have HG : Hid (prG (abs m) mk t = goneM (abs m) t ∧ prM (abs m) mk t = pruneM (abs m) t ∧ prK mk t = t) := by unfold prG prM prK; rw [hlt]; exact ⟨rfl, rfl, rfl⟩
  clear hlt; refine wp_region_quiet_below (by kernel_rfl) (by kernel_rfl) ?_; repeat (go_big_quiet_step ((go_at_call 59; exact Calls.regrown_of (less_is (by assumption) _))))
  refine wpQuiet_nil ?_; intro w1 hw; replace hw := below_of_regrown hw; have hb1 : Below w.heap.size w w1 := Below.on H.out.2.1 hw; have hw1 := hid hw.size; have h1 := H.out.1.later hb1; have kP1 : Boxed w1 w.heap.size 163 (.pointer (some ⟨p, o, none⟩)) := (hw.block _ H.out.2.2.1.lt).trans H.out.2.2.1; have kT1 : w1.heap[w.heap.size + 1]? = some (.cells #[.int .u64 t.a, .int .u32 t.b, .int .u32 t.c] 28 (0, 0)) := (hw.block _ (Array.getElem?_eq_some_iff.1 H.out.2.2.2).1).trans H.out.2.2.2; have p0 := kP1.cell; have t0 : w1.cell? ⟨w.heap.size + 1, 0, none⟩ = some (.int .u64 t.a) := cell_of_obj kT1 rfl; have t1 : w1.cell? ⟨w.heap.size + 1, 1, none⟩ = some (.int .u32 t.b) := cell_of_obj kT1 rfl; have t2 : w1.cell? ⟨w.heap.size + 1, 2, none⟩ = some (.int .u32 t.c) := cell_of_obj kT1 rfl; have c1 := Sto.c1 h1; have c2 := Sto.c2 h1; have c3 := Sto.c3 h1
  have cf : ∀ j, w1.frozen? ⟨p, j, none⟩ = false := fun j => Sto.loose h1 j
  obtain ⟨h2, ho2, hp2⟩ := h1.marked t; obtain ⟨wm, hwm⟩ : ∃ wm, wm = ((w1.setCell ⟨p, o + 1, none⟩ (.int .u64 t.a)).setCell ⟨p, o + 2, none⟩ (.int .u32 t.b)).setCell ⟨p, o + 3, none⟩ (.int .u32 t.c) := ⟨_, rfl⟩; rw [← hwm] at h2 ho2 hp2; have nP : w.heap.size ≠ p := fun e => Nat.lt_irrefl _ (e ▸ H.out.1.lt H.out.1.fp)
  have nT : w.heap.size + 1 ≠ p := fun e => by have := H.out.1.lt H.out.1.fp; omega
  have kP2 : Boxed wm w.heap.size 163 (.pointer (some ⟨p, o, none⟩)) := (ho2.block _ kP1.lt nP).trans kP1; have kT2 := (ho2.block _ (Array.getElem?_eq_some_iff.1 kT1).1 nT).trans kT1; obtain ⟨wL, hwL⟩ : ∃ wL, wL = wm.alloc (.cells #[.int .i64 0] 3) := ⟨_, rfl⟩; have bg : Boxed wL wm.heap.size 3 (.int .i64 0) := by rw [hwL]; exact Boxed.new wm _ _
  have hbL : Below wm.heap.size wm wL := by rw [hwL]; exact Below.al (Below.refl _ _) _
  have hL := h2.later hbL; have kP3 : Boxed wL w.heap.size 163 (.pointer (some ⟨p, o, none⟩)) := (hbL.block _ kP2.lt).trans kP2; have kT3 := (hbL.block _ (Array.getElem?_eq_some_iff.1 kT2).1).trans kT2; have RG := hid (range_is hL.xi ⟨#[]⟩ ⟨#[]⟩); have HL := hid (show _ ∧ _ ∧ _ ∧ _ ∧ _ ∧ _ ∧ _ from ⟨hL, bg, kP3, kT3, hb1, ho2, hbL⟩); have s0 : wm.cell? ⟨w.heap.size, 0, none⟩ = some (.pointer (some ⟨p, o, none⟩)) := kP2.cell; have s1 : wL.cell? ⟨w.heap.size, 0, none⟩ = some (.pointer (some ⟨p, o, none⟩)) := kP3.cell; clear kp0 kt0 kt1 kt2 kc1 kc2 kc3 hw h1 kP1 kT1 h2 kP2 kT2 hL kP3 kT3 bg hbL ho2; go_upto_region 4 with fail
  rw [← hwm]; clear hwm p0 t0 t1 t2 c1 c2 c3 cf; go_upto_region 5 with fail
  rw [← hwL]; clear hwL s0; go_wp2_with (go_at_call 99; refine RG.out.mono ?_; rintro e w2 ⟨R, Bs, rfl, hit, hb2, hR, hBs⟩)
  clear RG s1; obtain ⟨hL, bg, kP3, kT3, hb1, ho2, hbL⟩ := HL.out; have hc2 := hL.later hb2; have hstops := range_stops (5 - 1) hit; rw [rangeX_all] at hstops; have bg2 : Boxed w2 wm.heap.size 3 (.int .i64 0) := (hb2.block _ bg.lt).trans bg; have HP2 : Hid (Boxed w2 w.heap.size 163 (.pointer (some ⟨p, o, none⟩))) := (hb2.block _ kP3.lt).trans kP3; have HT2 := hid ((hb2.block _ (Array.getElem?_eq_some_iff.1 kT3).1).trans kT3); have HC2 := hid hc2; have HBG := hid bg2; have HSM : Hid (m.length ≤ 268435456 ∧ ∀ e ∈ m, e.2.n ≤ 268435456 ∧ e.2.vs.length = e.2.n ∧ Ris e.2.vs) := by
   have hk := count_keys H.out.1.good; rw [abs_len] at hk; have hN := HN.out; refine ⟨by omega, fun e he => ?_⟩; have hm : (e.1, e.2.vs) ∈ abs m := List.mem_map.2 ⟨_, he, rfl⟩; have h1 := count_mem hm; have h2 := (H.out.1.row e he).len; simp only at h1; exact ⟨by omega, h2, (H.out.1.good.chain _ hm).2⟩
  have HW2 : Hid (w.heap.size + 1 + 1 ≤ wm.heap.size ∧ wm.heap.size < w2.heap.size) := by
   refine ⟨?_, bg2.lt⟩; have h1 := (Array.getElem?_eq_some_iff.1 H.out.2.2.2).1; have h2 := ho2.size; have h3 := HSZ.out; have h4 := hw1.out; omega
  have HRST : Hid (Onl F w w2) := ((Onl.of_below (F := F) hb1).trans (ho2.mono (fun b e => by rw [e]; exact H.out.1.fp))).trans (Onl.of_below (Below.on hbL hb2)); have HPRT : Hid (Part p o 4 w w2) := ((Part.below hb1).trans hp2).trans (Part.below (Below.on hbL hb2)); clear hL bg kP3 kT3 hb1 ho2 hp2 hbL hc2 hb2 hit HL hR hBs; refine (wpIn_wide (n := 5)).1 ?_; obtain ⟨bg, hbg⟩ : ∃ bg, bg = wm.heap.size := ⟨_, rfl⟩; rw [← hbg] at bg2 HBG HW2 ⊢; clear hbg; have hw2s : w2.heap.size ≤ w2.heap.size := Nat.le_refl _; have HROW : Hid (∀ W, Onl (fun b => b = p ∨ b = bg) w2 W → ∀ z : Of m, Row W z.1.1 z.1.2) := fun W ho z => by
   have r := HC2.out.row _ z.2; obtain ⟨cs, y, hb⟩ := r.block; obtain ⟨pcs, bx⟩ := HC2.out.blk; refine r.keep (ho.block _ r.lt (fun e => e.elim (type_ne hb bx HC2.out.ty.2.symm) (type_ne hb (show w2.heap[bg]? = _ from HBG.out) (by decide))))
  have HNX : Hid (∀ W, Onl (fun b => b = p ∨ b = bg) w2 W → Boxed W w.heap.size 163 (.pointer (some ⟨p, o, none⟩)) ∧ W.heap[w.heap.size + 1]? = some (.cells #[.int .u64 t.a, .int .u32 t.b, .int .u32 t.c] 28 (0, 0))) := fun W ho => by
   have hX := H.out.1.lt H.out.1.fp; have hs := HW2.out; exact ⟨(ho.block _ HP2.out.lt (by rintro (e | e) <;> omega)).trans HP2.out, (ho.block _ (Array.getElem?_eq_some_iff.1 HT2.out).1 (by rintro (e | e) <;> omega)).trans HT2.out⟩
  apply wpIn_rangeFunc_ownG rfl (by decide) (gf := 133) (lb := #[.pointer (some ⟨R, 0, none⟩), .pointer (some ⟨Bs, 0, none⟩)]) rfl trivial (enters_of Tryz.func133 (by kernel_rfl) rfl)
   hstops kp_t kp_b (Below.refl _ _) (fun _ => rfl)
   (PrI w2 F (abs m) w2.heap.size p o ty bg t) (fun _ _ _ => False) (prI_own (Nat.le_refl _)) (fun _ _ _ _ _ hs _ _ => hs)
   ⟨⟨F, m, HC2.out, rfl, by simp, fun b hb => .inl hb⟩, bg2, Onl.refl _ _, Part.refl _ _ _ _⟩
  case hassign =>
   intro y z W K hK; gi_wp2
   exact hK
  case hbody =>
   rintro y pre z W ⟨⟨F', m', hs, hm', hml, hF'⟩, hbx, ho, hpt⟩ hlt; obtain ⟨hN1, hN2, hN3⟩ := HSM.out.2 z.1 z.2; obtain ⟨kPW, kTW⟩ := HNX.out W ho; have US := hid (unseen_is t (HROW.out W ho z) hN3 (by omega)); have hus := unseen_le z.1.2.vs t; rw [hN2] at hus; have DR : Hid (∀ W2, Below W.heap.size W W2 → _) := fun W2 hb => drop_is (n := unseen z.1.2.vs t) (hs.later hb) ((HROW.out W ho z).later hb) hN3 hus (by omega) (by have := HSM.out.1; have h1 := hlt; omega)
   have hgb := goneE_bound t 268435456 (fun e he => by have := HSM.out.2 e he; omega) pre; have hg1 : pre.length * 268435456 ≤ 72057594037927936 := Nat.le_trans (Nat.mul_le_mul_right _ (show pre.length ≤ 268435456 by have := HSM.out.1; omega)) (by decide); obtain ⟨gn, hgn⟩ : ∃ gn, goneE (pre.map (fun x => x.1)) t = gn := ⟨_, rfl⟩; rw [hgn] at hbx hgb; obtain ⟨un, hun⟩ : ∃ un, unseen z.1.2.vs t = un := ⟨_, rfl⟩; rw [hun] at US hus DR; have HGN : Hid (goneE ((pre ++ [z]).map (fun x => x.1)) t = gn + un) := by show _ = _; rw [List.map_append]; exact (goneE_snoc _ _ t).trans (by rw [hgn, hun])
   have HMF : Hid ((abs ((pre ++ [z]).map (fun x => x.1))).foldl (stepP t) (abs m) = dropM (abs m') z.1.1 z.1.2.vs un) := by
    show _ = _
    have e : abs ((pre ++ [z]).map (fun x => x.1)) = abs (pre.map (fun x => x.1)) ++ [(z.1.1, z.1.2.vs)] := by simp [abs]
    rw [e, List.foldl_append, ← hm', ← hun]; rfl
   have c0 := kPW.cell; have t0 : W.cell? ⟨w.heap.size + 1, 0, none⟩ = some (.int .u64 t.a) := cell_of_obj kTW rfl; have t1 : W.cell? ⟨w.heap.size + 1, 1, none⟩ = some (.int .u32 t.b) := cell_of_obj kTW rfl; have t2 : W.cell? ⟨w.heap.size + 1, 2, none⟩ = some (.int .u32 t.c) := cell_of_obj kTW rfl; have HBX := hid hbx; have HO := hid ho; have HPW := hid kPW; have HF' := hid hF'; have HML := hid hml; have hgI : (gn : Int) + (un : Int) ≤ 9223372036854775807 := by omega
   have HXB : Hid (bg ≠ p) := by
    have h1 := H.out.1.lt H.out.1.fp; have h2 := HW2.out; show _ ≠ _
    omega
   have HPX : Hid (w.heap.size ≠ p ∧ w.heap.size ≠ bg) := by
    have h1 := H.out.1.lt H.out.1.fp; have h2 := HW2.out; exact ⟨by omega, by omega⟩
   have HXW : Hid (StT ty ∧ ∃ cs, W.heap[p]? = some (.cells cs ty (0, 0))) := ⟨hs.ty, hs.blk⟩; have HPT := hid hpt; clear hpt hs hm' hml hF' hbx ho kPW kTW hgn hun hN1 hN2 hN3 hgb hg1; gi_wp2_with (first
    | ((try refine ⟨trivial, ?_⟩); gi_at_call 100; refine (CallsIn.inRound y (callsIn_wide.2 US.out)).mono ?_; rintro e w3 ⟨rfl, hb3⟩; have c03 : w3.cell? ⟨w.heap.size, 0, none⟩ = some (.pointer (some ⟨p, o, none⟩)) := cell_later hb3 c0)
    | ((try refine ⟨trivial, ?_⟩); gi_at_call 101; refine (CallsIn.inRound y (callsIn_wide.2 (DR.out w3 hb3))).mono ?_; rintro e w4 ⟨⟨v0, rfl⟩, hs4, ho4, hp4⟩; have HS4 := hid hs4; have HO4 := hid ho4; have HP4 := hid hp4; have bx4 : Boxed w4 bg 3 (.int .i64 gn) := (ho4.block bg (Nat.lt_of_lt_of_le HBX.out.lt hb3.size) HXB.out).trans ((hb3.block _ HBX.out.lt).trans HBX.out); have bc4 := bx4.cell; have bf4 := bx4.frozen; clear hs4 ho4 hp4))
   have hOF : Onl (fun b => b = p ∨ b = bg) W (w4.setCell ⟨bg, 0, none⟩ (.int .i64 ((gn : Int) + (un : Int)))) := ((Onl.of_below hb3).trans (HO4.out.mono fun b e => .inl e)).set (F := fun b => b = p ∨ b = bg) (.inr rfl) _ _; have hPF : Part p o 4 w2 (w4.setCell ⟨bg, 0, none⟩ (.int .i64 ((gn : Int) + (un : Int)))) := ((HPT.out.trans (Part.below hb3)).trans (HP4.out.wide (by omega) (by omega))).trans (Part.onl (Onl.set (F := fun b => b = bg) (Onl.refl _ _) rfl _ _) (Ne.symm HXB.out)); obtain ⟨htyp, pcs, bxW⟩ := HXW.out; obtain ⟨F2, m2, s2, e2, l2, f2⟩ := HS4.out; have hs3 := hb3.size; have hsO := HO.out.size; refine ⟨onl_keeps _ hOF (fun b o hg ho => ?_), Kp.of_onl hOF (fun b cs ty z hg hb hty => ?_), ⟨F2, m2, ?_, e2.trans HMF.out.symm, ?_, fun b hb => ?_⟩, ?_, HO.out.trans hOF, hPF⟩
   ·rcases hg with rfl | rfl
    ·rw [bxW] at ho; cases ho; rfl
    ·rw [show W.heap[b]? = _ from HBX.out] at ho; cases ho; rfl
   ·rcases hg with rfl | rfl
    ·rw [bxW] at hb; cases hb; exact htyp.1 hty
    ·rw [show W.heap[b]? = _ from HBX.out] at hb; cases hb; exact not_ixt rfl hty
   ·have hos : Onl (fun b => b = bg) w4 (w4.setCell ⟨bg, 0, none⟩ (.int .i64 ((gn : Int) + (un : Int)))) := Onl.set (F := fun b => b = bg) (Onl.refl _ _) rfl _ _; refine s2.keep (Kp.of_index hos bx4 (not_ixt rfl)) fun b hf => hos.block b (s2.lt hf) fun e => ?_
    subst e; have h2 := HW2.out; rcases f2 b hf with h1 | h1
    ·rcases HF'.out b h1 with h0 | h0
     ·have := H.out.1.lt h0; omega
     ·omega
    ·have h3 := HBX.out.lt; omega
   ·rw [List.length_append, List.length_singleton]; have := HML.out; omega
   ·rcases f2 b hb with h1 | h1
    ·exact HF'.out b h1
    ·exact .inr (by omega)
   ·rw [HGN.out]; exact bx4.set _
  case hdone =>
   rintro D ys W hD hys ⟨⟨F', m', hs, hm', hml, hF'⟩, hbx, ho, hpt⟩ hK; rw [hys] at hbx hm'; rw [prune_all H.out.1.good t] at hm'; rw [goneE_abs] at hbx; have c := hbx.cell; have HQ := hid (show _ ∧ _ ∧ _ ∧ _ ∧ _ from ⟨hs, hm', hF', ho, hpt⟩); clear hs hm' hF' ho hbx hml hpt; go_wp2_with fail
   refine ⟨by simp, .inl ⟨_, _, rfl, run_takeDeferred hK, ?_⟩⟩; obtain ⟨hs, hm', hF', ho, hpt⟩ := HQ.out; have hw2w : w.heap.size ≤ w2.heap.size := HRST.out.size; refine ⟨_, results_tmp rfl _ _ _, by rw [HG.out.1]; rfl, ⟨F', ⟨m', by rw [HG.out.2.2]; exact Own.putObj (stoX_own (β := Unit)) (s := ()) _ hs hK rfl, by rw [HG.out.2.1]; exact hm'⟩, fun b hb => (hF' b hb).imp id (fun h => Nat.le_trans hw2w h)⟩, ?_, HPRT.out.trans (Own.putObj (part_own (β := Unit)) (s := ()) _ hpt hK rfl)⟩; refine (HRST.out.fresh ho (fun b hb => ?_)).fresh (onl_put W D _) (fun b hb => .inr (by rw [hb]; exact Nat.le_trans hw2w hD)); rcases hb with rfl | rfl
   ·exact .inl H.out.1.fp
   ·exact .inr (by have := HW2.out; omega)
  case hstop =>
   rintro D c pre W _ _ h _; exact h.elim
end Go.Proofs.YtneojeidpfjpbaaGreatDoor.Vs
namespace Go.Proofs.YtneojeidpfjpbaaGreatDoor.Ys
open Go.RowKit Go.Sort
abbrev at' (r : Rg) : Vs.Sp := ⟨r.w, r.l, r.n⟩
abbrev lsS (x y : Vs.Sp) : Bool := lessB x.a x.b x.c y.a y.b y.c
def mrkE (s : Ps) (r : Rg) : Int := if lsS s.wm (at' r) then 0 else 130
def mrkS (s : Ps) (r : Rg) : Ps := if lsS s.wm (at' r) then { s with M := Vs.prM s.M s.wm (at' r), wm := Vs.prK s.wm (at' r) } else s
theorem mark_is {F : Nat → Prop} {w : World} {p : Nat} {m1 m2 m : Option Nat} {V : List Lk.Hv} {I : Lk.It} {s : Ps} (T : St F w p m1 m2 m V I s) (r : Rg) (hn : Vs.countM s.M ≤ 268435456) :
  Calls Tryz.prog 22 #[sp p, r.val] w fun e w' => e = .returned (.int .i64 (mrkE s r)) ∧ ∃ F', St F' w' p m1 m2 m V I (mrkS s r) ∧ (∀ b, F' b → F b ∨ w.heap.size ≤ b) ∧ Onl F w w' := by
 obtain ⟨wx, hwx⟩ : ∃ wx, wx = w.alloc (.cells r.cells 43) := ⟨_, rfl⟩; have hbx : Below w.heap.size w wx := by rw [hwx]; exact Below.al (Below.refl _ _) _
 have x6 : wx.cell? ⟨w.heap.size, 6, none⟩ = some (.int .u64 r.w) := by rw [hwx]; exact (boxG w r _).c6
 have x7 : wx.cell? ⟨w.heap.size, 7, none⟩ = some (.int .u32 r.l) := by rw [hwx]; exact (boxG w r _).c7
 have x8 : wx.cell? ⟨w.heap.size, 8, none⟩ = some (.int .u32 r.n) := by rw [hwx]; exact (boxG w r _).c8
 have k6 := cell_regrown x6; have k7 := cell_regrown x7; have k8 := cell_regrown x8
 have HT := hid (T.later hbx); have HBX := hid hbx; have HN := hid hn; obtain ⟨wa, wb, wc, hws⟩ : ∃ a b c, s.wm = ⟨a, b, c⟩ := ⟨_, _, _, rfl⟩; have WM : Hid (∀ W, Below wx.heap.size wx W → Calls Tryz.prog 29 #[.pointer (some ⟨p, 0, none⟩)] W fun e w' => e = .returned (.agg #[.int .u64 wa, .int .u32 wb, .int .u32 wc]) ∧ Below W.heap.size W w') := hid fun W hb => by
  refine (Watermark_is (HT.out.later hb)).mono ?_; rintro e w' ⟨he, h⟩; exact ⟨by rw [he, hws], h⟩
 obtain ⟨lu, hlu⟩ : ∃ lu, lessB wa wb wc r.w r.l r.n = lu := ⟨_, rfl⟩; have hl' : lsS s.wm (at' r) = lu := by rw [hws]; exact hlu
 have HLU := hid hlu; have HW := hid hws; rw [mrkE, mrkS, hl']; clear T hbx hn hws hl' hlu; cases lu
 ·go_enter Tryz.func22, Tryz.ntmps22
  go_wp2_with fail
  rw [← hwx]; clear hwx; refine wp_region_quiet_below (by kernel_rfl) (by kernel_rfl) ?_; repeat (go_big_quiet_step (first | (go_at_call 29; exact Calls.regrown_of (WM.out _ (below_regrown _ _ _))) | (go_at_call 59; exact Calls.regrown_of (less_is HLU.out _))))
  refine wpQuiet_nil ?_; intro wq hq; replace hq := below_of_regrown hq; go_wp2_with fail
  go_ret
  exact ⟨rfl, F, HT.out.later hq, fun b hb => .inl hb, Onl.of_below (Below.on HBX.out hq)⟩
 ·go_enter Tryz.func22, Tryz.ntmps22
  go_wp2_with fail
  rw [← hwx]; clear hwx; refine wp_region_quiet_below (by kernel_rfl) (by kernel_rfl) ?_; repeat (go_big_quiet_step (first | (go_at_call 29; exact Calls.regrown_of (WM.out _ (below_regrown _ _ _))) | (go_at_call 59; exact Calls.regrown_of (less_is HLU.out _))))
  refine wpQuiet_nil ?_; intro wq hq; replace hq := below_of_regrown hq; have y6 := cell_later hq x6; have y7 := cell_later hq x7; have y8 := cell_later hq x8
  have PR : Hid (∀ W, Below wq.heap.size wq W → Calls Tryz.prog 60 #[.pointer (some ⟨p, 5, none⟩), .agg #[.int .u64 r.w, .int .u32 r.l, .int .u32 r.n]] W fun e w' => ∃ x, e = .returned (.int .i64 x) ∧ Hid (∃ F', St F' w' p m1 m2 m V I { s with M := Vs.prM s.M s.wm (at' r), wm := Vs.prK s.wm (at' r) } ∧ (∀ b, F' b → F b ∨ w.heap.size ≤ b) ∧ Onl F w w')) := hid fun W hb => by
   have TT := HT.out.later (Below.on hq hb); refine (Vs.pruneG_is TT.st (at' r) HN.out).mono ?_; rintro e w' ⟨he, ⟨F', h1, h2⟩, h3, h4⟩; have hBW : Below w.heap.size w W := Below.on HBX.out (Below.on hq hb); exact ⟨_, he, hid ⟨F', TT.store h1 h3 h4, fun b hb' => (h2 b hb').elim .inl fun k => .inr (Nat.le_trans hBW.size k), (Onl.of_below hBW).trans h3⟩⟩
  clear k6 k7 k8 x6 x7 x8 WM HLU hq; go_wp2_with fail
  go_cut [] (fun wz => ∃ F', St F' wz p m1 m2 m V I { s with M := Vs.prM s.M s.wm (at' r), wm := Vs.prK s.wm (at' r) } ∧ (∀ b, F' b → F b ∨ w.heap.size ≤ b) ∧ Onl F w wz)
  case first =>
   go_region_with (go_at_call 60; refine (PR.out _ (by (repeat (first | with_reducible exact Below.refl _ _ | with_reducible assumption | with_reducible refine Below.drew ?_ | with_reducible refine Below.al ?_ _ | with_reducible refine Below.setCell ?_ (by first | exact Nat.le_refl _ | (simp; omega) | (simp; done)) _ | with_reducible refine Below.on ?_ (by assumption))))).mono ?_; rintro e w2 ⟨x, rfl, HP⟩)
   all_goals (try go_wp2_with fail)
   all_goals go_meet
   all_goals exact HP.out
  case rest =>
   have HC := hid hcut; clear hcut; go_wp2_with fail
   go_ret
   exact ⟨rfl, HC.out⟩
end Go.Proofs.YtneojeidpfjpbaaGreatDoor.Ys
namespace Go.Proofs.YtneojeidpfjpbaaGreatDoor
def StB (a b c : Int) : Prop := (0 ≤ a ∧ a ≤ 18446744073709551615) ∧ (0 ≤ b ∧ b ≤ 4294967295) ∧ (0 ≤ c ∧ c ≤ 4294967295)
open Go.RowKit Go.Sort
def putStamp (w : World) (p : Nat) (a b c : Int) : World :=
 ((w.setCell ⟨p, 0, none⟩ (.int .u64 a)).setCell ⟨p, 1, none⟩ (.int .u32 b)).setCell ⟨p, 2, none⟩ (.int .u32 c)
theorem StampAt.put {w : World} {p : Nat} {a b c : Int} (h : StampAt w p a b c) (x y z : Int) : StampAt (putStamp w p x y z) p x y z := by
 obtain ⟨h0, h1, h2⟩ := h; refine ⟨?_, ?_, ?_⟩
 ·unfold putStamp; rw [World.cell?_setCell_other _ _ _ _ (by simp), World.cell?_setCell_other _ _ _ _ (by simp), World.cell?_setCell_same _ _ _ h0]
 ·unfold putStamp; rw [World.cell?_setCell_other _ _ _ _ (by simp), World.cell?_setCell_same _ _ _ (u := .int .u32 b) (by rw [World.cell?_setCell_other _ _ _ _ (by simp)]; exact h1)]
 ·unfold putStamp; rw [World.cell?_setCell_same _ _ _ (u := .int .u32 c) (by rw [World.cell?_setCell_other _ _ _ _ (by simp), World.cell?_setCell_other _ _ _ _ (by simp)]; exact h2)]
theorem cell_put {w : World} {p q o : Nat} {v : Value} (a b c : Int) (hne : p ≠ q) (h : w.cell? ⟨q, o, none⟩ = some v) : (putStamp w p a b c).cell? ⟨q, o, none⟩ = some v := by
 unfold putStamp; rw [World.cell?_setCell_other _ _ _ _ (fun e => hne (congrArg Addr.block e)), World.cell?_setCell_other _ _ _ _ (fun e => hne (congrArg Addr.block e)), World.cell?_setCell_other _ _ _ _ (fun e => hne (congrArg Addr.block e)), h]
theorem Loose.put {w : World} {p q : Nat} (h : Loose w q) (a b c : Int) : Loose (putStamp w p a b c) q := fun o => by
 unfold putStamp; rw [World.frozen?_setCell, World.frozen?_setCell, World.frozen?_setCell]; exact h o
theorem Below.put {B : Nat} {w0 w : World} (h : Below B w0 w) {p : Nat} (hp : B ≤ p) (a b c : Int) : Below B w0 (putStamp w p a b c) :=
 Below.setCell (p := ⟨p, 2, none⟩) (Below.setCell (p := ⟨p, 1, none⟩) (Below.setCell (p := ⟨p, 0, none⟩) h hp _) hp _) hp _
open Go.RowKit Go.Sort
structure St where
 w : Int
 l : Int
 n : Int
def zst : St := ⟨0, 0, 0⟩
abbrev St.val (s : St) : Value := stv s.w s.l s.n
def St.less (s t : St) : Bool := lessB s.w s.l s.n t.w t.l t.n
def nth (xs : List St) (i : Nat) : St := (xs[i]?).getD zst
def Row (w : World) (a : Option Addr) (xs : List St) : Prop :=
 ∀ i, i < xs.length → ∃ b off, a = some ⟨b, off, none⟩ ∧ w.cell? ⟨b, off + i * 3, none⟩ = some (.int .u64 (nth xs i).w) ∧ w.cell? ⟨b, off + i * 3 + 1, none⟩ = some (.int .u32 (nth xs i).l) ∧ w.cell? ⟨b, off + i * 3 + 2, none⟩ = some (.int .u32 (nth xs i).n)
theorem Row.later {w w' : World} {a : Option Addr} {xs : List St} (h : Row w a xs) (hb : Below w.heap.size w w') : Row w' a xs := fun i hi => by
 obtain ⟨b, off, e, h0, h1, h2⟩ := h i hi; exact ⟨b, off, e, cell_later hb h0, cell_later hb h1, cell_later hb h2⟩
def maxSt (m : St) : List St → St
 | [] => m
 | x :: xs => maxSt (if m.less x then x else m) xs
theorem maxSt_snoc (xs : List St) (x m : St) : maxSt m (xs ++ [x]) = if (maxSt m xs).less x then x else maxSt m xs := by
 induction xs generalizing m with
 | nil => rfl
 | cons y ys ih => exact ih _
theorem nth_take {xs : List St} {k : Nat} (h : k < xs.length) : xs.take (k + 1) = xs.take k ++ [nth xs k] := by
 rw [List.take_succ_eq_append_getElem h]; simp [nth, h]
end Go.Proofs.YtneojeidpfjpbaaGreatDoor
