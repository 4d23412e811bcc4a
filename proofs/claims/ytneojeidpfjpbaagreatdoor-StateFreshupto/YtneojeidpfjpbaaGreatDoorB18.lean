import Derived.Test.YtneojeidpfjpbaaGreatDoorB17
set_option linter.unusedVariables false
set_option maxHeartbeats 2000000
namespace Go.Proofs.YtneojeidpfjpbaaGreatDoor.Vs
open Go.RowKit Go.Sort Go.Shelf
def flatK (l : List Kv) : List Value := l.flatMap fun e => [.string e.1, .int .u64 e.2.s.a, .int .u32 e.2.s.b, .int .u32 e.2.s.c, .bool e.2.del, .string e.2.val]
theorem flatK_append (l m : List Kv) : flatK (l ++ m) = flatK l ++ flatK m := by simp [flatK]
theorem flatK_chain (k : ByteArray) (vs : List Ver) : flatK (vs.map fun v => (k, v)) = flatV k vs := by
 unfold flatK flatV; rw [List.flatMap_map]
def OwnV (w : World) (B : Nat) (v : Value) (l : List Kv) : Prop := w.ownsRow B 97 6 v l.length (flatK l)
theorem OwnV.slice {w : World} {B : Nat} {v : Value} {l : List Kv} (h : OwnV w B v l) : ∃ a c, v = .slice a l.length c := owns_slice h
theorem append_types {P : Program} {t u e e' ty : TypeId} (ht : P.underlying t = some (.slice e)) (hu : P.underlying u = some (.slice e')) (b b' : Option Addr) (n m c c' : Nat) (w : World) :
  (Builtin.append_ #[t, u] ty #[.slice b n c, .slice b' m c']).run P w = (Builtin.append_ #[t, t] ty #[.slice b n c, .slice b' m c']).run P w := by
 simp [Builtin.append_, run_underlying ht, run_underlying hu]
theorem wpListIn_append_two {F : Fence} {n : Nat} {P : Program} (w : World) {ops : Array Oper} {rest : List Oper} {o : Oper} {a : Act} {Q : Exit → Act → World → Prop}
  (hg : o.guard = none) (s x : Operand) (t t' e' : TypeId) (hop : o.op = Op.call { callee := Callee.builtin Builtin.append, args := #[s, x], argTypes := #[t, t'] })
  (base : Nat) (e : TypeId) (i : TypeInfo) (z : Value) (size bytes : Nat) (h1 : P.underlying t = some (.slice e)) (h1' : P.underlying t' = some (.slice e')) (h2 : P.info? e = some i) (h3 : i.zero = some z) (h4 : i.size = size) (h5 : i.bytes = bytes) (h6 : z.cells.size = size) (h7 : 0 < size)
  (v : Value) (k : Nat) (xs : List Value) (hs : a.eval s = v) (hown : w.ownsRow base e size v k xs) (ad : Addr) (m c : Nat) (news : List Value) (hx : a.eval x = .slice (some ad) m c) (hn : news.length = m * size)
  (hc : ∀ j u, news[j]? = some u → w.cell? (ad.add j) = some u) (h1c : ∀ u ∈ news, u.oneCell' = true) (b1 : k + m ≤ maxLen) (b2 : (k + m) * bytes ≤ 140737488355328) (b3 : base ≤ w.heap.size)
  (hK : ∀ v' w', w'.ownsRow base e size v' (k + m) (xs ++ news) → w.grownBy w' v.ownBlock → (v' = .slice none 0 0 ↔ v = .slice none 0 0 ∧ m = 0) → wpListIn F n P ops Q rest (a.put o.dst v') w') :
  wpListIn F n P ops Q (o :: rest) a w := by
 refine wpListIn_plain hg fun K hK' => ?_
 obtain ⟨v', w', hrun, r1, r2, r3⟩ := run_append_own (P := P) w base t o.type e i z size bytes h1 h2 h3 h4 h5 h6 h7 v k xs hown ad m c news hn hc h1c b1 b2 b3; obtain ⟨va, vc, rfl⟩ := owns_slice hown; rw [← append_types h1 h1'] at hrun; unfold Oper.wpIn; refine ⟨?_, ?_⟩
 ·simp [Oper.about, hop, resolve, Target.leads, Sem.run_pure]
 ·rw [Oper.semAt_plain F _ _ (by rw [hop]; intro c hc'; cases hc')]; simp [execOp, hop, resolve, invoke, builtin, hs, hx, hrun, Result.andThen]; exact hK' _ _ (hK v' w' r1 r2 r3)
def dpOf (l : List En) : List Kv := dumpM (abs l)
theorem dpOf_snoc (l : List En) (e : En) : dpOf (l ++ [e]) = dpOf l ++ e.2.vs.map fun v => (e.1, v) := by simp [dpOf, dumpM, abs]
attribute [local go_sem] Oper.semAt_some
theorem Boxed.appended0 {W w1 : World} {n₀ B : Nat} {t e : TypeId} {size : Nat} {v v' : Value} {k m : Nat} {xs ys : List Value}
  (hv : Boxed W B t v) (hte : t ≠ e) (hrow : W.ownsRow n₀ e size v k xs) (hn₀ : n₀ ≤ W.heap.size) (hB : n₀ ≤ B)
  (hown' : w1.ownsRow n₀ e size v' m ys) (hgrow : W.grownBy w1 v.ownBlock) :
  Boxed w1 B t v ∧ Boxed (w1.setCell ⟨B, 0, none⟩ v') B t v' ∧ (w1.setCell ⟨B, 0, none⟩ v').ownsRow n₀ e size v' m ys ∧ KeepsOthers W (w1.setCell ⟨B, 0, none⟩ v') ∧ Below n₀ W (w1.setCell ⟨B, 0, none⟩ v') := by
 have hv1 : Boxed w1 B t v := hv.kept hgrow (hv.not_row hte hrow); refine ⟨hv1, hv1.set v', hown'.kept (grownBy_setCell' w1 B v') (.inr (hv1.not_row hte hown').symm), ?_, ?_⟩
 ·refine (KeepsOthers.of_grownBy hgrow fun j o ej hj => ?_).trans (KeepsOthers.setCell _ _ _); rcases hrow.2 with ⟨rfl, _⟩ | ⟨g, cap, cur, rfl, _, hgb, _⟩
  ·simp [Value.ownBlock] at ej
  ·obtain rfl : g = j := by simpa [Value.ownBlock] using ej
   rw [hgb] at hj; cases hj; rfl
 ·refine ((Below.refl n₀ W).grown hgrow (by omega) fun j ej => ?_).setCell (p := ⟨B, 0, none⟩) hB v'; rcases hrow.2 with ⟨rfl, _⟩ | ⟨g, cap, cur, rfl, hb, _, _⟩
  ·simp [Value.ownBlock] at ej
  ·obtain rfl : g = j := by simpa [Value.ownBlock] using ej
   exact hb
theorem kp_appended0 {W w1 : World} {n₀ B : Nat} {t e : TypeId} {size : Nat} {v v' : Value} {k : Nat} {xs : List Value}
  (hv : Boxed W B t v) (hrow : W.ownsRow n₀ e size v k xs) (hgrow : W.grownBy w1 v.ownBlock) (ht : ¬ IxT t) (he : ¬ IxT e) : Kp W (w1.setCell ⟨B, 0, none⟩ v') := by
 refine ⟨Nat.le_trans hgrow.size (by simp [World.setCell]), fun b cs ty z hty hb => ?_⟩; have hlt := (Array.getElem?_eq_some_iff.1 hb).1; have hne : b ≠ B := fun e' => by subst e'; rw [show W.heap[b]? = _ from hv] at hb; cases hb; exact ht hty
 refine (Below.heap_setCell _ _ _ _ hne).trans ((hgrow.block b hlt (row_not hrow he hty hb)).trans hb)
def DpI (w : World) (bp : Nat) {E : List En} (pre : List (Of E)) (W : World) : Prop :=
 (∃ v, Boxed W bp 98 v ∧ W.ownsRow w.heap.size 97 6 v (dpOf (pre.map (fun x => x.1))).length (flatK (dpOf (pre.map (fun x => x.1)))) ∧ True) ∧ Below w.heap.size w W
theorem dpI_own {w : World} {bp Q : Nat} {E : List En} (hq : w.heap.size ≤ Q) : OwnFrom Q (DpI w bp (E := E)) :=
 OwnFrom.and (Own.from (holdsRow_own w.heap.size bp 98 97 6 (fun pre : List (Of E) => (dpOf (pre.map (fun x => x.1))).length) (fun pre => flatK (dpOf (pre.map (fun x => x.1)))) (fun pre _ => True)) _) (ownFrom_below (Nat.le_refl _) hq)
theorem dp_bound {E : List En} (N : Nat) (hN : ∀ e ∈ E, e.2.vs.length ≤ N) : ∀ pre : List (Of E), (dpOf (pre.map (fun x => x.1))).length ≤ pre.length * N
 | [] => by simp [dpOf, dumpM, abs]
 | x :: pre => by
  have h1 := dp_bound N hN pre; have h2 := hN x.1 x.2; have e : dpOf ((x :: pre).map (fun x => x.1)) = (x.1.2.vs.map fun v => (x.1.1, v)) ++ dpOf (pre.map (fun x => x.1)) := by simp [dpOf, dumpM, abs]
  rw [e, List.length_append, List.length_map, List.length_cons, Nat.add_mul, Nat.one_mul]; omega
set_option maxRecDepth 100000 in
theorem dump_is {F : Nat → Prop} {w : World} {p o : Nat} {ty : TypeId} {M : Mst} {mk : Sp} (h : StoG F w p o ty M mk) (hn : countM M ≤ 1500000) :
  Calls Tryz.prog 73 #[.pointer (some ⟨p, o, none⟩)] w fun e w' => ∃ v, e = .returned v ∧ OwnV w' w.heap.size v (dumpM M) ∧ Below w.heap.size w w' := by
 obtain ⟨m, h, rfl⟩ := h; refine (callsIn_wide (n := 5)).1 ?_; obtain ⟨wb, hwb⟩ : ∃ wb, wb = w.alloc (.cells #[.slice none 0 0] 98) := ⟨_, rfl⟩; have hbb : Below w.heap.size w wb := by rw [hwb]; exact Below.al (Below.refl _ _) _
 have bp : Boxed wb w.heap.size 98 (.slice none 0 0) := by rw [hwb]; exact Boxed.new _ _ _
 have RG := hid (range_is ((h.later hbb).xi) ⟨#[]⟩ ⟨#[]⟩); have H := hid (show _ ∧ _ ∧ _ from ⟨h, hbb, bp⟩); have HN := hid hn; clear h hbb hn bp; refine callsIn_of_wp_marks Tryz.func73 rfl trivial ?_ rfl; simp only [Tryz.ntmps73, List.size_toArray, List.length_cons, List.length_nil, Nat.reduceAdd, Nat.reduceSub, Array.replicate_succ, Array.replicate_zero, List.push_toArray, List.append_toArray, List.nil_append, List.cons_append]; subst hwb; gi_wp2_with ((try refine ⟨trivial, ?_⟩); gi_at_call 99; refine (callsIn_wide.2 RG.out).mono ?_; rintro e w1 ⟨R, Bs, rfl, hit, hb1, hR, hBs⟩)
 obtain ⟨h, hbb, bp⟩ := H.out; have bp1 : Boxed w1 w.heap.size 98 (.slice none 0 0) := (hb1.block _ bp.lt).trans bp; have hB1 : Below w.heap.size w w1 := Below.on hbb hb1; have hs1 := bp1.lt; have hstops := range_stops (5 - 1) hit; rw [rangeX_all] at hstops; have hkeys := count_keys h.good; rw [abs_len] at hkeys; have hn := HN.out; have hEn : ∀ e ∈ m, e.2.vs.length ≤ 1500000 := fun e he => by
  have := count_mem (show (e.1, e.2.vs) ∈ abs m from List.mem_map.2 ⟨_, he, rfl⟩); simp only at this; omega
 have HRW : Hid (∀ W, Below w.heap.size w W → ∀ z : Of m, Row W z.1.1 z.1.2) := fun W hb z => (h.row _ z.2).later hb
 clear RG hR hBs hb1 bp h hit H hbb; apply wpIn_rangeFunc_ownG rfl (by decide) (gf := 133) (lb := #[.pointer (some ⟨R, 0, none⟩), .pointer (some ⟨Bs, 0, none⟩)]) rfl trivial (enters_of Tryz.func133 (by kernel_rfl) rfl)
  hstops kp_t kp_b (Below.refl _ _) (fun _ => rfl)
  (DpI w w.heap.size) (fun _ _ _ => False) (dpI_own (by omega)) (fun _ _ _ _ _ hs _ _ => hs)
  ⟨⟨_, bp1, World.ownsRow_nil _ _ _ _, trivial⟩, hB1⟩
 case hassign =>
  intro y z W K hK; gi_wp2
  exact hK
 case hbody =>
  rintro y pre z W ⟨⟨u, hv, hrow, -⟩, hBw⟩ hlt; obtain ⟨L, hL⟩ : ∃ L, dpOf (pre.map (fun x => x.1)) = L := ⟨_, rfl⟩; have hbd := dp_bound 1500000 hEn (pre ++ [z]); have hmapz : dpOf ((pre ++ [z]).map (fun x => x.1)) = L ++ z.1.2.vs.map fun v => (z.1.1, v) := by rw [List.map_append, ← hL]; exact dpOf_snoc _ _
  have hzr := HRW.out W hBw z; have hzl := hzr.len; have hsz : L.length + z.1.2.n ≤ 2250000000000 := by
   have h1 : (pre ++ [z]).length ≤ 1500000 := by rw [List.length_append, List.length_singleton]; omega
   rw [hmapz, List.length_append, List.length_map, hzl] at hbd; exact Nat.le_trans hbd (Nat.le_trans (Nat.mul_le_mul_right _ h1) (by decide))
  rw [hL] at hrow; have hrow : OwnV W w.heap.size u L := hrow; obtain ⟨ua, uc, rfl⟩ := hrow.slice; obtain ⟨n, hln⟩ : ∃ n, L.length = n := ⟨_, rfl⟩; rw [hln] at hv hsz hrow; have HR : Hid (W.ownsRow w.heap.size 97 6 (.slice ua n uc) n (flatK L)) := by rw [← hln]; unfold OwnV at hrow; rw [hln] at hrow ⊢; exact hrow
  have HV := hid (show _ ∧ _ from ⟨hv, hBw⟩); have hc := hv.cell; have hfr := hv.frozen; have HM : Hid (dpOf ((pre ++ [z]).map (fun x => x.1)) = L ++ z.1.2.vs.map fun v => (z.1.1, v)) := hmapz; have HLN := hid hln; have g1 : n + z.1.2.n ≤ maxLen := by unfold maxLen; omega
  have g2 : (n + z.1.2.n) * 56 ≤ 140737488355328 := by omega
  have HNW := hid (hzr.news 0); have HZL : Hid ((flatV z.1.1 (z.1.2.vs.drop 0)).length = z.1.2.n * 6) := by show _ = _; rw [List.drop_zero, flatV_len, hzl]
  have hBs' := hBw.size; obtain ⟨i0, hi0, hz0, hz1, hz2⟩ := info_ofV infoVr; clear hv hrow hBw hmapz hbd hL hln hzr hzl hsz; gi_wp2_with (gi_at_builtin; refine wpListIn_append_two _ rfl _ _ 98 167 97 rfl w.heap.size 97 i0 (vv ⟨#[]⟩ ⟨⟨0, 0, 0⟩, false, ⟨#[]⟩⟩) 6 56 Tryz.underlying98 Tryz.underlying167 hi0 hz0 hz1 hz2 rfl (by decide) (.slice ua n uc) n (flatK L) rfl HR.out ⟨z.1.2.g, 0, none⟩ z.1.2.n z.1.2.cap (flatV z.1.1 (z.1.2.vs.drop 0)) rfl HZL.out (by have := HNW.out; rw [Nat.zero_mul] at this; exact this) (flatV_one _ _) g1 g2 hBs' ?_; intro v' w4 hown' hgrow _; obtain ⟨hv1, hv2, hr2, hk2, hb4⟩ := Boxed.appended0 HV.out.1 (by decide) HR.out hBs' (Nat.le_refl _) hown' hgrow; have hkp := kp_appended0 (v' := v') HV.out.1 HR.out hgrow (not_ixt rfl) (not_ixt rfl); obtain ⟨ga, gc, rfl⟩ := owns_slice hown'; have hc1 := hv1.cell; have hf1 := hv1.frozen)
  refine ⟨hk2.from _, hkp, ⟨_, hv2, ?_, trivial⟩, HV.out.2.trans hb4⟩; rw [HM.out, flatK_append, List.length_append, List.length_map, flatK_chain, HLN.out]; have e : z.1.2.vs.length = z.1.2.n := (HRW.out W HV.out.2 z).len; rw [e]; rw [List.drop_zero] at hr2; exact hr2
 case hdone =>
  rintro D ys W hD hys ⟨⟨u, hv, hrow, -⟩, hBw⟩ hK; rw [hys] at hrow; have hrow : OwnV W w.heap.size u (dumpM (abs m)) := hrow; obtain ⟨ua, uc, rfl⟩ := hrow.slice; have hc := hv.cell; have HR := hid hrow; obtain ⟨n, hln⟩ : ∃ n, n = (dumpM (abs m)).length := ⟨_, rfl⟩; rw [← hln] at hc; have HLN := hid hln; clear hrow hln hv; gi_wp2
  refine ⟨by simp, .inl ⟨_, _, rfl, run_takeDeferred hK, ?_⟩⟩; refine ⟨_, results_tmp rfl _ _ _, _, rfl, ?_, hBw.trans (belowK_b (w := w) (Nat.le_refl _) W D _ _ (by omega) hK rfl rfl)⟩; have := HR.out; rw [← HLN.out] at this; exact ownsRow_putObj this _ hK rfl
 case hstop =>
  rintro D c pre W _ _ h _; exact h.elim
open Go.RowKit Go.Sort
theorem inst_ok {M : Mst} {ws : List Wr} {t : Sp} (h1 : writesOk ws = true) (h2 : decide (t.a < 18446744073709551615) = true) (h3 : ws.all (freeB M t) = true) : instE M ws t = 0 ∧ instR M ws t = instM M ws t := by
 have e : instE M ws t = 0 := by unfold instE; rw [h1, h2, h3]; rfl
 exact ⟨e, by unfold instR; rw [if_pos e]⟩
theorem writes_ok {ws : List Wr} (h : writesOk ws = true) : ∀ x ∈ ws, wOk x = true := by
 intro x hx; obtain ⟨i, hi, rfl⟩ := List.mem_iff_getElem.1 hx; unfold writesOk at h; rw [Bool.and_eq_true] at h; have hall : ∀ n, allB (writeAt ws) n = true → ∀ i, i < n → writeAt ws i = true := by
  intro n; induction n with
  | zero => intro _ i hi; omega
  | succ n ih =>
   intro ha i hi; rw [allB, Bool.and_eq_true] at ha; by_cases e : i = n
   ·rw [e]; exact ha.2
   ·exact ih ha.1 i (by omega)
 have := hall _ h.2 i hi; rw [writeAt_eq, Bool.and_eq_true] at this; have e : nthW ws i = ws[i] := by simp [nthW, hi]
 rw [← e]; exact this.1
theorem wmark_is {F : Nat → Prop} {w : World} {p o : Nat} {ty : TypeId} {M : Mst} {mk : Sp} (h : StoG F w p o ty M mk) :
  Calls Tryz.prog 65 #[.pointer (some ⟨p, o, none⟩)] w fun e w' => e = .returned (sv mk) ∧ Below w.heap.size w w' := by
 obtain ⟨m, h, rfl⟩ := h; have hb : Below w.heap.size w (w.alloc (.cells #[.int .u64 0, .int .u32 0, .int .u32 0] 28)) := Below.al (Below.refl _ _) _; have c1 := cell_later hb (Sto.c1 h); have c2 := cell_later hb (Sto.c2 h); have c3 := cell_later hb (Sto.c3 h); clear h hb; go_enter Tryz.func65, Tryz.ntmps65
 go_wp2_with fail
 refine bodyPost_ret (v := sv mk) (by simp [results, Tryz.results65, go_sem]) rfl ⟨rfl, ?_⟩
 (repeat (first | exact Below.refl _ _ | assumption | refine Below.drew ?_ | refine Below.al ?_ _ | refine Below.setCell ?_ (by first | exact Nat.le_refl _ | (simp; omega) | (simp; done)) _ | refine Below.on ?_ (by assumption)))
end Go.Proofs.YtneojeidpfjpbaaGreatDoor.Vs
namespace Go.Proofs.YtneojeidpfjpbaaGreatDoor.Ys
open Go.RowKit Go.Sort
abbrev cp (p : Nat) : Value := .pointer (some ⟨p, 1, none⟩)
theorem newS (w : World) (t : Vs.Sp) (ty : TypeId) : (w.alloc (.cells #[.int .u64 t.a, .int .u32 t.b, .int .u32 t.c] ty)).cell? ⟨w.heap.size, 0, none⟩ = some (.int .u64 t.a) ∧ (w.alloc (.cells #[.int .u64 t.a, .int .u32 t.b, .int .u32 t.c] ty)).cell? ⟨w.heap.size, 1, none⟩ = some (.int .u32 t.b) ∧ (w.alloc (.cells #[.int .u64 t.a, .int .u32 t.b, .int .u32 t.c] ty)).cell? ⟨w.heap.size, 2, none⟩ = some (.int .u32 t.c) := by
 have h := World.alloc_heap_new w (.cells #[.int .u64 t.a, .int .u32 t.b, .int .u32 t.c] ty); exact ⟨Vs.cell_of_obj h rfl, Vs.cell_of_obj h rfl, Vs.cell_of_obj h rfl⟩
section
variable {F : Nat → Prop} {w : World} {p : Nat} {m1 m2 m : Option Nat} {V : List Lk.Hv} {I : Lk.It} {s : Ps}
theorem reserved_is (T : St F w p m1 m2 m V I s) (t : Vs.Sp) {u : Bool} (hu : decide (t.a < s.ceil) = u) :
  Calls Tryz.prog 93 #[cp p, Vs.sv t] w fun e w' => e = .returned (.bool u) ∧ Below w.heap.size w w' := by
 obtain ⟨wx, hwx⟩ : ∃ wx, wx = w.alloc (.cells #[.int .u64 t.a, .int .u32 t.b, .int .u32 t.c] 28) := ⟨_, rfl⟩; have hbx : Below w.heap.size w wx := by rw [hwx]; exact Below.al (Below.refl _ _) _
 obtain ⟨x0, _, _⟩ := newS w t 28; rw [← hwx] at x0; have c1 : wx.cell? ⟨p, 1, none⟩ = some (.int .u64 s.ceil) := (T.later hbx).cell fun _ => rfl
 have k0 := cell_regrown x0; have k1 := cell_regrown c1
 have HBX := hid hbx; clear T hbx; go_enter Tryz.func93, Tryz.ntmps93
 go_wp2_with fail
 rw [← hwx]; clear hwx; refine wp_region_quiet_below (by kernel_rfl) (by kernel_rfl) ?_; repeat (go_big_quiet_step (fail))
 refine wpQuiet_nil ?_; intro wq hq; replace hq := below_of_regrown hq; go_wp2_with fail
 go_ret
 exact ⟨by first | rfl | (rw [← hu]), Below.on HBX.out hq⟩
theorem decided_is (T : St F w p m1 m2 m V I s) (t : Lk.Ix) :
  Calls Tryz.prog 56 #[cp p, .agg #[.int .u32 t.1, .int .u32 t.2]] w fun e w' => e = .returned (.bool (Lg.outM s.E t).isSome) ∧ Below w.heap.size w w' := by
 obtain ⟨wx, hwx⟩ : ∃ wx, wx = w.alloc (.cells #[.int .u32 t.1, .int .u32 t.2] 38) := ⟨_, rfl⟩; have hbx : Below w.heap.size w wx := by rw [hwx]; exact Below.al (Below.refl _ _) _
 have x0 : wx.cell? ⟨w.heap.size, 0, none⟩ = some (.int .u32 t.1) := by rw [hwx]; simp [go_sem]
 have x1 : wx.cell? ⟨w.heap.size, 1, none⟩ = some (.int .u32 t.2) := by rw [hwx]; simp [go_sem]
 obtain ⟨ok, hok⟩ : ∃ ok, ok = (Lg.outM s.E t).isSome := ⟨_, rfl⟩; have OC : Hid (∀ W, Below wx.heap.size wx W → Calls Tryz.prog 95 #[.pointer (some ⟨p, 4, none⟩), .agg #[.int .u32 t.1, .int .u32 t.2]] W fun r w' => ∃ f : Lg.En, r = .returned (.tuple #[.agg #[.int .u32 f.id.1, .int .u32 f.id.2, .int .u32 f.home, .int .i64 f.oc, .int .u64 f.w, .int .u32 f.l, .int .u32 f.n], .bool ok]) ∧ Below W.heap.size W w') := hid (fun W hb => by
  refine (Lg.outcome_is (T.later (Below.on hbx hb)).lg t).mono ?_; rintro r w' ⟨f, ok', hr, h1, _, h3⟩; exact ⟨f, by rw [hr, h1.out, hok], h3.out⟩)
 rw [← hok]; have HBX := hid hbx; clear T hbx hok; go_enter Tryz.func56, Tryz.ntmps56
 go_wp2_with fail
 rw [← hwx]; clear hwx; go_cut [6] (fun s6 wz => s6 = .bool ok ∧ Below wx.heap.size wx wz)
 case first =>
  go_region_held3 (fun w' => w'.cell? ⟨w.heap.size, 0, none⟩ = some (.int .u32 t.1) ∧ w'.cell? ⟨w.heap.size, 1, none⟩ = some (.int .u32 t.2) ∧ Below wx.heap.size wx w')
   ((refine (fun (hB : Below wx.heap.size wx _) => ⟨cell_later hB x0, cell_later hB x1, hB⟩) ?_; (repeat (first | with_reducible exact Below.refl _ _ | with_reducible assumption | with_reducible refine Below.drew ?_ | with_reducible refine Below.al ?_ _ | with_reducible refine Below.setCell ?_ (by first | exact Nat.le_refl _ | (simp; omega) | (simp; done)) _ | with_reducible refine Below.on ?_ (by assumption)))))
   (first | (go_at_call 95; refine (OC.out _ (by (repeat (first | with_reducible exact Below.refl _ _ | with_reducible assumption | with_reducible refine Below.drew ?_ | with_reducible refine Below.al ?_ _ | with_reducible refine Below.setCell ?_ (by first | exact Nat.le_refl _ | (simp; omega) | (simp; done)) _ | with_reducible refine Below.on ?_ (by assumption))))).mono ?_; rintro r w2 ⟨f, rfl, hb2⟩; (first | (have hk2 : w2.heap[wx.heap.size]? = some (.cells #[.int .u32 0, .int .u32 0, .int .u32 0, .int .i64 0, .int .u64 0, .int .u32 0, .int .u32 0] 91) := (hb2.block _ (by simp)).trans (MapKept.heap_alloc wx.drew _).1; have f2 : ∀ o, w2.frozen? ⟨wx.heap.size, o, none⟩ = false := (fun o => by simp [World.frozen?, hk2]); have r0 : w2.cell? ⟨wx.heap.size, 0, none⟩ = some (.int .u32 0) := Vs.cell_of_obj hk2 rfl; have r1 : w2.cell? ⟨wx.heap.size, 1, none⟩ = some (.int .u32 0) := Vs.cell_of_obj hk2 rfl; have r2 : w2.cell? ⟨wx.heap.size, 2, none⟩ = some (.int .u32 0) := Vs.cell_of_obj hk2 rfl; have r3 : w2.cell? ⟨wx.heap.size, 3, none⟩ = some (.int .i64 0) := Vs.cell_of_obj hk2 rfl; have r4 : w2.cell? ⟨wx.heap.size, 4, none⟩ = some (.int .u64 0) := Vs.cell_of_obj hk2 rfl; have r5 : w2.cell? ⟨wx.heap.size, 5, none⟩ = some (.int .u32 0) := Vs.cell_of_obj hk2 rfl; have r6 : w2.cell? ⟨wx.heap.size, 6, none⟩ = some (.int .u32 0) := Vs.cell_of_obj hk2 rfl; clear hk2) | skip)))
  all_goals (try go_wp2_with fail)
  all_goals go_meet
  all_goals (exact ⟨rfl, by (repeat (first | with_reducible exact Below.refl _ _ | with_reducible assumption | with_reducible refine Below.drew ?_ | with_reducible refine Below.al ?_ _ | with_reducible refine Below.setCell ?_ (by first | exact Nat.le_refl _ | (simp; omega) | (simp; done)) _ | with_reducible refine Below.on ?_ (by assumption)))⟩)
 case rest =>
  obtain ⟨rfl, hb⟩ := hcut; have HB := hid (Below.on HBX.out hb); clear hb; go_wp2_with fail
  go_ret
  exact ⟨rfl, HB.out⟩
end
abbrev sp (p : Nat) : Value := .pointer (some ⟨p, 0, none⟩)
section
variable {F : Nat → Prop} {w : World} {p : Nat} {m1 m2 m : Option Nat} {V : List Lk.Hv} {I : Lk.It} {s : Ps}
theorem Watermark_is (T : St F w p m1 m2 m V I s) : Calls Tryz.prog 29 #[sp p] w fun e w' => e = .returned (Vs.sv s.wm) ∧ Below w.heap.size w w' := by
 obtain ⟨a, b, c, hs⟩ : ∃ a b c, s.wm = ⟨a, b, c⟩ := ⟨_, _, _, rfl⟩; obtain ⟨wx, hwx⟩ : ∃ wx, wx = w.alloc (.cells #[.int .u64 0, .int .u32 0, .int .u32 0] 28) := ⟨_, rfl⟩; have hbx : Below w.heap.size w wx := by rw [hwx]; exact Below.al (Below.refl _ _) _
 have WM : Hid (∀ W, Below wx.heap.size wx W → Calls Tryz.prog 65 #[.pointer (some ⟨p, 5, none⟩)] W fun r w' => r = .returned (.agg #[.int .u64 a, .int .u32 b, .int .u32 c]) ∧ Below W.heap.size W w') := hid (fun W hb => by
  refine (Vs.wmark_is (T.later (Below.on hbx hb)).st).mono ?_; rintro r w' ⟨hr, h3⟩; exact ⟨by rw [hr, hs], h3⟩)
 have HBX := hid hbx; have HS := hid hs; have hz : wx.heap[w.heap.size]? = some (.cells #[.int .u64 0, .int .u32 0, .int .u32 0] 28 (0, 0)) := by rw [hwx]; exact World.alloc_heap_new _ _
 have hlt : w.heap.size < wx.heap.size := by rw [hwx]; simp
 clear T hbx hs; go_enter Tryz.func29, Tryz.ntmps29
 go_wp2_with fail
 rw [← hwx]; clear hwx; refine (WM.out _ (Below.refl _ _)).mono ?_; rintro r w2 ⟨rfl, hb2⟩; have hk2 := (hb2.block _ hlt).trans hz; have f2 : ∀ o, w2.frozen? ⟨w.heap.size, o, none⟩ = false := fun o => by simp [World.frozen?, hk2]
 have r0 : w2.cell? ⟨w.heap.size, 0, none⟩ = some (.int .u64 0) := Vs.cell_of_obj hk2 rfl; have r1 : w2.cell? ⟨w.heap.size, 1, none⟩ = some (.int .u32 0) := Vs.cell_of_obj hk2 rfl; have r2 : w2.cell? ⟨w.heap.size, 2, none⟩ = some (.int .u32 0) := Vs.cell_of_obj hk2 rfl; have HB := hid (Below.on HBX.out hb2); clear hk2 hz hb2 WM; go_wp2_with fail
 refine bodyPost_ret (v := .agg #[.int .u64 a, .int .u32 b, .int .u32 c]) (by simp [results, Tryz.results29, go_sem, r0, r1, r2]) rfl ⟨by rw [HS.out], ?_⟩; have hB := HB.out; clear HB HBX
 (repeat (first | with_reducible exact Below.refl _ _ | with_reducible assumption | with_reducible refine Below.drew ?_ | with_reducible refine Below.al ?_ _ | with_reducible refine Below.setCell ?_ (by first | exact Nat.le_refl _ | (simp; omega) | (simp; done)) _ | with_reducible refine Below.on ?_ (by assumption)))
theorem aboveCommits_is (T : St F w p m1 m2 m V I s) (t : Vs.Sp) {u : Bool} (hu : (!s.cm || lessB s.lc.a s.lc.b s.lc.c t.a t.b t.c) = u) :
  Calls Tryz.prog 53 #[cp p, Vs.sv t] w fun e w' => e = .returned (.bool u) ∧ Below w.heap.size w w' := by
 obtain ⟨wx, hwx⟩ : ∃ wx, wx = w.alloc (.cells #[.int .u64 t.a, .int .u32 t.b, .int .u32 t.c] 28) := ⟨_, rfl⟩; have hbx : Below w.heap.size w wx := by rw [hwx]; exact Below.al (Below.refl _ _) _
 obtain ⟨x0, x1, x2⟩ := newS w t 28; rw [← hwx] at x0 x1 x2; have c9 : wx.cell? ⟨p, 9, none⟩ = some (.bool s.cm) := (T.later hbx).cell fun _ => rfl
 have c10 : wx.cell? ⟨p, 10, none⟩ = some (.int .u64 s.lc.a) := (T.later hbx).cell fun _ => rfl
 have c11 : wx.cell? ⟨p, 11, none⟩ = some (.int .u32 s.lc.b) := (T.later hbx).cell fun _ => rfl
 have c12 : wx.cell? ⟨p, 12, none⟩ = some (.int .u32 s.lc.c) := (T.later hbx).cell fun _ => rfl
 have k0 := cell_regrown x0; have k1 := cell_regrown x1; have k2 := cell_regrown x2
 have k3 := cell_regrown c9; have k4 := cell_regrown c10; have k5 := cell_regrown c11; have k6 := cell_regrown c12
 have HBX := hid hbx; clear T hbx; generalize s.cm = cm at *
 obtain ⟨lu, hlu⟩ : ∃ lu, lessB s.lc.a s.lc.b s.lc.c t.a t.b t.c = lu := ⟨_, rfl⟩; rw [hlu] at hu; cases cm <;> simp at hu <;> subst hu
 all_goals
  go_enter Tryz.func53, Tryz.ntmps53
  go_wp2_with fail
  rw [← hwx]; clear hwx; refine wp_region_quiet_below (by kernel_rfl) (by kernel_rfl) ?_; repeat (go_big_quiet_step ((go_at_call 59; exact Calls.regrown_of (less_is hlu _))))
  refine wpQuiet_nil ?_; intro wq hq; replace hq := below_of_regrown hq; go_wp2_with fail
  go_ret
  exact ⟨rfl, Below.on HBX.out hq⟩
end
theorem St.plain {F : Nat → Prop} {w w' : World} {p : Nat} {m1 m2 m : Option Nat} {V : List Lk.Hv} {I : Lk.It} {s s' : Ps} (T : St F w p m1 m2 m V I s) (hH : s'.H = s.H) (hE : s'.E = s.E) (hM : s'.M = s.M) (hW : s'.wm = s.wm) (ho : Onl (fun b => b = p) w w')
  (hp : ∀ root, w.heap[p]? = some (.cells (scs s m1 m2 m root) SS (0, 0)) → w'.heap[p]? = some (.cells (scs s' m1 m2 m root) SS (0, 0))) (hL : s'.lo = s.lo := by rfl) : St F w' p m1 m2 m V I s' := by
 obtain ⟨root, hob⟩ := T.obj; have hob' := hp root hob; have hfor : Lk.Foreign w (fun b => b = p) := fun b hb => by
  subst hb; exact ⟨fun cur h' => noRow.1 (Lk.cells_ne hob h'), fun cur h' => noRow.2 (Lk.cells_ne hob h')⟩
 refine ⟨⟨root, hob'⟩, ?_, ?_, ?_, by rw [hH]; exact T.h, fun v hv => (T.ty v hv).onl ho hfor, T.dm, by rw [hL]; exact T.lw.1, by rw [hL]; exact Nat.le_trans T.lw.2 ho.size⟩
 ·refine T.tb.keepC T.ty ho hfor (fun b hb k => ?_) (fun cs hc => ?_) (bare13 hob')
  ·subst k; rcases hb with rfl | rfl
   ·exact T.tb.ne1 rfl
   ·exact T.tb.ne2 rfl
  ·rw [hob] at hc; injection hc with hc
   injection hc with e2 _ _
   subst e2; exact ⟨_, hob', rfl, rfl⟩
 ·rw [hE]; obtain ⟨ds, hd, z0⟩ := T.lg.obj; rw [hob] at hd; injection hd with hd
  injection hd with e2 _ _
  subst e2; exact ⟨⟨_, hob', z0⟩, T.lg.ents.same fun b e => ho.block b (T.lg.ents.lt b e) fun k => by subst e; subst k; exact T.lg.ne rfl⟩
 ·rw [hM, hW]; obtain ⟨x, hx, ex⟩ := T.st; refine ⟨x, hx.keepC (Vs.Kp.of_onl ho fun b cs u z hf hb hu => ?_) (fun cs hc => ?_) (fun b hf hne => ho.block b (hx.lt hf) hne), ex⟩
  ·subst hf; rw [hob] at hb; injection hb with hb; injection hb with _ e _; subst e; exact hx.ty.1 hu
  ·rw [hob] at hc; injection hc with hc
   injection hc with e2 _ _
   subst e2; refine ⟨_, hob', fun j h1 h2 => ?_⟩; match j, h1, h2 with
   | 5, _, _ => rfl
   | 6, _, _ => simp [hW]
   | 7, _, _ => simp [hW]
   | 8, _, _ => simp [hW]
   | j + 9, _, h => omega
theorem onl_p {w : World} (w1 : World) (p o : Nat) (v : Value) (h : Onl (fun b => b = p) w w1) : Onl (fun b => b = p) w (w1.setCell ⟨p, o, none⟩ v) := Onl.set (F := fun b => b = p) h rfl o v
theorem St.ceiled {F : Nat → Prop} {w : World} {p : Nat} {m1 m2 m : Option Nat} {V : List Lk.Hv} {I : Lk.It} {s : Ps} (T : St F w p m1 m2 m V I s) (c : Int) : St F (w.setCell ⟨p, 1, none⟩ (.int .u64 c)) p m1 m2 m V I { s with ceil := c } :=
 T.plain rfl rfl rfl rfl (onl_p _ _ _ _ (Onl.refl _ _)) fun root h => heap_put _ h
theorem St.stamped {F : Nat → Prop} {w : World} {p : Nat} {m1 m2 m : Option Nat} {V : List Lk.Hv} {I : Lk.It} {s : Ps} (T : St F w p m1 m2 m V I s) (t : Vs.Sp) : St F ((((w.setCell ⟨p, 9, none⟩ (.bool true)).setCell ⟨p, 10, none⟩ (.int .u64 t.a)).setCell ⟨p, 11, none⟩ (.int .u32 t.b)).setCell ⟨p, 12, none⟩ (.int .u32 t.c)) p m1 m2 m V I { s with cm := true, lc := t } :=
 T.plain rfl rfl rfl rfl (onl_p _ _ _ _ (onl_p _ _ _ _ (onl_p _ _ _ _ (onl_p _ _ _ _ (Onl.refl _ _))))) fun root h => heap_put _ (heap_put _ (heap_put _ (heap_put _ h)))
end Go.Proofs.YtneojeidpfjpbaaGreatDoor.Ys
