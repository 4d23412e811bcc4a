import Derived.Test.YtmlacdfdpdkdaaaDoorVRowsV
import Derived.Test.YtmlacdfdpdkdaaaDoorVInstall
/- Dump. -/
namespace Go.Proofs.YtmlacdfdpdkdaaaDoor.Vs
open Go.RowKit Go.Sort Go.Shelf
set_option linter.unusedVariables false
attribute [local go_sem] Oper.semAt_some

theorem Boxed.appended0 {W w1 : World} {n₀ B : Nat} {t e : TypeId} {size : Nat} {v v' : Value} {k m : Nat} {xs ys : List Value}
    (hv : Boxed W B t v) (hte : t ≠ e) (hrow : W.ownsRow n₀ e size v k xs) (hn₀ : n₀ ≤ W.heap.size) (hB : n₀ ≤ B)
    (hown' : w1.ownsRow n₀ e size v' m ys) (hgrow : W.grownBy w1 v.ownBlock) :
    Boxed w1 B t v ∧ Boxed (w1.setCell ⟨B, 0, none⟩ v') B t v' ∧ (w1.setCell ⟨B, 0, none⟩ v').ownsRow n₀ e size v' m ys ∧ KeepsOthers W (w1.setCell ⟨B, 0, none⟩ v') ∧ Below n₀ W (w1.setCell ⟨B, 0, none⟩ v') := by
  have hv1 : Boxed w1 B t v := hv.kept hgrow (hv.not_row hte hrow)
  refine ⟨hv1, hv1.set v', hown'.kept (grownBy_setCell' w1 B v') (.inr (hv1.not_row hte hown').symm), ?_, ?_⟩
  · refine (KeepsOthers.of_grownBy hgrow fun j o ej hj => ?_).trans (KeepsOthers.setCell _ _ _)
    rcases hrow.2 with ⟨rfl, _⟩ | ⟨g, cap, cur, rfl, _, hgb, _⟩
    · simp [Value.ownBlock] at ej
    · obtain rfl : g = j := by simpa [Value.ownBlock] using ej
      rw [hgb] at hj; cases hj; rfl
  · refine ((Below.refl n₀ W).grown hgrow (by omega) fun j ej => ?_).setCell (p := ⟨B, 0, none⟩) hB v'
    rcases hrow.2 with ⟨rfl, _⟩ | ⟨g, cap, cur, rfl, hb, _, _⟩
    · simp [Value.ownBlock] at ej
    · obtain rfl : g = j := by simpa [Value.ownBlock] using ej
      exact hb
theorem kp_appended0 {W w1 : World} {n₀ B : Nat} {t e : TypeId} {size : Nat} {v v' : Value} {k : Nat} {xs : List Value}
    (hv : Boxed W B t v) (hrow : W.ownsRow n₀ e size v k xs) (hgrow : W.grownBy w1 v.ownBlock) (ht : ¬ IxT t) (he : ¬ IxT e) : Kp W (w1.setCell ⟨B, 0, none⟩ v') := by
  refine ⟨Nat.le_trans hgrow.size (by simp [World.setCell]), fun b cs ty z hty hb => ?_⟩
  have hlt := (Array.getElem?_eq_some_iff.1 hb).1
  have hne : b ≠ B := fun e' => by subst e'; rw [show W.heap[b]? = _ from hv] at hb; cases hb; exact ht hty
  refine (Below.heap_setCell _ _ _ _ hne).trans ((hgrow.block b hlt (row_not hrow he hty hb)).trans hb)
def DpI (w : World) (bp : Nat) {E : List En} (pre : List (Of E)) (W : World) : Prop :=
  (∃ v, Boxed W bp 56 v ∧ W.ownsRow w.heap.size 76 6 v (dpOf (pre.map (fun x => x.1))).length (flatK (dpOf (pre.map (fun x => x.1)))) ∧ True) ∧ Below w.heap.size w W
theorem dpI_own {w : World} {bp Q : Nat} {E : List En} (hq : w.heap.size ≤ Q) : OwnFrom Q (DpI w bp (E := E)) :=
  OwnFrom.and (Own.from (holdsRow_own w.heap.size bp 56 76 6 (fun pre : List (Of E) => (dpOf (pre.map (fun x => x.1))).length) (fun pre => flatK (dpOf (pre.map (fun x => x.1)))) (fun pre _ => True)) _) (ownFrom_below (Nat.le_refl _) hq)
theorem dp_bound {E : List En} (N : Nat) (hN : ∀ e ∈ E, e.2.vs.length ≤ N) : ∀ pre : List (Of E), (dpOf (pre.map (fun x => x.1))).length ≤ pre.length * N
  | [] => by simp [dpOf, dumpM, abs]
  | x :: pre => by
    have h1 := dp_bound N hN pre
    have h2 := hN x.1 x.2
    have e : dpOf ((x :: pre).map (fun x => x.1)) = (x.1.2.vs.map fun v => (x.1.1, v)) ++ dpOf (pre.map (fun x => x.1)) := by simp [dpOf, dumpM, abs]
    rw [e, List.length_append, List.length_map, List.length_cons, Nat.add_mul, Nat.one_mul]
    omega

set_option maxRecDepth 100000 in
set_option maxHeartbeats 2000000 in
theorem dump_is {F : Nat → Prop} {w : World} {p o : Nat} {ty : TypeId} {M : Mst} {mk : Sp} (h : StoG F w p o ty M mk) (hn : countM M ≤ 1048576) :
    Calls Tryd.prog 29 #[.pointer (some ⟨p, o, none⟩)] w fun e w' => ∃ v, e = .returned v ∧ OwnV w' w.heap.size v (dumpM M) ∧ Below w.heap.size w w' := by
  obtain ⟨m, h, rfl⟩ := h
  refine (callsIn_wide (n := 5)).1 ?_
  obtain ⟨wb, hwb⟩ : ∃ wb, wb = w.alloc (.cells #[.slice none 0 0] 56) := ⟨_, rfl⟩
  have hbb : Below w.heap.size w wb := by rw [hwb]; exact Below.al (Below.refl _ _) _
  have bp : Boxed wb w.heap.size 56 (.slice none 0 0) := by rw [hwb]; exact Boxed.new _ _ _
  have RG := hid (range_is ((h.later hbb).xi) ⟨#[]⟩ ⟨#[]⟩)
  have H := hid (show _ ∧ _ ∧ _ from ⟨h, hbb, bp⟩)
  have HN := hid hn
  clear h hbb hn bp
  refine callsIn_of_wp_marks Tryd.func29 rfl trivial ?_ rfl
  simp only [Tryd.ntmps29, List.size_toArray, List.length_cons, List.length_nil, Nat.reduceAdd, Nat.reduceSub, Array.replicate_succ, Array.replicate_zero, List.push_toArray, List.append_toArray, List.nil_append, List.cons_append]
  subst hwb
  gi_wp2_with ((try refine ⟨trivial, ?_⟩); gi_at_call 18; refine (callsIn_wide.2 RG.out).mono ?_; rintro e w1 ⟨R, Bs, rfl, hit, hb1, hR, hBs⟩)
  obtain ⟨h, hbb, bp⟩ := H.out
  have bp1 : Boxed w1 w.heap.size 56 (.slice none 0 0) := (hb1.block _ bp.lt).trans bp
  have hB1 : Below w.heap.size w w1 := Below.on hbb hb1
  have hs1 := bp1.lt
  have hstops := range_stops (5 - 1) hit
  rw [rangeX_all] at hstops
  have hkeys := count_keys h.good
  rw [abs_len] at hkeys
  have hn := HN.out
  have hEn : ∀ e ∈ m, e.2.vs.length ≤ 1048576 := fun e he => by
    have := count_mem (show (e.1, e.2.vs) ∈ abs m from List.mem_map.2 ⟨_, he, rfl⟩)
    simp only at this; omega
  have HRW : Hid (∀ W, Below w.heap.size w W → ∀ z : Of m, Row W z.1.1 z.1.2) := fun W hb z => (h.row _ z.2).later hb
  clear RG hR hBs hb1 bp h hit H hbb
  apply wpIn_rangeFunc_ownG rfl (by decide) (gf := 50) (lb := #[.pointer (some ⟨R, 0, none⟩), .pointer (some ⟨Bs, 0, none⟩)]) rfl trivial (enters_of Tryd.func50 (by kernel_rfl) rfl)
    hstops kp_t kp_b (Below.refl _ _) (fun _ => rfl)
    (DpI w w.heap.size) (fun _ _ _ => False) (dpI_own (by omega)) (fun _ _ _ _ _ hs _ _ => hs)
    ⟨⟨_, bp1, World.ownsRow_nil _ _ _ _, trivial⟩, hB1⟩
  case hassign =>
    intro y z W K hK
    gi_wp2
    exact hK
  case hbody =>
    rintro y pre z W ⟨⟨u, hv, hrow, -⟩, hBw⟩ hlt
    obtain ⟨L, hL⟩ : ∃ L, dpOf (pre.map (fun x => x.1)) = L := ⟨_, rfl⟩
    have hbd := dp_bound 1048576 hEn (pre ++ [z])
    have hmapz : dpOf ((pre ++ [z]).map (fun x => x.1)) = L ++ z.1.2.vs.map fun v => (z.1.1, v) := by rw [List.map_append, ← hL]; exact dpOf_snoc _ _
    have hzr := HRW.out W hBw z
    have hzl := hzr.len
    have hsz : L.length + z.1.2.n ≤ 1099511627776 := by
      have h1 : (pre ++ [z]).length ≤ 1048576 := by rw [List.length_append, List.length_singleton]; omega
      rw [hmapz, List.length_append, List.length_map, hzl] at hbd
      exact Nat.le_trans hbd (Nat.le_trans (Nat.mul_le_mul_right _ h1) (by decide))
    rw [hL] at hrow
    have hrow : OwnV W w.heap.size u L := hrow
    obtain ⟨ua, uc, rfl⟩ := hrow.slice
    obtain ⟨n, hln⟩ : ∃ n, L.length = n := ⟨_, rfl⟩
    rw [hln] at hv hsz hrow
    have HR : Hid (W.ownsRow w.heap.size 76 6 (.slice ua n uc) n (flatK L)) := by rw [← hln]; unfold OwnV at hrow; rw [hln] at hrow ⊢; exact hrow
    have HV := hid (show _ ∧ _ from ⟨hv, hBw⟩)
    have hc := hv.cell
    have hfr := hv.frozen
    have HM : Hid (dpOf ((pre ++ [z]).map (fun x => x.1)) = L ++ z.1.2.vs.map fun v => (z.1.1, v)) := hmapz
    have HLN := hid hln
    have g1 : n + z.1.2.n ≤ maxLen := by unfold maxLen; omega
    have g2 : (n + z.1.2.n) * 56 ≤ 140737488355328 := by omega
    have HNW := hid (hzr.news 0)
    have HZL : Hid ((flatV z.1.1 (z.1.2.vs.drop 0)).length = z.1.2.n * 6) := by show _ = _; rw [List.drop_zero, flatV_len, hzl]
    have hBs' := hBw.size
    obtain ⟨i0, hi0, hz0, hz1, hz2⟩ := info_ofV infoVr
    clear hv hrow hBw hmapz hbd hL hln hzr hzl hsz
    gi_wp2_with (gi_at_builtin; refine wpListIn_append_two _ rfl _ _ 56 69 76 rfl w.heap.size 76 i0 (vv ⟨#[]⟩ ⟨⟨0, 0, 0⟩, false, ⟨#[]⟩⟩) 6 56 Tryd.underlying56 Tryd.underlying69 hi0 hz0 hz1 hz2 rfl (by decide) (.slice ua n uc) n (flatK L) rfl HR.out ⟨z.1.2.g, 0, none⟩ z.1.2.n z.1.2.cap (flatV z.1.1 (z.1.2.vs.drop 0)) rfl HZL.out (by have := HNW.out; rw [Nat.zero_mul] at this; exact this) (flatV_one _ _) g1 g2 hBs' ?_; intro v' w4 hown' hgrow _; obtain ⟨hv1, hv2, hr2, hk2, hb4⟩ := Boxed.appended0 HV.out.1 (by decide) HR.out hBs' (Nat.le_refl _) hown' hgrow; have hkp := kp_appended0 (v' := v') HV.out.1 HR.out hgrow (not_ixt rfl) (not_ixt rfl); obtain ⟨ga, gc, rfl⟩ := owns_slice hown'; have hc1 := hv1.cell; have hf1 := hv1.frozen)
    refine ⟨hk2.from _, hkp, ⟨_, hv2, ?_, trivial⟩, HV.out.2.trans hb4⟩
    rw [HM.out, flatK_append, List.length_append, List.length_map, flatK_chain, HLN.out]
    have e : z.1.2.vs.length = z.1.2.n := (HRW.out W HV.out.2 z).len
    rw [e]
    rw [List.drop_zero] at hr2
    exact hr2
  case hdone =>
    rintro D ys W hD hys ⟨⟨u, hv, hrow, -⟩, hBw⟩ hK
    rw [hys] at hrow
    have hrow : OwnV W w.heap.size u (dumpM (abs m)) := hrow
    obtain ⟨ua, uc, rfl⟩ := hrow.slice
    have hc := hv.cell
    have HR := hid hrow
    obtain ⟨n, hln⟩ : ∃ n, n = (dumpM (abs m)).length := ⟨_, rfl⟩
    rw [← hln] at hc
    have HLN := hid hln
    clear hrow hln hv
    gi_wp2
    refine ⟨by simp, .inl ⟨_, _, rfl, run_takeDeferred hK, ?_⟩⟩
    refine ⟨_, results_tmp rfl _ _ _, _, rfl, ?_, hBw.trans (belowK_b (w := w) (Nat.le_refl _) W D _ _ (by omega) hK rfl rfl)⟩
    have := HR.out
    rw [← HLN.out] at this
    exact ownsRow_putObj this _ hK rfl
  case hstop =>
    rintro D c pre W _ _ h _
    exact h.elim
end Go.Proofs.YtmlacdfdpdkdaaaDoor.Vs
/- Contracts of a store at a later world; what Installs keep. -/
namespace Go.Proofs.YtmlacdfdpdkdaaaDoor.Vs
open Go.RowKit Go.Sort
set_option linter.unusedVariables false

theorem inst_ok {M : Mst} {ws : List Wr} {t : Sp} (h1 : writesOk ws = true) (h2 : decide (t.a < 18446744073709551615) = true) (h3 : ws.all (freeB M t) = true) : instE M ws t = 0 ∧ instR M ws t = instM M ws t := by
  have e : instE M ws t = 0 := by unfold instE; rw [h1, h2, h3]; rfl
  exact ⟨e, by unfold instR; rw [if_pos e]⟩
theorem inst_good {M : Mst} (h : Good M) {ws : List Wr} (hw : writesOk ws = true) {t : Sp} (ha : ws.all (freeB M t) = true) : ∀ i, i ≤ ws.length → Good (instM M (ws.take i) t) := by
  intro i
  induction i with
  | zero => intro _; exact h
  | succ i ih =>
    intro hi
    rw [nthW_take (by omega : i < ws.length), instM_snoc]
    exact (ih (by omega)).add (inst_over h.rising hw ha (by omega))
theorem readAll_len (M : Mst) (h : Good M) (t : Sp) : (readAll M t).length ≤ countM M := Nat.le_trans (List.length_filterMap_le _ _) (count_keys h)
/-- a stamp's numbers are no less than nothing -/
def Sp.nn (s : Sp) : Prop := 0 ≤ s.a ∧ 0 ≤ s.b ∧ 0 ≤ s.c
theorem Sp.nn_lt {s : Sp} (h : s.nn) : s.lt ⟨0, 0, 0⟩ = false := by
  obtain ⟨h1, h2, h3⟩ := h
  unfold Sp.lt
  rw [lessB_iff_false]
  simp only
  omega
/-- the stamp in a box -/
def StB (w : World) (b : Nat) (s : Sp) : Prop := w.heap[b]? = some (.cells #[.int .u64 s.a, .int .u32 s.b, .int .u32 s.c] 33 (0, 0))
theorem StB.lt {w : World} {b : Nat} {s : Sp} (h : StB w b s) : b < w.heap.size := (Array.getElem?_eq_some_iff.1 h).1
theorem StB.later {w w' : World} {b : Nat} {s : Sp} (h : StB w b s) (hb : Below w.heap.size w w') : StB w' b s := (hb.block b h.lt).trans h
theorem StB.onl {F : Nat → Prop} {w w' : World} {b p : Nat} {s mk : Sp} {M : Mst} (h : StB w b s) (hs : Sto F w p M mk) (ho : Onl F w w') : StB w' b s := (ho.block b h.lt (hs.not h (by rintro (e | e) <;> exact absurd e (by decide)))).trans h
/-- blocks of other types are written -/
theorem StoG.keepB {F G : Nat → Prop} {w w' : World} {p o : Nat} {ty0 : TypeId} {M : Mst} {mk : Sp} (h : StoG F w p o ty0 M mk) (ho : Onl G w w') (hG : ∀ b, G b → ∃ cs t z, w.heap[b]? = some (.cells cs t z) ∧ ¬ SpT ty0 t ∧ ¬ IxT t) : StoG F w' p o ty0 M mk := by
  have hk : Kp w w' := Kp.of_onl ho fun b cs t z hg hb ht => by
    obtain ⟨cs', t', z', hb', _, h2⟩ := hG b hg
    rw [hb'] at hb; cases hb; exact h2 ht
  obtain ⟨m, h, e⟩ := h
  refine ⟨m, h.keep hk fun b hf => ho.block b (h.lt hf) fun hg => ?_, e⟩
  obtain ⟨cs', t', z', hb', h1, _⟩ := hG b hg
  obtain ⟨cs, ty, z, hc, hty⟩ := h.own b hf
  rw [hb'] at hc; cases hc; exact h1 hty
abbrev setS (w : World) (b : Nat) (s : Sp) : World := ((w.setCell ⟨b, 0, none⟩ (.int .u64 s.a)).setCell ⟨b, 1, none⟩ (.int .u32 s.b)).setCell ⟨b, 2, none⟩ (.int .u32 s.c)
theorem onl_setS (w : World) (b : Nat) (s : Sp) : Onl (fun k => k = b) w (setS w b s) := (((Onl.refl (fun k => k = b) w).set (p := b) rfl _ _).set (p := b) rfl _ _).set (p := b) rfl _ _
theorem StB.set {w : World} {b : Nat} {s : Sp} (h : StB w b s) (t : Sp) : StB (setS w b t) b t := by
  have h1 := heap_setCell_same w b 0 _ _ (.int .u64 t.a) h
  have h2 := heap_setCell_same _ b 1 _ _ (.int .u32 t.b) h1
  have h3 := heap_setCell_same _ b 2 _ _ (.int .u32 t.c) h2
  exact h3
theorem StB.loose {w : World} {b : Nat} {s : Sp} (h : StB w b s) : ∀ o, w.frozen? ⟨b, o, none⟩ = false := fun o => frozen_of_row w b o _ _ h
theorem StB.not {w : World} {b : Nat} {s : Sp} (h : StB w b s) : ∃ cs t z, w.heap[b]? = some (.cells cs t z) ∧ ¬ SpT 66 t ∧ ¬ IxT t := ⟨_, _, _, h, by rintro (e | e) <;> exact absurd e (by decide), not_ixt rfl⟩
theorem OwnP.setS {w : World} {B b : Nat} {v : Value} {l : Prs} {s : Sp} (h : OwnP w B v l) (hb : StB w b s) (t : Sp) : OwnP (setS w b t) B v l := owns_onl h (onl_setS w b t) fun g hg e => by
  subst e
  obtain ⟨_, ⟨rfl, _⟩ | ⟨g', cap, cur, rfl, _, hgb, _⟩⟩ := h
  · simp [Value.ownBlock] at hg
  · obtain rfl : g' = g := by simpa [Value.ownBlock] using hg
    rw [show w.heap[g']? = _ from hb] at hgb; cases hgb
/-- each of valid writes is valid -/
theorem writes_ok {ws : List Wr} (h : writesOk ws = true) : ∀ x ∈ ws, wOk x = true := by
  intro x hx
  obtain ⟨i, hi, rfl⟩ := List.mem_iff_getElem.1 hx
  unfold writesOk at h
  rw [Bool.and_eq_true] at h
  have hall : ∀ n, allB (writeAt ws) n = true → ∀ i, i < n → writeAt ws i = true := by
    intro n
    induction n with
    | zero => intro _ i hi; omega
    | succ n ih =>
      intro ha i hi
      rw [allB, Bool.and_eq_true] at ha
      by_cases e : i = n
      · rw [e]; exact ha.2
      · exact ih ha.1 i (by omega)
  have := hall _ h.2 i hi
  rw [writeAt_eq, Bool.and_eq_true] at this
  have e : nthW ws i = ws[i] := by simp [nthW, hi]
  rw [← e]; exact this.1
theorem inst_okM {M : Mst} (h : OkM M) (hr : Rising M) {ws : List Wr} (hw : ∀ x ∈ ws, wOk x = true) {t : Sp} (ht : decide (t.a < 18446744073709551615) = true) : OkM (instM M ws t) := by
  induction ws using snoc_ind with
  | nil => exact h
  | snoc ws x ih =>
    rw [instM_snoc]
    refine (ih fun y hy => hw y (by simp [hy])).add (instM_count hr ws t).2 ?_
    unfold okV
    rw [Bool.and_eq_true]
    exact ⟨ht, hw x (by simp)⟩
theorem OkM.nil : OkM [] := fun e he => (by cases he)
theorem dump_at {F : Nat → Prop} {w W : World} {p nL : Nat} {M : Mst} {mk : Sp} (h : Sto F w p M mk) (hn : countM M ≤ 1048576) (hl : nL = (dumpM M).length) (hb : Below w.heap.size w W) :
    Calls Tryd.prog 29 #[pt p] W fun e w' => ∃ la lc, e = .returned (.slice la nL lc) ∧ Hid (OwnV w' W.heap.size (.slice la nL lc) (dumpM M)) ∧ Below W.heap.size W w' := by
  refine (dump_is (h.later hb) hn).mono ?_
  rintro e w' ⟨v, rfl, ho, hb'⟩
  obtain ⟨la, lc, rfl⟩ := ho.slice
  rw [← hl] at ho ⊢
  exact ⟨la, lc, rfl, ho, hb'⟩
theorem len_at {F : Nat → Prop} {w W : World} {p nL : Nat} {M : Mst} {mk : Sp} (h : Sto F w p M mk) (hn : countM M ≤ 1048576) (hl : nL = (dumpM M).length) (hb : Below w.heap.size w W) :
    Calls Tryd.prog 27 #[pt p] W fun e w' => e = .returned (.int .i64 nL) ∧ Below W.heap.size W w' := by
  rw [hl, dump_len]
  exact stolen_is (h.later hb) (by omega)
theorem read_at {F : Nat → Prop} {w W : World} {p : Nat} {M : Mst} {mk t : Sp} {lo hi : ByteArray} {e : Int} {l : Prs} (h : Sto F w p M mk) (hn : countM M ≤ 1048576) (he : rdE M mk lo hi t = e) (hl : rdL M mk lo hi t = l) (hb : Below w.heap.size w W) :
    Calls Tryd.prog 6 #[pt p, .agg #[.string lo, .string hi], sv t] W fun r w' => ∃ va vc, r = .returned (.tuple #[.slice va l.length vc, .int .i64 e]) ∧ Hid (Row2 w' va l) ∧ Below W.heap.size W w' := by
  subst he hl
  refine (read_is (h.later hb) lo hi t (by omega)).mono ?_
  rintro e w' ⟨v, rfl, ho, hb'⟩
  obtain ⟨va, vc, rfl⟩ := ho.slice
  exact ⟨va, vc, rfl, ho.row, hb'⟩
theorem rd_same {M : Mst} {mk mk' t : Sp} {lo hi : ByteArray} (h : t.lt mk = false) (h' : t.lt mk' = false) : rdE M mk lo hi t = rdE M mk' lo hi t ∧ rdL M mk lo hi t = rdL M mk' lo hi t := by
  have e : rdE M mk lo hi t = rdE M mk' lo hi t := by unfold rdE; rw [h, h']
  exact ⟨e, by unfold rdL; rw [e]⟩
theorem rd_len (M : Mst) (mk t : Sp) (lo hi : ByteArray) (h : Good M) : (rdL M mk lo hi t).length ≤ countM M := by
  unfold rdL
  split
  · rw [readM_is]; exact Nat.le_trans (List.length_filter_le _ _) (readAll_len M h t)
  · simp
theorem run_neSt (s : Sp) (w : World) : (binOp .neq 33 (sv s) (sv s)).run Tryd.prog w = .ok (.bool false) w := by
  simp [go_sem, Tryd.underlying33]
theorem instR_mem {M : Mst} (h : OkM M) (hr : Rising M) (ws : List Wr) (t : Sp) : OkM (instR M ws t) := by
  unfold instR
  split
  · rename_i e
    unfold instE at e
    split at e
    · split at e
      · rename_i h1 h2; exact inst_okM h hr (writes_ok h2) h1
      · cases e
    · cases e
  · exact h
theorem instR_len {M : Mst} (h : Rising M) (ws : List Wr) (t : Sp) : countM (instR M ws t) ≤ countM M + ws.length ∧ countM M ≤ countM (instR M ws t) := by
  unfold instR
  split
  · rw [(instM_count h ws t).1]; omega
  · omega
theorem wmark_is {F : Nat → Prop} {w : World} {p o : Nat} {ty : TypeId} {M : Mst} {mk : Sp} (h : StoG F w p o ty M mk) :
    Calls Tryd.prog 25 #[.pointer (some ⟨p, o, none⟩)] w fun e w' => e = .returned (sv mk) ∧ Below w.heap.size w w' := by
  obtain ⟨m, h, rfl⟩ := h
  have hb : Below w.heap.size w (w.alloc (.cells #[.int .u64 0, .int .u32 0, .int .u32 0] 33)) := Below.al (Below.refl _ _) _
  have c1 := cell_later hb (Sto.c1 h)
  have c2 := cell_later hb (Sto.c2 h)
  have c3 := cell_later hb (Sto.c3 h)
  clear h hb
  go_enter Tryd.func25, Tryd.ntmps25
  go_wp2_with fail
  refine bodyPost_ret (v := sv mk) (by simp [results, Tryd.results25, go_sem]) rfl ⟨rfl, ?_⟩
  (repeat (first | exact Below.refl _ _ | assumption | refine Below.drew ?_ | refine Below.al ?_ _ | refine Below.setCell ?_ (by first | exact Nat.le_refl _ | (simp; omega) | (simp; done)) _ | refine Below.on ?_ (by assumption)))
end Go.Proofs.YtmlacdfdpdkdaaaDoor.Vs
