import Derived.Test.YtaknkodjganacaaDoorVRowsV
/- Dump. -/
namespace Go.Proofs.YtaknkodjganacaaDoor.Vs
open Go.RowKit Go.Sort Go.Shelf
set_option linter.unusedVariables false
attribute [local go_sem] Oper.semAt_some

theorem Boxed.appended0 {W w1 : World} {n₀ B : Nat} {t e : TypeId} {size : Nat} {v v' : Value} {k m : Nat} {xs ys : List Value}
    (hv : Boxed W B t v) (hte : t ≠ e) (hrow : W.ownsRow n₀ e size v k xs) (hn₀ : n₀ ≤ W.heap.size) (hB : n₀ ≤ B)
    (hown' : w1.ownsRow n₀ e size v' m ys) (hgrow : W.grownBy w1 v.ownBlock) :
    Boxed w1 B t v ∧ Boxed (w1.setCell ⟨B, 0, none⟩ v') B t v' ∧ (w1.setCell ⟨B, 0, none⟩ v').ownsRow n₀ e size v' m ys ∧ KeepsOthers W (w1.setCell ⟨B, 0, none⟩ v') ∧ Below n₀ W (w1.setCell ⟨B, 0, none⟩ v') := by
  have hv1 : Boxed w1 B t v := hv.kept hgrow (hv.not_row hte hrow)
  refine ⟨hv1, hv1.set v', hown'.kept (grownBy_setCell' w1 B v') (.inr (hv1.not_row hte hown').symm), ?_, ?_⟩
  · refine (KeepsOthers.of_grownBy hgrow fun j o ej hj => ?_).trans (KeepsOthers.setCell _ _ _)
    rcases hrow.2 with ⟨rfl, _⟩ | ⟨g, cap, cur, rfl, _, hgb, _⟩
    · simp [Value.ownBlock] at ej
    · obtain rfl : g = j := by simpa [Value.ownBlock] using ej
      rw [hgb] at hj; cases hj; rfl
  · refine ((Below.refl n₀ W).grown hgrow (by omega) fun j ej => ?_).setCell (p := ⟨B, 0, none⟩) hB v'
    rcases hrow.2 with ⟨rfl, _⟩ | ⟨g, cap, cur, rfl, hb, _, _⟩
    · simp [Value.ownBlock] at ej
    · obtain rfl : g = j := by simpa [Value.ownBlock] using ej
      exact hb
theorem kp_appended0 {W w1 : World} {n₀ B : Nat} {t e : TypeId} {size : Nat} {v v' : Value} {k : Nat} {xs : List Value}
    (hv : Boxed W B t v) (hrow : W.ownsRow n₀ e size v k xs) (hgrow : W.grownBy w1 v.ownBlock) (ht : ¬ IxT t) (he : ¬ IxT e) : Kp W (w1.setCell ⟨B, 0, none⟩ v') := by
  refine ⟨Nat.le_trans hgrow.size (by simp [World.setCell]), fun b cs ty z hty hb => ?_⟩
  have hlt := (Array.getElem?_eq_some_iff.1 hb).1
  have hne : b ≠ B := fun e' => by subst e'; rw [show W.heap[b]? = _ from hv] at hb; cases hb; exact ht hty
  refine (Below.heap_setCell _ _ _ _ hne).trans ((hgrow.block b hlt (row_not hrow he hty hb)).trans hb)
def DpI (w : World) (bp : Nat) {E : List En} (pre : List (Of E)) (W : World) : Prop :=
  (∃ v, Boxed W bp 42 v ∧ W.ownsRow w.heap.size 46 6 v (dpOf (pre.map (fun x => x.1))).length (flatK (dpOf (pre.map (fun x => x.1)))) ∧ True) ∧ Below w.heap.size w W
theorem dpI_own {w : World} {bp Q : Nat} {E : List En} (hq : w.heap.size ≤ Q) : OwnFrom Q (DpI w bp (E := E)) :=
  OwnFrom.and (Own.from (holdsRow_own w.heap.size bp 42 46 6 (fun pre : List (Of E) => (dpOf (pre.map (fun x => x.1))).length) (fun pre => flatK (dpOf (pre.map (fun x => x.1)))) (fun pre _ => True)) _) (ownFrom_below (Nat.le_refl _) hq)
theorem dp_bound {E : List En} (N : Nat) (hN : ∀ e ∈ E, e.2.vs.length ≤ N) : ∀ pre : List (Of E), (dpOf (pre.map (fun x => x.1))).length ≤ pre.length * N
  | [] => by simp [dpOf, dumpM, abs]
  | x :: pre => by
    have h1 := dp_bound N hN pre
    have h2 := hN x.1 x.2
    have e : dpOf ((x :: pre).map (fun x => x.1)) = (x.1.2.vs.map fun v => (x.1.1, v)) ++ dpOf (pre.map (fun x => x.1)) := by simp [dpOf, dumpM, abs]
    rw [e, List.length_append, List.length_map, List.length_cons, Nat.add_mul, Nat.one_mul]
    omega

set_option maxRecDepth 100000 in
set_option maxHeartbeats 2000000 in
theorem dump_is {F : Nat → Prop} {w : World} {p o : Nat} {ty : TypeId} {M : Mst} {mk : Sp} (h : StoG F w p o ty M mk) (hn : countM M ≤ 1048576) :
    Calls Tryd.prog 12 #[.pointer (some ⟨p, o, none⟩)] w fun e w' => ∃ v, e = .returned v ∧ OwnV w' w.heap.size v (dumpM M) ∧ Below w.heap.size w w' := by
  obtain ⟨m, h, rfl⟩ := h
  refine (callsIn_wide (n := 5)).1 ?_
  obtain ⟨wb, hwb⟩ : ∃ wb, wb = w.alloc (.cells #[.slice none 0 0] 42) := ⟨_, rfl⟩
  have hbb : Below w.heap.size w wb := by rw [hwb]; exact Below.al (Below.refl _ _) _
  have bp : Boxed wb w.heap.size 42 (.slice none 0 0) := by rw [hwb]; exact Boxed.new _ _ _
  have RG := hid (range_is ((h.later hbb).xi) ⟨#[]⟩ ⟨#[]⟩)
  have H := hid (show _ ∧ _ ∧ _ from ⟨h, hbb, bp⟩)
  have HN := hid hn
  clear h hbb hn bp
  refine callsIn_of_wp_marks Tryd.func12 rfl trivial ?_ rfl
  simp only [Tryd.ntmps12, List.size_toArray, List.length_cons, List.length_nil, Nat.reduceAdd, Nat.reduceSub, Array.replicate_succ, Array.replicate_zero, List.push_toArray, List.append_toArray, List.nil_append, List.cons_append]
  subst hwb
  gi_wp2_with ((try refine ⟨trivial, ?_⟩); gi_at_call 35; refine (callsIn_wide.2 RG.out).mono ?_; rintro e w1 ⟨R, Bs, rfl, hit, hb1, hR, hBs⟩)
  obtain ⟨h, hbb, bp⟩ := H.out
  have bp1 : Boxed w1 w.heap.size 42 (.slice none 0 0) := (hb1.block _ bp.lt).trans bp
  have hB1 : Below w.heap.size w w1 := Below.on hbb hb1
  have hs1 := bp1.lt
  have hstops := range_stops (5 - 1) hit
  rw [rangeX_all] at hstops
  have hkeys := count_keys h.good
  rw [abs_len] at hkeys
  have hn := HN.out
  have hEn : ∀ e ∈ m, e.2.vs.length ≤ 1048576 := fun e he => by
    have := count_mem (show (e.1, e.2.vs) ∈ abs m from List.mem_map.2 ⟨_, he, rfl⟩)
    simp only at this; omega
  have HRW : Hid (∀ W, Below w.heap.size w W → ∀ z : Of m, Row W z.1.1 z.1.2) := fun W hb z => (h.row _ z.2).later hb
  clear RG hR hBs hb1 bp h hit H hbb
  apply wpIn_rangeFunc_ownG rfl (by decide) (gf := 48) (lb := #[.pointer (some ⟨R, 0, none⟩), .pointer (some ⟨Bs, 0, none⟩)]) rfl trivial (enters_of Tryd.func48 (by kernel_rfl) rfl)
    hstops kp_t kp_b (Below.refl _ _) (fun _ => rfl)
    (DpI w w.heap.size) (fun _ _ _ => False) (dpI_own (by omega)) (fun _ _ _ _ _ hs _ _ => hs)
    ⟨⟨_, bp1, World.ownsRow_nil _ _ _ _, trivial⟩, hB1⟩
  case hassign =>
    intro y z W K hK
    gi_wp2
    exact hK
  case hbody =>
    rintro y pre z W ⟨⟨u, hv, hrow, -⟩, hBw⟩ hlt
    obtain ⟨L, hL⟩ : ∃ L, dpOf (pre.map (fun x => x.1)) = L := ⟨_, rfl⟩
    have hbd := dp_bound 1048576 hEn (pre ++ [z])
    have hmapz : dpOf ((pre ++ [z]).map (fun x => x.1)) = L ++ z.1.2.vs.map fun v => (z.1.1, v) := by rw [List.map_append, ← hL]; exact dpOf_snoc _ _
    have hzr := HRW.out W hBw z
    have hzl := hzr.len
    have hsz : L.length + z.1.2.n ≤ 1099511627776 := by
      have h1 : (pre ++ [z]).length ≤ 1048576 := by rw [List.length_append, List.length_singleton]; omega
      rw [hmapz, List.length_append, List.length_map, hzl] at hbd
      exact Nat.le_trans hbd (Nat.le_trans (Nat.mul_le_mul_right _ h1) (by decide))
    rw [hL] at hrow
    have hrow : OwnV W w.heap.size u L := hrow
    obtain ⟨ua, uc, rfl⟩ := hrow.slice
    obtain ⟨n, hln⟩ : ∃ n, L.length = n := ⟨_, rfl⟩
    rw [hln] at hv hsz hrow
    have HR : Hid (W.ownsRow w.heap.size 46 6 (.slice ua n uc) n (flatK L)) := by rw [← hln]; unfold OwnV at hrow; rw [hln] at hrow ⊢; exact hrow
    have HV := hid (show _ ∧ _ from ⟨hv, hBw⟩)
    have hc := hv.cell
    have hfr := hv.frozen
    have HM : Hid (dpOf ((pre ++ [z]).map (fun x => x.1)) = L ++ z.1.2.vs.map fun v => (z.1.1, v)) := hmapz
    have HLN := hid hln
    have g1 : n + z.1.2.n ≤ maxLen := by unfold maxLen; omega
    have g2 : (n + z.1.2.n) * 56 ≤ 140737488355328 := by omega
    have HNW := hid (hzr.news 0)
    have HZL : Hid ((flatV z.1.1 (z.1.2.vs.drop 0)).length = z.1.2.n * 6) := by show _ = _; rw [List.drop_zero, flatV_len, hzl]
    have hBs' := hBw.size
    obtain ⟨i0, hi0, hz0, hz1, hz2⟩ := info_ofV infoVr
    clear hv hrow hBw hmapz hbd hL hln hzr hzl hsz
    gi_wp2_with (gi_at_builtin; refine wpListIn_append_two _ rfl _ _ 42 81 46 rfl w.heap.size 46 i0 (vv ⟨#[]⟩ ⟨⟨0, 0, 0⟩, false, ⟨#[]⟩⟩) 6 56 Tryd.underlying42 Tryd.underlying81 hi0 hz0 hz1 hz2 rfl (by decide) (.slice ua n uc) n (flatK L) rfl HR.out ⟨z.1.2.g, 0, none⟩ z.1.2.n z.1.2.cap (flatV z.1.1 (z.1.2.vs.drop 0)) rfl HZL.out (by have := HNW.out; rw [Nat.zero_mul] at this; exact this) (flatV_one _ _) g1 g2 hBs' ?_; intro v' w4 hown' hgrow _; obtain ⟨hv1, hv2, hr2, hk2, hb4⟩ := Boxed.appended0 HV.out.1 (by decide) HR.out hBs' (Nat.le_refl _) hown' hgrow; have hkp := kp_appended0 (v' := v') HV.out.1 HR.out hgrow (not_ixt rfl) (not_ixt rfl); obtain ⟨ga, gc, rfl⟩ := owns_slice hown'; have hc1 := hv1.cell; have hf1 := hv1.frozen)
    refine ⟨hk2.from _, hkp, ⟨_, hv2, ?_, trivial⟩, HV.out.2.trans hb4⟩
    rw [HM.out, flatK_append, List.length_append, List.length_map, flatK_chain, HLN.out]
    have e : z.1.2.vs.length = z.1.2.n := (HRW.out W HV.out.2 z).len
    rw [e]
    rw [List.drop_zero] at hr2
    exact hr2
  case hdone =>
    rintro D ys W hD hys ⟨⟨u, hv, hrow, -⟩, hBw⟩ hK
    rw [hys] at hrow
    have hrow : OwnV W w.heap.size u (dumpM (abs m)) := hrow
    obtain ⟨ua, uc, rfl⟩ := hrow.slice
    have hc := hv.cell
    have HR := hid hrow
    obtain ⟨n, hln⟩ : ∃ n, n = (dumpM (abs m)).length := ⟨_, rfl⟩
    rw [← hln] at hc
    have HLN := hid hln
    clear hrow hln hv
    gi_wp2
    refine ⟨by simp, .inl ⟨_, _, rfl, run_takeDeferred hK, ?_⟩⟩
    refine ⟨_, results_tmp rfl _ _ _, _, rfl, ?_, hBw.trans (belowK_b (w := w) (Nat.le_refl _) W D _ _ (by omega) hK rfl rfl)⟩
    have := HR.out
    rw [← HLN.out] at this
    exact ownsRow_putObj this _ hK rfl
  case hstop =>
    rintro D c pre W _ _ h _
    exact h.elim
end Go.Proofs.YtaknkodjganacaaDoor.Vs
