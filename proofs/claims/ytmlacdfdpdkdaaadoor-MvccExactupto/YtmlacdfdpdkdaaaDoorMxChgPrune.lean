import Derived.Test.YtmlacdfdpdkdaaaDoorVPruneP
import Derived.Test.YtmlacdfdpdkdaaaDoorMxChgNew
import Derived.Deep.RegionHeld3
namespace Go.Proofs.YtmlacdfdpdkdaaaDoor.Vs
open Go.RowKit Go.Sort Go.Shelf
set_option linter.unusedVariables false
attribute [local go_sem] Oper.semAt_some

set_option maxRecDepth 100000 in
set_option maxHeartbeats 2000000 in
theorem pruneG_is {F : Nat → Prop} {w : World} {p o : Nat} {ty : TypeId} {M : Mst} {mk : Sp} (h : StoG F w p o ty M mk) (t : Sp) (hn : countM M ≤ 268435456) :
    Calls Tryd.prog 36 #[.pointer (some ⟨p, o, none⟩), sv t] w fun e w' => e = .returned (.int .i64 (prG M mk t : Nat)) ∧ (∃ F', StoG F' w' p o ty (prM M mk t) (prK mk t) ∧ ∀ b, F' b → F b ∨ w.heap.size ≤ b) ∧ Onl F w w' ∧ Part p o 4 w w' := by
  obtain ⟨m, h, rfl⟩ := h
  refine (callsIn_wide (n := 5)).1 ?_
  obtain ⟨wS, hwS⟩ : ∃ wS, wS = (w.alloc (.cells #[.pointer (some ⟨p, o, none⟩)] 23)).alloc (.cells #[.int .u64 t.a, .int .u32 t.b, .int .u32 t.c] 33) := ⟨_, rfl⟩
  have hbS : Below w.heap.size w wS := by rw [hwS]; exact Below.al (Below.al (Below.refl _ _) _) _
  have hsz : wS.heap.size = w.heap.size + 1 + 1 := by rw [hwS]; simp
  have kP : Boxed wS w.heap.size 23 (.pointer (some ⟨p, o, none⟩)) := by rw [hwS]; exact (Boxed.new w _ _).alloc _
  have kT : wS.heap[w.heap.size + 1]? = some (.cells #[.int .u64 t.a, .int .u32 t.b, .int .u32 t.c] 33 (0, 0)) := by
    rw [hwS]; have := World.alloc_heap_new (w.alloc (.cells #[.pointer (some ⟨p, o, none⟩)] 23)) (.cells #[.int .u64 t.a, .int .u32 t.b, .int .u32 t.c] 33)
    rw [World.size_alloc] at this; exact this
  have hS := h.later hbS
  have p0 := kP.cell
  have t0 : wS.cell? ⟨w.heap.size + 1, 0, none⟩ = some (.int .u64 t.a) := cell_of_obj kT rfl
  have t1 : wS.cell? ⟨w.heap.size + 1, 1, none⟩ = some (.int .u32 t.b) := cell_of_obj kT rfl
  have t2 : wS.cell? ⟨w.heap.size + 1, 2, none⟩ = some (.int .u32 t.c) := cell_of_obj kT rfl
  have c1 := Sto.c1 hS
  have c2 := Sto.c2 hS
  have c3 := Sto.c3 hS
  have kp0 := cell_regrown p0; have kt0 := cell_regrown t0; have kt1 := cell_regrown t1; have kt2 := cell_regrown t2
  have kc1 := cell_regrown c1; have kc2 := cell_regrown c2; have kc3 := cell_regrown c3
  have H := hid (show _ ∧ _ ∧ _ ∧ _ from ⟨h, hbS, kP, kT⟩)
  have HSZ := hid hsz
  have HN := hid hn
  clear h hS hbS hsz kP kT hn
  refine callsIn_of_wp_marks Tryd.func36 rfl trivial ?_ rfl
  simp only [Tryd.ntmps36, List.size_toArray, List.length_cons, List.length_nil, Nat.reduceAdd, Nat.reduceSub, Array.replicate_succ, Array.replicate_zero, List.push_toArray, List.append_toArray, List.nil_append, List.cons_append]
  refine wpIn_wide.2 ?_
  go_wp2_with fail
  rw [← hwS]
  clear hwS
  cases hlt : mk.lt t with
  | false =>
    have hlt' : lessB mk.a mk.b mk.c t.a t.b t.c = false := hlt
    have HG : Hid (prG (abs m) mk t = 0 ∧ prM (abs m) mk t = abs m ∧ prK mk t = mk) := by unfold prG prM prK; rw [hlt]; exact ⟨rfl, rfl, rfl⟩
    clear hlt
    refine wp_region_quiet_below (by kernel_rfl) (by kernel_rfl) ?_
    repeat (go_big_quiet_step ((go_at_call 15; exact Calls.regrown_of (less_is (by assumption) _))))
    refine wpQuiet_nil ?_
    intro w1 hw
    replace hw := below_of_regrown hw
    have hb : Below w.heap.size w w1 := Below.on H.out.2.1 hw
    clear kp0 kt0 kt1 kt2 kc1 kc2 kc3 p0 t0 t1 t2 c1 c2 c3 hw
    go_wp2_with fail
    refine ⟨_, results_tmp rfl _ _ _, by rw [HG.out.1]; rfl, ⟨F, ⟨m, by rw [HG.out.2.2]; exact H.out.1.later hb, HG.out.2.1.symm⟩, fun b hb => .inl hb⟩, Onl.of_below hb, Part.below hb⟩
  | true =>
    have hlt' : lessB mk.a mk.b mk.c t.a t.b t.c = true := hlt
    have HG : Hid (prG (abs m) mk t = goneM (abs m) t ∧ prM (abs m) mk t = pruneM (abs m) t ∧ prK mk t = t) := by unfold prG prM prK; rw [hlt]; exact ⟨rfl, rfl, rfl⟩
    clear hlt
    refine wp_region_quiet_below (by kernel_rfl) (by kernel_rfl) ?_
    repeat (go_big_quiet_step ((go_at_call 15; exact Calls.regrown_of (less_is (by assumption) _))))
    refine wpQuiet_nil ?_
    intro w1 hw
    replace hw := below_of_regrown hw
    have hb1 : Below w.heap.size w w1 := Below.on H.out.2.1 hw
    have hw1 := hid hw.size
    have h1 := H.out.1.later hb1
    have kP1 : Boxed w1 w.heap.size 23 (.pointer (some ⟨p, o, none⟩)) := (hw.block _ H.out.2.2.1.lt).trans H.out.2.2.1
    have kT1 : w1.heap[w.heap.size + 1]? = some (.cells #[.int .u64 t.a, .int .u32 t.b, .int .u32 t.c] 33 (0, 0)) := (hw.block _ (Array.getElem?_eq_some_iff.1 H.out.2.2.2).1).trans H.out.2.2.2
    have p0 := kP1.cell
    have t0 : w1.cell? ⟨w.heap.size + 1, 0, none⟩ = some (.int .u64 t.a) := cell_of_obj kT1 rfl
    have t1 : w1.cell? ⟨w.heap.size + 1, 1, none⟩ = some (.int .u32 t.b) := cell_of_obj kT1 rfl
    have t2 : w1.cell? ⟨w.heap.size + 1, 2, none⟩ = some (.int .u32 t.c) := cell_of_obj kT1 rfl
    have c1 := Sto.c1 h1
    have c2 := Sto.c2 h1
    have c3 := Sto.c3 h1
    have cf : ∀ j, w1.frozen? ⟨p, j, none⟩ = false := fun j => Sto.loose h1 j
    obtain ⟨h2, ho2, hp2⟩ := h1.marked t
    obtain ⟨wm, hwm⟩ : ∃ wm, wm = ((w1.setCell ⟨p, o + 1, none⟩ (.int .u64 t.a)).setCell ⟨p, o + 2, none⟩ (.int .u32 t.b)).setCell ⟨p, o + 3, none⟩ (.int .u32 t.c) := ⟨_, rfl⟩
    rw [← hwm] at h2 ho2 hp2
    have nP : w.heap.size ≠ p := fun e => Nat.lt_irrefl _ (e ▸ H.out.1.lt H.out.1.fp)
    have nT : w.heap.size + 1 ≠ p := fun e => by have := H.out.1.lt H.out.1.fp; omega
    have kP2 : Boxed wm w.heap.size 23 (.pointer (some ⟨p, o, none⟩)) := (ho2.block _ kP1.lt nP).trans kP1
    have kT2 := (ho2.block _ (Array.getElem?_eq_some_iff.1 kT1).1 nT).trans kT1
    obtain ⟨wL, hwL⟩ : ∃ wL, wL = wm.alloc (.cells #[.int .i64 0] 3) := ⟨_, rfl⟩
    have bg : Boxed wL wm.heap.size 3 (.int .i64 0) := by rw [hwL]; exact Boxed.new wm _ _
    have hbL : Below wm.heap.size wm wL := by rw [hwL]; exact Below.al (Below.refl _ _) _
    have hL := h2.later hbL
    have kP3 : Boxed wL w.heap.size 23 (.pointer (some ⟨p, o, none⟩)) := (hbL.block _ kP2.lt).trans kP2
    have kT3 := (hbL.block _ (Array.getElem?_eq_some_iff.1 kT2).1).trans kT2
    have RG := hid (range_is hL.xi ⟨#[]⟩ ⟨#[]⟩)
    have HL := hid (show _ ∧ _ ∧ _ ∧ _ ∧ _ ∧ _ ∧ _ from ⟨hL, bg, kP3, kT3, hb1, ho2, hbL⟩)
    have s0 : wm.cell? ⟨w.heap.size, 0, none⟩ = some (.pointer (some ⟨p, o, none⟩)) := kP2.cell
    have s1 : wL.cell? ⟨w.heap.size, 0, none⟩ = some (.pointer (some ⟨p, o, none⟩)) := kP3.cell
    clear kp0 kt0 kt1 kt2 kc1 kc2 kc3 hw h1 kP1 kT1 h2 kP2 kT2 hL kP3 kT3 bg hbL ho2
    go_upto_region 4 with fail
    rw [← hwm]
    clear hwm p0 t0 t1 t2 c1 c2 c3 cf
    go_upto_region 5 with fail
    rw [← hwL]
    clear hwL s0
    go_wp2_with (go_at_call 18; refine RG.out.mono ?_; rintro e w2 ⟨R, Bs, rfl, hit, hb2, hR, hBs⟩)
    clear RG s1
    obtain ⟨hL, bg, kP3, kT3, hb1, ho2, hbL⟩ := HL.out
    have hc2 := hL.later hb2
    have hstops := range_stops (5 - 1) hit
    rw [rangeX_all] at hstops
    have bg2 : Boxed w2 wm.heap.size 3 (.int .i64 0) := (hb2.block _ bg.lt).trans bg
    have HP2 : Hid (Boxed w2 w.heap.size 23 (.pointer (some ⟨p, o, none⟩))) := (hb2.block _ kP3.lt).trans kP3
    have HT2 := hid ((hb2.block _ (Array.getElem?_eq_some_iff.1 kT3).1).trans kT3)
    have HC2 := hid hc2
    have HBG := hid bg2
    have HSM : Hid (m.length ≤ 268435456 ∧ ∀ e ∈ m, e.2.n ≤ 268435456 ∧ e.2.vs.length = e.2.n ∧ Ris e.2.vs) := by
      have hk := count_keys H.out.1.good
      rw [abs_len] at hk
      have hN := HN.out
      refine ⟨by omega, fun e he => ?_⟩
      have hm : (e.1, e.2.vs) ∈ abs m := List.mem_map.2 ⟨_, he, rfl⟩
      have h1 := count_mem hm
      have h2 := (H.out.1.row e he).len
      simp only at h1
      exact ⟨by omega, h2, (H.out.1.good.chain _ hm).2⟩
    have HW2 : Hid (w.heap.size + 1 + 1 ≤ wm.heap.size ∧ wm.heap.size < w2.heap.size) := by
      refine ⟨?_, bg2.lt⟩
      have h1 := (Array.getElem?_eq_some_iff.1 H.out.2.2.2).1
      have h2 := ho2.size
      have h3 := HSZ.out
      have h4 := hw1.out
      omega
    have HRST : Hid (Onl F w w2) := ((Onl.of_below (F := F) hb1).trans (ho2.mono (fun b e => by rw [e]; exact H.out.1.fp))).trans (Onl.of_below (Below.on hbL hb2))
    have HPRT : Hid (Part p o 4 w w2) := ((Part.below hb1).trans hp2).trans (Part.below (Below.on hbL hb2))
    clear hL bg kP3 kT3 hb1 ho2 hp2 hbL hc2 hb2 hit HL hR hBs
    refine (wpIn_wide (n := 5)).1 ?_
    obtain ⟨bg, hbg⟩ : ∃ bg, bg = wm.heap.size := ⟨_, rfl⟩
    rw [← hbg] at bg2 HBG HW2 ⊢
    clear hbg
    have hw2s : w2.heap.size ≤ w2.heap.size := Nat.le_refl _
    have HROW : Hid (∀ W, Onl (fun b => b = p ∨ b = bg) w2 W → ∀ z : Of m, Row W z.1.1 z.1.2) := fun W ho z => by
      have r := HC2.out.row _ z.2
      obtain ⟨cs, y, hb⟩ := r.block
      obtain ⟨pcs, bx⟩ := HC2.out.blk
      refine r.keep (ho.block _ r.lt (fun e => e.elim (type_ne hb bx HC2.out.ty.2.symm) (type_ne hb (show w2.heap[bg]? = _ from HBG.out) (by decide))))
    have HNX : Hid (∀ W, Onl (fun b => b = p ∨ b = bg) w2 W → Boxed W w.heap.size 23 (.pointer (some ⟨p, o, none⟩)) ∧ W.heap[w.heap.size + 1]? = some (.cells #[.int .u64 t.a, .int .u32 t.b, .int .u32 t.c] 33 (0, 0))) := fun W ho => by
      have hX := H.out.1.lt H.out.1.fp
      have hs := HW2.out
      exact ⟨(ho.block _ HP2.out.lt (by rintro (e | e) <;> omega)).trans HP2.out, (ho.block _ (Array.getElem?_eq_some_iff.1 HT2.out).1 (by rintro (e | e) <;> omega)).trans HT2.out⟩
    apply wpIn_rangeFunc_ownG rfl (by decide) (gf := 50) (lb := #[.pointer (some ⟨R, 0, none⟩), .pointer (some ⟨Bs, 0, none⟩)]) rfl trivial (enters_of Tryd.func50 (by kernel_rfl) rfl)
      hstops kp_t kp_b (Below.refl _ _) (fun _ => rfl)
      (PrI w2 F (abs m) w2.heap.size p o ty bg t) (fun _ _ _ => False) (prI_own (Nat.le_refl _)) (fun _ _ _ _ _ hs _ _ => hs)
      ⟨⟨F, m, HC2.out, rfl, by simp, fun b hb => .inl hb⟩, bg2, Onl.refl _ _, Part.refl _ _ _ _⟩
    case hassign =>
      intro y z W K hK
      gi_wp2
      exact hK
    case hbody =>
      rintro y pre z W ⟨⟨F', m', hs, hm', hml, hF'⟩, hbx, ho, hpt⟩ hlt
      obtain ⟨hN1, hN2, hN3⟩ := HSM.out.2 z.1 z.2
      obtain ⟨kPW, kTW⟩ := HNX.out W ho
      have US := hid (unseen_is t (HROW.out W ho z) hN3 (by omega))
      have hus := unseen_le z.1.2.vs t
      rw [hN2] at hus
      have DR : Hid (∀ W2, Below W.heap.size W W2 → _) := fun W2 hb => drop_is (n := unseen z.1.2.vs t) (hs.later hb) ((HROW.out W ho z).later hb) hN3 hus (by omega) (by have := HSM.out.1; have h1 := hlt; omega)
      have hgb := goneE_bound t 268435456 (fun e he => by have := HSM.out.2 e he; omega) pre
      have hg1 : pre.length * 268435456 ≤ 72057594037927936 := Nat.le_trans (Nat.mul_le_mul_right _ (show pre.length ≤ 268435456 by have := HSM.out.1; omega)) (by decide)
      obtain ⟨gn, hgn⟩ : ∃ gn, goneE (pre.map (fun x => x.1)) t = gn := ⟨_, rfl⟩
      rw [hgn] at hbx hgb
      obtain ⟨un, hun⟩ : ∃ un, unseen z.1.2.vs t = un := ⟨_, rfl⟩
      rw [hun] at US hus DR
      have HGN : Hid (goneE ((pre ++ [z]).map (fun x => x.1)) t = gn + un) := by show _ = _; rw [List.map_append]; exact (goneE_snoc _ _ t).trans (by rw [hgn, hun])
      have HMF : Hid ((abs ((pre ++ [z]).map (fun x => x.1))).foldl (stepP t) (abs m) = dropM (abs m') z.1.1 z.1.2.vs un) := by
        show _ = _
        have e : abs ((pre ++ [z]).map (fun x => x.1)) = abs (pre.map (fun x => x.1)) ++ [(z.1.1, z.1.2.vs)] := by simp [abs]
        rw [e, List.foldl_append, ← hm', ← hun]; rfl
      have c0 := kPW.cell
      have t0 : W.cell? ⟨w.heap.size + 1, 0, none⟩ = some (.int .u64 t.a) := cell_of_obj kTW rfl
      have t1 : W.cell? ⟨w.heap.size + 1, 1, none⟩ = some (.int .u32 t.b) := cell_of_obj kTW rfl
      have t2 : W.cell? ⟨w.heap.size + 1, 2, none⟩ = some (.int .u32 t.c) := cell_of_obj kTW rfl
      have HBX := hid hbx
      have HO := hid ho
      have HPW := hid kPW
      have HF' := hid hF'
      have HML := hid hml
      have hgI : (gn : Int) + (un : Int) ≤ 9223372036854775807 := by omega
      have HXB : Hid (bg ≠ p) := by
        have h1 := H.out.1.lt H.out.1.fp
        have h2 := HW2.out
        show _ ≠ _
        omega
      have HPX : Hid (w.heap.size ≠ p ∧ w.heap.size ≠ bg) := by
        have h1 := H.out.1.lt H.out.1.fp
        have h2 := HW2.out
        exact ⟨by omega, by omega⟩
      have HXW : Hid (StT ty ∧ ∃ cs, W.heap[p]? = some (.cells cs ty (0, 0))) := ⟨hs.ty, hs.blk⟩
      have HPT := hid hpt
      clear hpt hs hm' hml hF' hbx ho kPW kTW hgn hun hN1 hN2 hN3 hgb hg1
      gi_wp2_with (first
        | ((try refine ⟨trivial, ?_⟩); gi_at_call 61; refine (CallsIn.inRound y (callsIn_wide.2 US.out)).mono ?_; rintro e w3 ⟨rfl, hb3⟩; have c03 : w3.cell? ⟨w.heap.size, 0, none⟩ = some (.pointer (some ⟨p, o, none⟩)) := cell_later hb3 c0)
        | ((try refine ⟨trivial, ?_⟩); gi_at_call 62; refine (CallsIn.inRound y (callsIn_wide.2 (DR.out w3 hb3))).mono ?_; rintro e w4 ⟨⟨v0, rfl⟩, hs4, ho4, hp4⟩; have HS4 := hid hs4; have HO4 := hid ho4; have HP4 := hid hp4; have bx4 : Boxed w4 bg 3 (.int .i64 gn) := (ho4.block bg (Nat.lt_of_lt_of_le HBX.out.lt hb3.size) HXB.out).trans ((hb3.block _ HBX.out.lt).trans HBX.out); have bc4 := bx4.cell; have bf4 := bx4.frozen; clear hs4 ho4 hp4))
      have hOF : Onl (fun b => b = p ∨ b = bg) W (w4.setCell ⟨bg, 0, none⟩ (.int .i64 ((gn : Int) + (un : Int)))) := ((Onl.of_below hb3).trans (HO4.out.mono fun b e => .inl e)).set (F := fun b => b = p ∨ b = bg) (.inr rfl) _ _
      have hPF : Part p o 4 w2 (w4.setCell ⟨bg, 0, none⟩ (.int .i64 ((gn : Int) + (un : Int)))) := ((HPT.out.trans (Part.below hb3)).trans (HP4.out.wide (by omega) (by omega))).trans (Part.onl (Onl.set (F := fun b => b = bg) (Onl.refl _ _) rfl _ _) (Ne.symm HXB.out))
      obtain ⟨htyp, pcs, bxW⟩ := HXW.out
      obtain ⟨F2, m2, s2, e2, l2, f2⟩ := HS4.out
      have hs3 := hb3.size
      have hsO := HO.out.size
      refine ⟨onl_keeps _ hOF (fun b o hg ho => ?_), Kp.of_onl hOF (fun b cs ty z hg hb hty => ?_), ⟨F2, m2, ?_, e2.trans HMF.out.symm, ?_, fun b hb => ?_⟩, ?_, HO.out.trans hOF, hPF⟩
      · rcases hg with rfl | rfl
        · rw [bxW] at ho; cases ho; rfl
        · rw [show W.heap[b]? = _ from HBX.out] at ho; cases ho; rfl
      · rcases hg with rfl | rfl
        · rw [bxW] at hb; cases hb; exact htyp.1 hty
        · rw [show W.heap[b]? = _ from HBX.out] at hb; cases hb; exact not_ixt rfl hty
      · have hos : Onl (fun b => b = bg) w4 (w4.setCell ⟨bg, 0, none⟩ (.int .i64 ((gn : Int) + (un : Int)))) := Onl.set (F := fun b => b = bg) (Onl.refl _ _) rfl _ _
        refine s2.keep (Kp.of_index hos bx4 (not_ixt rfl)) fun b hf => hos.block b (s2.lt hf) fun e => ?_
        subst e
        have h2 := HW2.out
        rcases f2 b hf with h1 | h1
        · rcases HF'.out b h1 with h0 | h0
          · have := H.out.1.lt h0; omega
          · omega
        · have h3 := HBX.out.lt; omega
      · rw [List.length_append, List.length_singleton]; have := HML.out; omega
      · rcases f2 b hb with h1 | h1
        · exact HF'.out b h1
        · exact .inr (by omega)
      · rw [HGN.out]; exact bx4.set _
    case hdone =>
      rintro D ys W hD hys ⟨⟨F', m', hs, hm', hml, hF'⟩, hbx, ho, hpt⟩ hK
      rw [hys] at hbx hm'
      rw [prune_all H.out.1.good t] at hm'
      rw [goneE_abs] at hbx
      have c := hbx.cell
      have HQ := hid (show _ ∧ _ ∧ _ ∧ _ ∧ _ from ⟨hs, hm', hF', ho, hpt⟩)
      clear hs hm' hF' ho hbx hml hpt
      go_wp2_with fail
      refine ⟨by simp, .inl ⟨_, _, rfl, run_takeDeferred hK, ?_⟩⟩
      obtain ⟨hs, hm', hF', ho, hpt⟩ := HQ.out
      have hw2w : w.heap.size ≤ w2.heap.size := HRST.out.size
      refine ⟨_, results_tmp rfl _ _ _, by rw [HG.out.1]; rfl, ⟨F', ⟨m', by rw [HG.out.2.2]; exact Own.putObj (stoX_own (β := Unit)) (s := ()) _ hs hK rfl, by rw [HG.out.2.1]; exact hm'⟩, fun b hb => (hF' b hb).imp id (fun h => Nat.le_trans hw2w h)⟩, ?_, HPRT.out.trans (Own.putObj (part_own (β := Unit)) (s := ()) _ hpt hK rfl)⟩
      refine (HRST.out.fresh ho (fun b hb => ?_)).fresh (onl_put W D _) (fun b hb => .inr (by rw [hb]; exact Nat.le_trans hw2w hD))
      rcases hb with rfl | rfl
      · exact .inl H.out.1.fp
      · exact .inr (by have := HW2.out; omega)
    case hstop =>
      rintro D c pre W _ _ h _
      exact h.elim
theorem prune_is {F : Nat → Prop} {w : World} {p : Nat} {M : Mst} {mk : Sp} (h : Sto F w p M mk) (t : Sp) (hn : countM M ≤ 268435456) :
    Calls Tryd.prog 36 #[pt p, sv t] w fun e w' => e = .returned (.int .i64 (prG M mk t : Nat)) ∧ (∃ F', Sto F' w' p (prM M mk t) (prK mk t) ∧ ∀ b, F' b → F b ∨ w.heap.size ≤ b) ∧ Onl F w w' :=
  (pruneG_is h t hn).mono fun e w' ⟨h1, h2, h3, _⟩ => ⟨h1, h2, h3⟩
end Go.Proofs.YtmlacdfdpdkdaaaDoor.Vs
/- The law's changes: prune. -/
namespace Go.Proofs.YtmlacdfdpdkdaaaDoor.Bg
open Go.RowKit Go.Sort Go.Proofs.YtmlacdfdpdkdaaaDoor Go.Proofs.YtmlacdfdpdkdaaaDoor.Vs
set_option linter.unusedVariables false

set_option maxRecDepth 8000 in
set_option maxHeartbeats 4000000 in
theorem chg_prune {W w : World} {b m n j : Nat} {x : Sv} (hP : PowTab W) (h : Sx W w b x m) (hx : Eqs x n) (s : Sc) (hn : n + s.ws.length + s.vs.length ≤ 1048576) (hw : RowW W s.wa s.ws) (hv : RowV W s.va s.vs) (ht : s.t.a ≤ 18446744073709551615) (hvs : ∀ e ∈ s.vs, e.2.s.a ≤ 18446744073709551615) (hj : j < 2) (hb : bits BinOp.and IntKind.i64 s.o 1 = (j : Int)) (hk : s.k = 5) :
    Calls Tryd.prog 9 #[pt b, .agg s.cells] w fun e w' => e = .returned (.bool true) ∧ Hid (Ch W w' b m (n + s.ws.length + s.vs.length)) := by
  obtain ⟨wb, hwb⟩ : ∃ wb, wb = w.alloc (.cells s.cells 58) := ⟨_, rfl⟩
  have hbb : Below w.heap.size w wb := by rw [hwb]; exact Below.al (Below.refl _ _) _
  obtain ⟨q, hq⟩ : ∃ q, q = w.heap.size := ⟨_, rfl⟩
  have HX := hid hx
  obtain ⟨c, s0, z0, h, hcq⟩ : ∃ c s0 z0, St W wb c b { x with s := s0, z := z0 } m ∧ c q = 22 := by
    obtain ⟨c0, s0, z0, h0⟩ := h
    obtain ⟨c, h1, _, h2⟩ := h0.later hbb (fun _ => 22)
    refine ⟨c, s0, z0, h1, h2 q (by omega) ?_⟩
    have hbx : wb.heap[w.heap.size]? = some (.cells s.cells 58 (0, 0)) := by rw [hwb]; exact World.alloc_heap_new _ _
    rw [hq]
    exact not_ixB hbx (fun h => by rcases h with h | h | h <;> exact absurd h (by decide))
  have HS := hid h
  have HCQ := hid hcq
  obtain ⟨x0, x1, x2, x3, x4, x5, x6, x7, x8⟩ := Bx.of s hwb
  rw [← hq] at x0 x1 x2 x3 x4 x5 x6 x7 x8
  have y0 := h.cp j hj
  have y1 := h.cq j hj
  have hcj := hx.c j hj
  have hst := h.st j hj
  have hrs := h.rs j hj
  have hgd := hst.good
  simp only [hx.m, hx.k] at hst hrs hgd y0 y1
  have hx' : Eqs { x with s := s0, z := z0 } n := ⟨hx.m, hx.k, hx.c, hx.ok⟩
  have hnq : ¬ (fun k => x.F j k ∨ k = x.r j) q := by
    rintro (e | e)
    · have := (h.cf j hj q e).1; omega
    · have h1 := h.cr j hj (x.r j) (.inl rfl)
      rw [← e, hcq] at h1; omega
  have hnb : ¬ (fun k => x.F j k ∨ k = x.r j) b := by
    have hcb := h.cb
    rintro (e | e)
    · have := (h.cf j hj b e).1; omega
    · have h1 := h.cr j hj (x.r j) (.inl rfl)
      rw [← e, hcb] at h1; omega
  have P1 : Hid (∀ w1, Below wb.heap.size wb w1 → Calls Tryd.prog 36 #[pt (x.p j), sv s.t] w1 fun e w' => e = .returned (.int .i64 (prG (x.M j) (x.kp j) s.t : Nat)) ∧ Hid (Onl (fun k => x.F j k ∨ k = x.r j) wb w') ∧ Hid (∀ w2, Below w'.heap.size w' w2 → Calls Tryd.prog 37 #[pt (x.r j), sv s.t] w2 fun e w'' => e = .returned (.int .i64 (prG (x.M j) (x.kp j) s.t : Nat)) ∧ Hid (Onl (fun k => x.F j k ∨ k = x.r j) wb w'') ∧ Hid (Ch W w'' b m (n + s.ws.length + s.vs.length)))) := by
    intro w1 hb1
    refine (h.pair hj (f1 := 36) (f2 := 37) (a1 := #[pt (x.p j), sv s.t]) (a2 := #[pt (x.r j), sv s.t]) (e1 := .int .i64 (prG (x.M j) (x.kp j) s.t : Nat)) (M' := prM (x.M j) (x.kp j) s.t) (k' := prK (x.kp j) s.t) (fun w1 hb1 => ?_) (fun w2 ho hbl hr => ?_) w1 hb1).mono ?_
    · exact (prune_is (hst.later hb1) s.t (by omega)).mono fun e w' ⟨h1, ⟨F', h2, h3⟩, h4⟩ => ⟨h1, F', h2, h3, h4⟩
    · simp only [hx.m, hx.k] at hr
      refine (rprune_is hr (by rw [dump_len]; omega) hbl.size s.t).mono ?_
      rintro e w' ⟨rfl, v', h1, h2, h3⟩
      rw [pr_ans hgd]
      rw [ru_is hgd] at h1
      exact ⟨rfl, v', h1, h2, h3⟩
    · rintro e w' ⟨rfl, ho, hk⟩
      refine ⟨rfl, ho, fun w2 hb2 => (hk.out w2 hb2).mono ?_⟩
      rintro e w'' ⟨rfl, ho2, c', F', v', h4, _⟩
      exact ⟨rfl, ho2, _, h4.sx, hx'.put (by omega) (Nat.le_trans (pr_cnt _ _ _) (by omega)) (pr_ok hgd (hx.ok j hj) _ _)⟩
  generalize prG (x.M j) (x.kp j) s.t = pg at P1
  generalize (fun k => x.F j k ∨ k = x.r j) = G at P1 hnq hnb
  generalize x.p j = pj at y0 P1
  generalize x.r j = rj at y1 P1
  clear hx'
  have HWB := hid hwb
  have HQ := hid hq
  have HPT := hid hP
  have HW := hid hw
  have HV := hid hv
  have HT := hid ht
  have HVS := hid hvs
  have HNN := hid hn
  clear h hx hbb hq hwb hst hrs hgd hcq hP hw hv ht hvs
  rw [hk] at x0
  go_enter Tryd.func9, Tryd.ntmps9
  go_upto_region 1 with fail
  rw [← HWB.out, ← HQ.out]
  have hJ : (j : Int) < 2 := by omega
  go_wp2_with fail
  go_region_held3 (fun w' => w'.cell? ⟨q, 2, none⟩ = some (.int .u64 s.t.a) ∧ w'.cell? ⟨q, 3, none⟩ = some (.int .u32 s.t.b) ∧ w'.cell? ⟨q, 4, none⟩ = some (.int .u32 s.t.c) ∧ w'.cell? ⟨b, j, none⟩ = some (pt pj) ∧ w'.cell? ⟨b, 2 + j, none⟩ = some (pt rj) ∧ Onl G wb w')
    ((refine (fun (hO : Onl G wb _) => ⟨hO.cell hnq x2, hO.cell hnq x3, hO.cell hnq x4, hO.cell hnb y0, hO.cell hnb y1, hO⟩) ?_; (repeat (first | with_reducible exact Onl.refl _ _ | with_reducible assumption | with_reducible refine Onl.drew ?_ | with_reducible refine Onl.al ?_ _))))
    (first | (go_at_call 36; refine (P1.out _ (by (repeat (first | with_reducible exact Below.refl _ _ | with_reducible assumption | with_reducible refine Below.drew ?_ | with_reducible refine Below.al ?_ _ | with_reducible refine Below.setCell ?_ (by first | exact Nat.le_refl _ | (simp; omega) | (simp; done)) _ | with_reducible refine Below.on ?_ (by assumption))))).mono ?_; rintro e w4 ⟨rfl, ho4, HK⟩; have hO4 : Onl G wb w4 := ho4.out) | (go_at_call 37; refine (HK.out _ (by (repeat (first | with_reducible exact Below.refl _ _ | with_reducible assumption | with_reducible refine Below.drew ?_ | with_reducible refine Below.al ?_ _ | with_reducible refine Below.setCell ?_ (by first | exact Nat.le_refl _ | (simp; omega) | (simp; done)) _ | with_reducible refine Below.on ?_ (by assumption))))).mono ?_; rintro e w5 ⟨rfl, ho5, HF⟩; have hO5 : Onl G wb w5 := ho5.out))
  all_goals (try go_wp2_with fail)
  all_goals go_ret
  all_goals exact ⟨rfl, HF⟩
end Go.Proofs.YtmlacdfdpdkdaaaDoor.Bg
