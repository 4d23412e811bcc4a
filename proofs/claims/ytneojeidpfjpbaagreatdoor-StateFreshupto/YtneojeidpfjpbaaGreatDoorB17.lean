import Derived.Test.YtneojeidpfjpbaaGreatDoorB16
import Derived.Maps.AppendAt
set_option linter.unusedVariables false
set_option maxHeartbeats 2000000
namespace Go.Proofs.YtneojeidpfjpbaaGreatDoor.Vs
open Go.RowKit Go.Sort
theorem free_none {M : Mst} {t : Sp} {x : Wr} (h : getX M x.key = none) : freeB M t x = true := by unfold freeB; rw [h]; rfl
theorem free_some {M : Mst} {t : Sp} {x : Wr} {cs : Chain} {m : Nat} (h : getX M x.key = some cs) (hr : Ris cs) (hl : cs.length = m + 1) : freeB M t x = (nthV cs m).s.lt t := by
 unfold freeB; rw [h]
 have hsp : cs = cs.take m ++ [nthV cs m] := by
  rw [← nthV_take (by omega : m < cs.length), List.take_of_length_le (by omega)]
 rw [Bool.eq_iff_iff]; show (cs.all fun u => u.s.lt t) = true ↔ _
 rw [List.all_eq_true]; constructor
 ·intro hall; exact hall _ (by simp [nthV, hl])
 ·intro hlt; rw [hsp] at hr ⊢; have : nthV (cs.take m ++ [nthV cs m]) m = nthV cs m := by rw [← hsp]
  exact over_last hr hlt
theorem all_snoc {ws : List Wr} {f : Wr → Bool} {i : Nat} (h : i < ws.length) : (ws.take (i + 1)).all f = ((ws.take i).all f && f (nthW ws i)) := by rw [nthW_take h]; simp
theorem all_false {ws : List Wr} {f : Wr → Bool} {i : Nat} (h : i < ws.length) (hf : f (nthW ws i) = false) : ws.all f = false := by
 rw [List.all_eq_false]; exact ⟨nthW ws i, by simp [nthW, h], by simp [hf]⟩
theorem usable_at {t : Sp} {u : Bool} (hu : decide (t.a < 18446744073709551615) = u) (W : World) : Calls Tryz.prog 84 #[sv t] W fun e w' => e = .returned (.bool u) ∧ Below W.heap.size W w' := by
 have h := usable_is (a := t.a) (b := t.b) (c := t.c) W; rw [hu] at h; exact h
set_option maxRecDepth 16000 in
theorem installG_is {F : Nat → Prop} {w : World} {p o : Nat} {ty : TypeId} {M : Mst} {mk : Sp} {a : Option Addr} {c : Nat} {ws : List Wr} (t : Sp) (h : StoG F w p o ty M mk) (hr : RowW w a ws) (hF : ∀ b off, a = some ⟨b, off, none⟩ → ¬ F b)
  (hl : ws.length ≤ 1152921504606846976) (hn : (countM M + 17) * 64 ≤ 140737488355328) :
  Calls Tryz.prog 96 #[.pointer (some ⟨p, o, none⟩), .slice a ws.length c, sv t] w fun e w' => e = .returned (.int .i64 (instE M ws t)) ∧ ∃ F', StoG F' w' p o ty (instR M ws t) mk ∧ (∀ b, F' b → F b ∨ w.heap.size ≤ b) ∧ Onl F w w' ∧ Part p o 1 w w' := by
 have hb0 : Below w.heap.size w (w.alloc (.cells #[.int .u64 t.a, .int .u32 t.b, .int .u32 t.c] 28)) := Below.al (Below.refl _ _) _; have ka : (w.alloc (.cells #[.int .u64 t.a, .int .u32 t.b, .int .u32 t.c] 28)).heap[w.heap.size]? = some (.cells #[.int .u64 t.a, .int .u32 t.b, .int .u32 t.c] 28 (0, 0)) := World.alloc_heap_new _ _; obtain ⟨wa, hwa⟩ : ∃ wa, wa = w.alloc (.cells #[.int .u64 t.a, .int .u32 t.b, .int .u32 t.c] 28) := ⟨_, rfl⟩; rw [← hwa] at hb0 ka; have a0 : wa.cell? ⟨w.heap.size, 0, none⟩ = some (.int .u64 t.a) := cell_of_obj ka rfl; have a1 : wa.cell? ⟨w.heap.size, 1, none⟩ = some (.int .u32 t.b) := cell_of_obj ka rfl; have a2 : wa.cell? ⟨w.heap.size, 2, none⟩ = some (.int .u32 t.c) := cell_of_obj ka rfl; have hA := h.later hb0; have hrA := hr.later hb0; have hnb : ¬ F w.heap.size := fun hf => Nat.lt_irrefl _ (h.lt hf)
 have H0 := hid (show StoG F wa p o ty M mk ∧ RowW wa a ws ∧ Below w.heap.size w wa ∧ ¬ F w.heap.size from ⟨hA, hrA, hb0, hnb⟩); have HF := hid hF; have HN := hid hn; have hq : ∀ w', Below wa.heap.size wa w' → instE M ws t ≠ 0 → ∃ F', StoG F' w' p o ty (instR M ws t) mk ∧ (∀ b, F' b → F b ∨ w.heap.size ≤ b) ∧ Onl F w w' ∧ Part p o 1 w w' := fun w' hb hne => by
  unfold instR; rw [if_neg hne]
  exact ⟨F, hA.later hb, fun b hb => .inl hb, Onl.of_below (Below.on hb0 hb), Part.below (Below.on hb0 hb)⟩
 have HQ := hid hq; clear hA hrA hb0 ka h hr hnb hF hn hq; cases hu : decide (t.a < 18446744073709551615) with
 | false =>
  have HE : Hid (instE M ws t = 11) := by show _ = _; unfold instE; rw [hu]; rfl
  have U := hid (fun W => usable_at (t := t) hu W); clear hu; go_enter Tryz.func96, Tryz.ntmps96
  go_wp2_with (first | (go_at_call 84; rw [← hwa]; refine (U.out _).mono ?_; rintro e w1 ⟨rfl, hb1⟩; clear hwa))
  go_ret
  exact ⟨by rw [HE.out]; rfl, HQ.out _ hb1 (by rw [HE.out]; decide)⟩
 | true =>
  have U := hid (fun W => usable_at (t := t) hu W); cases hv : writesOk ws with
  | false =>
   have HE : Hid (instE M ws t = 1) := by show _ = _; unfold instE; rw [hu, hv]; rfl
   have V := hid (fun W (hb : Below wa.heap.size wa W) => validWrites_is (c := c) hv (H0.out.2.1.later hb) (by omega)); clear hu hv; go_enter Tryz.func96, Tryz.ntmps96
   go_wp2_with (first
    | (go_at_call 84; rw [← hwa]; refine (U.out _).mono ?_; rintro e w1 ⟨rfl, hb1⟩; clear hwa)
    | (go_at_call 123; refine (V.out _ hb1).mono ?_; rintro e w2 ⟨rfl, hb2⟩))
   go_ret
   exact ⟨by rw [HE.out]; rfl, HQ.out _ (Below.on hb1 hb2) (by rw [HE.out]; decide)⟩
  | true =>
   have HEE : Hid (instE M ws t = if ws.all (freeB M t) then 0 else 91) := by show _ = _; unfold instE; rw [hu, hv]; rfl
   have V := hid (fun W (hb : Below wa.heap.size wa W) => validWrites_is (c := c) hv (H0.out.2.1.later hb) (by omega)); have HV := hid hv; clear hu hv; go_enter Tryz.func96, Tryz.ntmps96
   go_wp2_with (first
    | (go_at_call 84; rw [← hwa]; refine (U.out _).mono ?_; rintro e w1 ⟨rfl, hb1⟩; clear hwa)
    | (go_at_call 123; refine (V.out _ hb1).mono ?_; rintro e w2 ⟨rfl, hb2⟩))
   have hb2' := hid (Below.on hb1 hb2); clear hb1 hb2 U V; go_loopg [21] ws.length (fun g s21 wr => ∃ i : Nat, i ≤ ws.length ∧ g = ws.length - i ∧ s21 = .int .i64 i ∧ Hid (Below wa.heap.size wa wr) ∧ Hid ((ws.take i).all (freeB M t) = true))
   case atStart => exact ⟨0, by omega, by omega, rfl, hb2', rfl⟩
   case round =>
    obtain ⟨i, hi, rfl, rfl, HB, HA⟩ := hrel; by_cases hlt : i < ws.length
    ·obtain ⟨b, off, rfl, c0, c1, c2⟩ := (H0.out.2.1.later HB.out) i hlt; obtain ⟨x, hx⟩ : ∃ x, x = nthW ws i := ⟨_, rfl⟩; rw [← hx] at c0 c1 c2; obtain ⟨m, hX, hm⟩ := H0.out.1; have HS := hid (all_snoc (f := freeB M t) hlt); rw [← hx] at HS; have HNO := hid (fun hf => all_false (f := freeB M t) hlt hf); rw [← hx] at HNO; obtain ⟨xk, xd, xv⟩ := x; simp only at c0 c1 c2; obtain ⟨wb, hwb⟩ : ∃ wb, wb = wr.alloc (.cells #[.string xk, .bool xd, .string xv] 103) := ⟨_, rfl⟩; have hbb : Below wa.heap.size wa wb := by rw [hwb]; exact Below.al HB.out _
     have kb : wb.heap[wr.heap.size]? = some (.cells #[.string xk, .bool xd, .string xv] 103 (0, 0)) := by rw [hwb]; exact World.alloc_heap_new _ _
     have x0 : wb.cell? ⟨wr.heap.size, 0, none⟩ = some (.string xk) := cell_of_obj kb rfl; have hXb := hX.later hbb; have kx0 := cell_regrown x0; have ka0 := cell_regrown (cell_later hbb a0); have ka1 := cell_regrown (cell_later hbb a1); have ka2 := cell_regrown (cell_later hbb a2)
     have HBB := hid hbb; cases hg : getX m xk with
     | none =>
      have HG : Hid (∀ W, Below wb.heap.size wb W → Calls Tryz.prog 129 #[.pointer (some ⟨p, o, none⟩), .string xk] W fun e w' => e = .returned (.tuple #[.slice none 0 0, .bool false]) ∧ Below W.heap.size W w') := fun W hb =>
       (get_is (hXb.xi.later hb) xk).mono fun e w' ⟨he, hw⟩ => ⟨by rw [he, gotX, hg]; rfl, by rw [hw]; exact Below.refl _ _⟩
      have HFR : Hid (freeB M t ⟨xk, xd, xv⟩ = true) := free_none (by rw [← hm, abs_get, hg]; rfl); clear hX hXb hg hx hbb kb; go_wp2_with fail
      rw [← hwb]; clear hwb; refine wp_region_quiet_below (by kernel_rfl) (by kernel_rfl) ?_; repeat (go_big_quiet_step ((go_at_call 129; exact Calls.regrown_of (HG.out _ (below_regrown _ _ _)))))
      refine wpQuiet_nil ?_; intro w3 hw3; replace hw3 := below_of_regrown hw3; go_wp2_with fail
      refine wp_region_quiet_below (by kernel_rfl) (by kernel_rfl) ?_; repeat (go_big_quiet_step (fail))
      refine wpQuiet_nil ?_; intro w4 hw4; replace hw4 := below_of_regrown hw4; go_wp2_with fail
      go_roundg (ws.length - (i + 1))
      case measure => omega
      case rel => exact ⟨i + 1, by omega, rfl, by go_num, Below.on (Below.on HBB.out hw3) hw4, by show _ = _; rw [HS.out, HA.out, HFR.out]; rfl⟩
     | some hd =>
      have hmm := (getX_some hX.xi.rising).1 hg; have hrow := hXb.row _ hmm; have hch := hX.good.chain (xk, hd.vs) (List.mem_map.2 ⟨_, hmm, rfl⟩); have hlen : hd.vs.length = hd.n := hrow.len; have hpos : 0 < hd.vs.length := List.length_pos_iff.2 hch.1; obtain ⟨q, hq⟩ : ∃ q, hd.n = q + 1 := ⟨hd.n - 1, by omega⟩; have hcnt : hd.vs.length ≤ countM M := by rw [← hm]; exact count_mem (e := (xk, hd.vs)) (List.mem_map.2 ⟨_, hmm, rfl⟩)
      have hnn : hd.n ≤ 1152921504606846976 := by have := HN.out; omega
      have hfr : freeB M t ⟨xk, xd, xv⟩ = (nthV hd.vs q).s.lt t := free_some (by rw [← hm, abs_get, hg]; rfl) hch.2 (by omega); have HL : Hid (∀ W, Below wb.heap.size wb W → _) := fun W hb => last_is (hrow.later hb) hq hnn
      have HG : Hid (∀ W, Below wb.heap.size wb W → Calls Tryz.prog 129 #[.pointer (some ⟨p, o, none⟩), .string xk] W fun e w' => e = .returned (.tuple #[.slice (some ⟨hd.g, 0, none⟩) hd.n hd.cap, .bool true]) ∧ Below W.heap.size W w') := fun W hb =>
       (get_is (hXb.xi.later hb) xk).mono fun e w' ⟨he, hw⟩ => ⟨by rw [he, gotX, hg]; rfl, by rw [hw]; exact Below.refl _ _⟩
      obtain ⟨s, hs⟩ : ∃ s, s = (nthV hd.vs q).s := ⟨_, rfl⟩; rw [← hs] at hfr HL; obtain ⟨g, n, cp, vs⟩ := hd; simp only at HL HG; cases hst : s.lt t with
      | true =>
       have hst' : lessB s.a s.b s.c t.a t.b t.c = true := hst; have HFR : Hid (freeB M t ⟨xk, xd, xv⟩ = true) := hfr.trans hst; clear hX hXb hg hx hbb kb hs hq hlen hpos hcnt hnn hmm hrow hch hfr hst; go_wp2_with fail
       rw [← hwb]; clear hwb; refine wp_region_quiet_below (by kernel_rfl) (by kernel_rfl) ?_; repeat (go_big_quiet_step ((go_at_call 129; exact Calls.regrown_of (HG.out _ (below_regrown _ _ _)))))
       refine wpQuiet_nil ?_; intro w3 hw3; replace hw3 := below_of_regrown hw3; have la0 := cell_regrown (cell_later (Below.on HBB.out hw3) a0); have la1 := cell_regrown (cell_later (Below.on HBB.out hw3) a1); have la2 := cell_regrown (cell_later (Below.on HBB.out hw3) a2)
       clear ka0 ka1 ka2 kx0; go_wp2_with fail
       refine wp_region_quiet_below (by kernel_rfl) (by kernel_rfl) ?_; repeat (go_big_quiet_step (first | (go_at_call 127; exact Calls.regrown_of (HL.out _ (Below.on hw3 (below_regrown _ _ _)))) | (go_at_call 59; exact Calls.regrown_of (less_is (by assumption) _))))
       refine wpQuiet_nil ?_; intro w4 hw4; replace hw4 := below_of_regrown hw4; go_wp2_with fail
       go_roundg (ws.length - (i + 1))
       case measure => omega
       case rel => exact ⟨i + 1, by omega, rfl, by go_num, Below.on (Below.on HBB.out hw3) hw4, by show _ = _; rw [HS.out, HA.out, HFR.out]; rfl⟩
      | false =>
       have hst' : lessB s.a s.b s.c t.a t.b t.c = false := hst; have HE : Hid (instE M ws t = 91) := by show _ = _; rw [HEE.out, HNO.out (hfr.trans hst)]; rfl
       clear hX hXb hg hx hbb kb hs hq hlen hpos hcnt hnn hmm hrow hch hfr hst; go_wp2_with fail
       rw [← hwb]; clear hwb; refine wp_region_quiet_below (by kernel_rfl) (by kernel_rfl) ?_; repeat (go_big_quiet_step ((go_at_call 129; exact Calls.regrown_of (HG.out _ (below_regrown _ _ _)))))
       refine wpQuiet_nil ?_; intro w3 hw3; replace hw3 := below_of_regrown hw3; have la0 := cell_regrown (cell_later (Below.on HBB.out hw3) a0); have la1 := cell_regrown (cell_later (Below.on HBB.out hw3) a1); have la2 := cell_regrown (cell_later (Below.on HBB.out hw3) a2)
       clear ka0 ka1 ka2 kx0; go_wp2_with fail
       refine wp_region_quiet_below (by kernel_rfl) (by kernel_rfl) ?_; repeat (go_big_quiet_step (first | (go_at_call 127; exact Calls.regrown_of (HL.out _ (Below.on hw3 (below_regrown _ _ _)))) | (go_at_call 59; exact Calls.regrown_of (less_is (by assumption) _))))
       refine wpQuiet_nil ?_; intro w4 hw4; replace hw4 := below_of_regrown hw4; go_wp2_with fail
       go_ret
       exact ⟨by rw [HE.out]; rfl, HQ.out _ (Below.on (Below.on HBB.out hw3) hw4) (by rw [HE.out]; decide)⟩
    ·obtain rfl : i = ws.length := by omega
     have HAL : Hid (ws.all (freeB M t) = true) := by show _ = _; have := HA.out; rwa [List.take_of_length_le (Nat.le_refl _)] at this
     have HE : Hid (instE M ws t = 0) := by show _ = _; rw [HEE.out, HAL.out]; rfl
     have HBr := hid HB.out; clear HQ HEE HA; go_wp2_with fail
     go_loopg [45] ws.length (fun g s45 wr => ∃ i : Nat, i ≤ ws.length ∧ g = ws.length - i ∧ s45 = .int .i64 i ∧ Hid (Onl F wa wr ∧ (∃ F', StoG F' wr p o ty (instM M (ws.take i) t) mk ∧ (∀ b, F' b → F b ∨ wa.heap.size ≤ b)) ∧ Part p o 1 wa wr))
     case atStart => exact ⟨0, by omega, by omega, rfl, ⟨Onl.of_below HBr.out, ⟨F, H0.out.1.later HBr.out, fun b hb => .inl hb⟩, Part.below HBr.out⟩⟩
     case round =>
      obtain ⟨i, hi, rfl, rfl, HI⟩ := hrel; have a0' := HI.out.1.cell H0.out.2.2.2 a0; have a1' := HI.out.1.cell H0.out.2.2.2 a1; have a2' := HI.out.1.cell H0.out.2.2.2 a2; by_cases hlt : i < ws.length
      ·obtain ⟨b, off, hab, c0, c1, c2⟩ := (RowW.onl H0.out.2.1 HI.out.1 HF.out) i hlt; obtain ⟨x, hx⟩ : ∃ x, x = nthW ws i := ⟨_, rfl⟩; have hov := inst_over H0.out.1.good.rising HV.out HAL.out hlt; have HT := hid (nthW_take hlt); rw [← hx] at c0 c1 c2 hov HT; obtain ⟨xk, xd, xv⟩ := x; simp only at c0 c1 c2 hov; obtain ⟨F', hF', hFF⟩ := HI.out.2.1; have hcnt := instM_count H0.out.1.good.rising (ws.take i) t; have h16 := writes_len HV.out; have hcb : (countM (instM M (ws.take i) t) + 1) * 64 ≤ 140737488355328 := by
        have h1 : countM (instM M (ws.take i) t) + 1 ≤ countM M + 17 := by rw [hcnt.1, List.length_take]; omega
        exact Nat.le_trans (Nat.mul_le_mul_right 64 h1) HN.out
       have HAD : Hid (∀ W, Below wr.heap.size wr W → _) := fun W hb => addG_is (hF'.later hb) (v := Wr.ver ⟨xk, xd, xv⟩ t) (k := xk) hov hcb
       have HNX : Hid (∀ W w', Below wr.heap.size wr W → Onl F' W w' → Onl F wa w') := fun W w' hb ho => (HI.out.1.on hb).fresh ho hFF
       have HPX : Hid (∀ W w', Below wr.heap.size wr W → Part p o 1 W w' → Part p o 1 wa w') := fun W w' hb ho => (HI.out.2.2.trans (Part.below hb)).trans ho
       have HFF := hid hFF; have hws := HI.out.1.size; subst hab; have A0 : (wr.alloc (.cells #[.string xk, .bool xd, .string xv] 103)).cell? ⟨w.heap.size, 0, none⟩ = _ := cell_later (Below.al (Below.refl _ _) _) a0'; have A1 : (wr.alloc (.cells #[.string xk, .bool xd, .string xv] 103)).cell? ⟨w.heap.size, 1, none⟩ = _ := cell_later (Below.al (Below.refl _ _) _) a1'; have A2 : (wr.alloc (.cells #[.string xk, .bool xd, .string xv] 103)).cell? ⟨w.heap.size, 2, none⟩ = _ := cell_later (Below.al (Below.refl _ _) _) a2'; clear a0' a1' a2'; clear hx hov hcnt h16 hcb hF' hFF
       go_wp2_with ((go_at_call 130; refine (HAD.out _ (by (repeat (first | exact Below.refl _ _ | assumption | refine Below.drew ?_ | refine Below.al ?_ _ | refine Below.setCell ?_ (by first | exact Nat.le_refl _ | (simp; omega) | (simp; done)) _ | refine Below.on ?_ (by assumption))))).mono ?_; rintro e w5 ⟨⟨v0, rfl⟩, F2, s5, f5, o5, q5⟩))
       go_roundg (ws.length - (i + 1))
       case measure => omega
       case rel => exact ⟨i + 1, by omega, rfl, by go_num, ⟨HNX.out _ _ (by (repeat (first | exact Below.refl _ _ | assumption | refine Below.drew ?_ | refine Below.al ?_ _ | refine Below.setCell ?_ (by first | exact Nat.le_refl _ | (simp; omega) | (simp; done)) _ | refine Below.on ?_ (by assumption)))) o5, ⟨F2, by rw [HT.out, instM_snoc]; exact s5, fun b hb => (f5 b hb).elim (HFF.out b) (fun h => .inr (by simp at h; omega))⟩, HPX.out _ _ (by (repeat (first | exact Below.refl _ _ | assumption | refine Below.drew ?_ | refine Below.al ?_ _ | refine Below.setCell ?_ (by first | exact Nat.le_refl _ | (simp; omega) | (simp; done)) _ | refine Below.on ?_ (by assumption)))) q5⟩⟩
      ·obtain rfl : i = ws.length := by omega
       go_wp2_with fail
       go_ret
       obtain ⟨ho, ⟨F', hF', hFF⟩, hpt⟩ := HI.out; rw [List.take_of_length_le (Nat.le_refl _)] at hF'; refine ⟨by rw [HE.out]; rfl, F', ?_, fun b hb => (hFF b hb).imp id (fun h => Nat.le_trans H0.out.2.2.1.size h), (Onl.of_below H0.out.2.2.1).trans ho, (Part.below H0.out.2.2.1).trans hpt⟩; unfold instR; rw [if_pos HE.out]; exact hF'
open Go.RowKit Go.Sort Go.Shelf
attribute [local go_sem] Oper.semAt_some
theorem not_ixt {t : TypeId} (h : (t == 249 || t == 25 || t == 75) = false) : ¬ IxT t := by
 simp only [Bool.or_eq_false_iff, beq_eq_false_iff_ne] at h; rintro (e | e | e)
 ·exact h.1.1 e
 ·exact h.1.2 e
 ·exact h.2 e
theorem row_not {W : World} {base size k : Nat} {e : TypeId} {v : Value} {xs : List Value} (hr : W.ownsRow base e size v k xs) (he : ¬ IxT e) {b : Nat} {cs : Array Value} {t : TypeId} {z : Nat × Nat} (ht : IxT t) (hb : W.heap[b]? = some (.cells cs t z)) : some b ≠ v.ownBlock := by
 rcases hr.2 with ⟨rfl, _⟩ | ⟨g, cap, cur, rfl, _, hgb, _⟩
 ·simp [Value.ownBlock]
 ·intro e'; obtain rfl : b = g := by simpa [Value.ownBlock] using e'
  rw [hb] at hgb; cases hgb
  exact he ht
theorem kp_appended {W w1 : World} {n₀ B : Nat} {t e : TypeId} {size : Nat} {v v' : Value} {k : Nat} {xs : List Value} {tmp : Obj}
  (hv : Boxed W B t v) (hrow : W.ownsRow n₀ e size v k xs) (hgrow : (W.alloc tmp).grownBy w1 v.ownBlock) (ht : ¬ IxT t) (he : ¬ IxT e) : Kp W (w1.setCell ⟨B, 0, none⟩ v') := by
 refine ⟨Nat.le_trans (Nat.le_trans (by simp) hgrow.size) (by simp [World.setCell]), fun b cs ty z hty hb => ?_⟩; have hlt := (Array.getElem?_eq_some_iff.1 hb).1; have hne : b ≠ B := fun e' => by subst e'; rw [show W.heap[b]? = _ from hv] at hb; cases hb; exact ht hty
 refine (Below.heap_setCell _ _ _ _ hne).trans ((hgrow.block b (by simp; omega) (row_not hrow he hty hb)).trans ((Below.heap_alloc W tmp b hlt).trans hb))
theorem boxed_put {W : World} {B D : Nat} {t : TypeId} {v : Value} {o : Obj} (h : Boxed W B t v) (hD : W.heap[D]? = some o) (ho : o.isCells = false) (o' : Obj) : Boxed (W.putObj D o') B t v :=
 h.kept (grownBy_putObj' W D o') (fun e => by
  have e2 : B = D := by simpa using e
  subst e2; rw [show W.heap[B]? = _ from h] at hD; cases hD; cases ho)
open Go.RowKit Go.Sort Go.Shelf
attribute [local go_sem] Oper.semAt_some
open Go.RowKit Go.Sort Go.Shelf
def rdE (M : Mst) (mk : Sp) (lo hi : ByteArray) (t : Sp) : Int := if t.lt mk then 90 else if 512 < (readM M lo hi t).length then 142 else 0
def rdL (M : Mst) (mk : Sp) (lo hi : ByteArray) (t : Sp) : Prs := if rdE M mk lo hi t = 0 then readM M lo hi t else []
def rdOf (l : List En) (t : Sp) : Prs := readAll (abs l) t
theorem rdOf_snoc (l : List En) (e : En) (t : Sp) : rdOf (l ++ [e]) t = rdOf l t ++ ((valAt e.2.vs t).map fun x => (e.1, x)).toList := by
 unfold rdOf readAll abs; rw [List.map_append, List.filterMap_append]; cases h : valAt e.2.vs t <;> simp [h]
theorem rdOf_some {l : List En} {e : En} {t : Sp} {x : ByteArray} (h : valAt e.2.vs t = some x) : rdOf (l ++ [e]) t = rdOf l t ++ [(e.1, x)] := by rw [rdOf_snoc, h]; rfl
theorem rdOf_none {l : List En} {e : En} {t : Sp} (h : valAt e.2.vs t = none) : rdOf (l ++ [e]) t = rdOf l t := by rw [rdOf_snoc, h]; simp
theorem rdOf_range (m : List En) (lo hi : ByteArray) (t : Sp) : rdOf (rangeX m lo hi) t = readM (abs m) lo hi t := by unfold rdOf readM; rw [abs_range]
theorem rdOf_prefix {l m : List En} (h : l <+: m) (t : Sp) : (rdOf l t).length ≤ (rdOf m t).length := by
 obtain ⟨r, rfl⟩ := h; unfold rdOf readAll abs; rw [List.map_append, List.filterMap_append, List.length_append]; omega
theorem below_keepsFrom {W W' : World} (B : Nat) (h : Below W.heap.size W W') : KeepsFrom B W W' :=
 ⟨h.size, fun k o _ hk _ => (h.block k (Array.getElem?_eq_some_iff.1 hk).1).trans hk⟩
theorem own_box {W : World} {n₀ B : Nat} {t e : TypeId} {size k : Nat} {v u u' : Value} {xs : List Value} (h : W.ownsRow n₀ e size v k xs) (hb : Boxed W B t u) (hte : t ≠ e) : (W.setCell ⟨B, 0, none⟩ u').ownsRow n₀ e size v k xs :=
 h.kept (grownBy_setCell' W B u') (.inr (hb.not_row hte h).symm)
theorem flatV_drop (k : ByteArray) : ∀ (vs : List Ver) (n : Nat), flatV k (vs.drop n) = (flatV k vs).drop (n * 6)
 | vs, 0 => by simp
 | [], n + 1 => by simp [flatV]
 | v :: vs, n + 1 => by
  rw [List.drop_succ_cons, flatV_drop k vs n]; show _ = ([Value.string k, .int .u64 v.s.a, .int .u32 v.s.b, .int .u32 v.s.c, .bool v.del, .string v.val] ++ flatV k vs).drop ((n + 1) * 6)
  rw [List.drop_append]; have e : (n + 1) * 6 - [Value.string k, .int .u64 v.s.a, .int .u32 v.s.b, .int .u32 v.s.c, .bool v.del, .string v.val].length = n * 6 := by simp; omega
  have h1 : List.drop ((n + 1) * 6) [Value.string k, .int .u64 v.s.a, .int .u32 v.s.b, .int .u32 v.s.c, .bool v.del, .string v.val] = [] := List.drop_of_length_le (by simp only [List.length_cons, List.length_nil]; omega); rw [e, h1, List.nil_append]
theorem flatV_one (k : ByteArray) (vs : List Ver) : ∀ u ∈ flatV k vs, u.oneCell' = true := fun u hu => by
 obtain ⟨v, _, hv⟩ := List.mem_flatMap.1 hu; simp at hv; rcases hv with rfl | rfl | rfl | rfl | rfl | rfl <;> rfl
theorem Row.news {w : World} {k : ByteArray} {h : Hd} (r : Row w k h) (n : Nat) : ∀ j u, (flatV k (h.vs.drop n))[j]? = some u → w.cell? ((⟨h.g, n * 6, none⟩ : Addr).add j) = some u := fun j u hj => by
 have hadd : (⟨h.g, n * 6, none⟩ : Addr).add j = ⟨h.g, n * 6 + j, none⟩ := by
  unfold Addr.add; split
  ·rename_i h0; rw [h0, Nat.add_zero]
  ·rfl
 rw [flatV_drop, List.getElem?_drop] at hj; have hl := flatV_len k h.vs; have := (List.getElem?_eq_some_iff.1 hj).1; rw [hadd, r.own.cellAt _ (by rw [← r.len]; omega)]; exact hj
theorem chain_nil (a : Addr) (q c : Nat) (w : World) : (binOp .eql 167 (.slice (some a) q c) (.slice none 0 0)).run Tryz.prog w = .ok (.bool false) w := by
 kernel_rfl
set_option maxRecDepth 8000 in
theorem clone_is {w : World} {k : ByteArray} {h : Hd} {n : Nat} (r : Row w k h) (hn : n < h.n) (hb : (h.n + 1) * 64 ≤ 140737488355328) :
  Calls Tryz.prog 189 #[.slice (some ⟨h.g, n * 6, none⟩) (h.n - n) (h.cap - n)] w fun e w' => ∃ hd : Hd, e = .returned (.slice (some ⟨hd.g, 0, none⟩) hd.n hd.cap) ∧ Row w' k hd ∧ hd.vs = h.vs.drop n ∧ w.heap.size ≤ hd.g ∧ Below w.heap.size w w' := by
 obtain ⟨i0, hi, hz0, hz1, hz2⟩ := info_ofV infoVr; have hba : Below w.heap.size w (w.alloc (.cells #[] 97)) := Below.al (Below.refl _ _) _; have HO : Hid ((w.alloc (.cells #[] 97)).ownsRow 0 97 6 (.slice (some ⟨w.heap.size, 0, none⟩) 0 0) 0 []) := World.ownsRow_made w #[] 0 (Nat.zero_le _) (Nat.zero_le _) rfl; have HN := hid ((r.later hba).news n); have hlen : (flatV k (h.vs.drop n)).length = (h.n - n) * 6 := by rw [flatV_len, List.length_drop, r.len]
 have HL := hid hlen; have HD : Hid ((h.vs.drop n).length = h.n - n) := by show _ = _; rw [List.length_drop, r.len]
 have hmax : 0 + (h.n - n) ≤ maxLen := by unfold maxLen; omega
 have hbb : (0 + (h.n - n)) * 56 ≤ 140737488355328 := by omega
 obtain ⟨q, hq⟩ : ∃ q, q = h.n - n := ⟨_, rfl⟩; have hq0 : 0 < q := by omega
 obtain ⟨c, hc⟩ : ∃ c, c = h.cap - n := ⟨_, rfl⟩; rw [← hq] at HL HD hmax hbb ⊢; rw [← hc]; have HBA := hid hba; have HM := hid (And.intro hmax hbb); have hnil := chain_nil ⟨h.g, n * 6, none⟩ q c w; clear r hn hb hq hc hlen hmax hbb hba; go_enter Tryz.func189, Tryz.ntmps189
 go_wp2_with (at_builtin; refine wpList_append_lies _ rfl _ _ 167 rfl 0 97 i0 (vv ⟨#[]⟩ ⟨⟨0, 0, 0⟩, false, ⟨#[]⟩⟩) 6 56 Tryz.underlying167 hi hz0 hz1 hz2 rfl (by decide) (.slice (some ⟨w.heap.size, 0, none⟩) 0 0) 0 [] rfl HO.out ⟨h.g, n * 6, none⟩ q c (flatV k (h.vs.drop n)) rfl HL.out HN.out (flatV_one k _) hq0 HM.out.1 HM.out.2 (Nat.zero_le _) _ rfl ?_; intro g cap' w3 hown hgrow hat hlt3)
 go_ret
 refine ⟨⟨g, q, cap', h.vs.drop n⟩, by simp, ⟨by simpa using hown, HD.out⟩, rfl, ?_, HBA.out.trans ((grown_onl hgrow).below (fun b hb => ?_) (by simp))⟩
 ·rcases hat with e | e
  ·have : w.heap.size = g := by simpa [Value.ownBlock] using e
   show w.heap.size ≤ g
   omega
  ·show w.heap.size ≤ g
   rw [e]; simp
 ·have : w.heap.size = b := by simpa [Value.ownBlock] using hb
  omega
theorem without_is' {w : World} {k : ByteArray} {h : Hd} {n : Nat} (r : Row w k h) (hn : n < h.n) (hb : (h.n + 1) * 64 ≤ 140737488355328) :
  Calls Tryz.prog 138 #[.slice (some ⟨h.g, 0, none⟩) h.n h.cap, .int .i64 n] w fun e w' => ∃ hd : Hd, e = .returned (.slice (some ⟨hd.g, 0, none⟩) hd.n hd.cap) ∧ Row w' k hd ∧ hd.vs = h.vs.drop n ∧ w.heap.size ≤ hd.g ∧ Below w.heap.size w w' := by
 have CL := hid (clone_is r hn hb); have hcap : h.n ≤ h.cap ∧ h.cap ≤ maxLen := by
  obtain ⟨_, ⟨e, _⟩ | ⟨g, cap, cur, e, _, _, h1, h2, _⟩⟩ := r.own
  ·cases e
  ·injection e with _ _ e3; rw [e3]; exact ⟨h1, h2⟩
 obtain ⟨g, q, cap, vs⟩ := h; simp only at CL hn hb hcap ⊢; have hc1 := hcap.1; have hc2 : cap ≤ 9223372036854775807 := by have := hcap.2; unfold maxLen at this; omega
 have hne : (cap = n) = False := by simp; omega
 have hne2 : (cap - n = 0) = False := by simp; omega
 clear r hcap; go_enter Tryz.func138, Tryz.ntmps138
 go_wp2_with (go_at_call 189; refine CL.out.mono ?_; rintro e w1 ⟨hd, rfl, h1, h2, h3, h4⟩)
 go_ret
 exact ⟨hd, rfl, h1, h2, h3, h4⟩
end Go.Proofs.YtneojeidpfjpbaaGreatDoor.Vs
