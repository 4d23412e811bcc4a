import Derived.Test.YtofpaldolcnmiaaGreatB49
set_option linter.unusedVariables false
set_option maxHeartbeats 4000000
namespace Go.Proofs.YtofpaldolcnmiaaGreat.Ig
open Go.RowKit Go.Sort Ys
theorem shW_yes {V : List Vs.Kv} {x : Lk.Hd} {j : Nat} (hj : j < x.ws.length) (h : aboveB V (nthW x.ws j).key (atHd x) = true) : shW V x = true := by
 unfold shW; rw [List.any_eq_true]; exact ⟨_, Lk.nthW_mem hj, h⟩
theorem shW_no {V : List Vs.Kv} {x : Lk.Hd} (h : ∀ j, j < x.ws.length → aboveB V (nthW x.ws j).key (atHd x) = false) : shW V x = false := by
 unfold shW; rw [List.any_eq_false]; intro y hy; obtain ⟨j, hj, rfl⟩ := Lk.nthWx hy; rw [h j hj]; decide
set_option maxRecDepth 8000 in
theorem soundHolds_is {w : World} {B q : Nat} {n top : Int} {wm : Vs.Sp} {U : List Lk.Hv} {E : List Lg.En} {V : List Vs.Kv} (h : Dst w B q n top wm U E V) (hl : U.length ≤ 1099511627776) (hr : ∀ u ∈ U, u.h.rs.length ≤ 1099511627776 ∧ u.h.ws.length ≤ 1099511627776) (hlv : V.length ≤ 1099511627776) (hrg : ∀ u ∈ U, 0 ≤ u.h.id.2 ∧ 0 ≤ u.h.w ∧ u.h.w ≤ 18446744073709551615) :
  Calls Tryz.prog 52 #[.pointer (some ⟨q, 0, none⟩)] w fun e w' => e = .returned (.bool ((List.range U.length).all (shB top U V))) ∧ Below w.heap.size w w' := by
 have AB : Hid (∀ W (k : ByteArray) (t : Vs.Sp), Below w.heap.size w W → Calls Tryz.prog 104 #[.pointer (some ⟨q, 0, none⟩), .string k, .agg #[.int .u64 t.a, .int .u32 t.b, .int .u32 t.c], .bool true] W fun e w' => e = .returned (.bool (aboveB V k t)) ∧ Below W.heap.size W w') := fun W k t hb => above_is (h.later hb) hlv
 have hok : ∀ u ∈ U, u.ok w := fun u hu => (h.fr u hu).ok (by have := (hr u hu).1; omega) (by have := (hr u hu).2; omega)
 obtain ⟨⟨aH, aE, aV, cH, cE, cV, kb, hO, -, -⟩, -, hq⟩ := h; obtain ⟨m, hm⟩ : ∃ m, m = U.length := ⟨_, rfl⟩; have c1 : w.cell? ⟨q, 1, none⟩ = some (.int .u64 top) := Vs.cob (o := 1) kb rfl; have c5 : w.cell? ⟨q, 5, none⟩ = some (.slice aH m cH) := by rw [hm]; exact Vs.cob (o := 5) kb rfl
 rw [← hm] at hO; have C1 := hid c1; have C5 := hid c5; have OH := hid hO; have HOK := hid hok; have HRG := hid hrg; have HR := hid hr; have HL := hid hl; have HM := hid hm; clear kb hO hl hm hok hr hrg hlv; go_enter Tryz.func52, Tryz.ntmps52
 go_wp2_with fail
 go_loopg [3] m (fun g s3 wr => ∃ i : Nat, i ≤ m ∧ g = m - i ∧ s3 = .int .i64 i ∧ Hid (∀ j, j < i → shB top U V j = true) ∧ Hid (Below w.heap.size w wr))
 case atStart => exact ⟨0, by omega, by omega, rfl, fun j hj => absurd hj (by omega), Below.refl _ _⟩
 case round =>
  obtain ⟨i, hi1, rfl, rfl, HA, HB⟩ := hrel; have b5 := cell_later HB.out c5; have hmb : m ≤ 1099511627776 := by rw [HM.out]; exact HL.out
  by_cases hlt : i < m
  ·have hi2 : (i : Int) < (m : Int) := by omega
   obtain ⟨g, eg, hc⟩ := Lk.ownH_at OH.out HM.out.symm hlt; obtain ⟨x, hx⟩ : ∃ x, x = Lk.nthH U i := ⟨_, rfl⟩; have hxm : x ∈ U := by rw [hx]; exact Lk.nthH_mem (by rw [← HM.out]; exact hlt)
   rw [← hx] at hc; have HX := hid hx; have HXM := hid hxm; have hwl : x.h.ws.length ≤ 1099511627776 := (HR.out x hxm).2; have hrl : x.h.rs.length ≤ 1099511627776 := (HR.out x hxm).1; have HOX := hid (HOK.out x hxm); subst eg; have v0 : wr.cell? ⟨g, i * 8, none⟩ = some (.int .u32 x.h.id.1) := cell_later HB.out (hc 0 _ rfl); have v1 : wr.cell? ⟨g, i * 8 + 1, none⟩ = some (.int .u32 x.h.id.2) := cell_later HB.out (hc 1 _ rfl); have v2 : wr.cell? ⟨g, i * 8 + 2, none⟩ = some (.int .u32 x.h.home) := cell_later HB.out (hc 2 _ rfl); have v3 : wr.cell? ⟨g, i * 8 + 3, none⟩ = some (.int .u64 x.h.w) := cell_later HB.out (hc 3 _ rfl); have v4 : wr.cell? ⟨g, i * 8 + 4, none⟩ = some (.int .u32 x.h.l) := cell_later HB.out (hc 4 _ rfl); have v5 : wr.cell? ⟨g, i * 8 + 5, none⟩ = some (.int .u32 x.h.n) := cell_later HB.out (hc 5 _ rfl)
   have v6 : wr.cell? ⟨g, i * 8 + 6, none⟩ = some (.slice x.ra x.h.rs.length x.rc) := cell_later HB.out (hc 6 _ rfl); have v7 : wr.cell? ⟨g, i * 8 + 7, none⟩ = some (.slice x.wa x.h.ws.length x.wc) := cell_later HB.out (hc 7 _ rfl); obtain ⟨w6, hw6⟩ : ∃ w6, w6 = (wr.alloc (.cells #[.int .u32 x.h.id.1, .int .u32 x.h.id.2, .int .u32 x.h.home, .int .u64 x.h.w, .int .u32 x.h.l, .int .u32 x.h.n, .slice x.ra x.h.rs.length x.rc, .slice x.wa x.h.ws.length x.wc] 100)).alloc (.cells #[.int .i64 2, .int .u64 0, .int .u32 x.h.id.1, .int .u32 x.h.id.2, .int .u32 x.h.home, .int .i64 0, .int .u64 x.h.w, .int .u32 x.h.l, .int .u32 x.h.n, .slice x.ra x.h.rs.length x.rc, .slice x.wa x.h.ws.length x.wc, .string ⟨#[]⟩] 40) := ⟨_, rfl⟩; have hb6 : Below wr.heap.size wr w6 := by rw [hw6]; exact Below.al (Below.al (Below.refl _ _) _) _
   have k6 : w6.heap[wr.heap.size]? = some (.cells #[.int .u32 x.h.id.1, .int .u32 x.h.id.2, .int .u32 x.h.home, .int .u64 x.h.w, .int .u32 x.h.l, .int .u32 x.h.n, .slice x.ra x.h.rs.length x.rc, .slice x.wa x.h.ws.length x.wc] 100 (0, 0)) := by
    rw [hw6, (MapKept.heap_alloc _ _).2 _ (by simp)]; exact (MapKept.heap_alloc _ _).1
   obtain ⟨er, her⟩ : ∃ er, (rgP x.h).err = er := ⟨_, rfl⟩; have HER := hid her; have hb6w := Below.on HB.out hb6; have VA : Hid (∀ W, Below w6.heap.size w6 W → Calls Tryz.prog 103 #[.agg #[.int .i64 2, .int .u64 0, .int .u32 x.h.id.1, .int .u32 x.h.id.2, .int .u32 x.h.home, .int .i64 0, .int .u64 x.h.w, .int .u32 x.h.l, .int .u32 x.h.n, .slice x.ra x.h.rs.length x.rc, .slice x.wa x.h.ws.length x.wc, .string ⟨#[]⟩]] W fun e w' => e = .returned (.int .i64 er) ∧ Below W.heap.size W w') := hid fun W hW => by
    rw [← her, ← rgH_err]; have ho := HOX.out.later (Below.on hb6w hW); exact refValid_is (m := rgH x) ⟨ho.r, ho.w, Nat.le_trans hrl (by decide), Nat.le_trans hwl (by decide), HRG.out x hxm⟩
   have HB6 := hid hb6w; have K6 := hid k6; clear hc c1 c5 hx hxm her hb6w; go_wp2_with fail
   rw [← hw6]; clear hw6 k6 hb6 v0 v1 v2 v3 v4 v5 v6 v7 b5; refine (VA.out _ (Below.refl _ _)).mono ?_; rintro e w7 ⟨rfl, hb7⟩; have HB7 := hid (Below.on HB6.out hb7); have K7 := hid ((hb7.block _ (Array.getElem?_eq_some_iff.1 K6.out).1).trans K6.out); clear hb7 VA; go_wp2_with fail
   obtain ⟨bd, hbd⟩ : ∃ bd, shA top x.h = bd := ⟨_, rfl⟩; have HBD := hid hbd; clear hbd; have t3 := cell_regrown (show w7.cell? ⟨wr.heap.size, 3, none⟩ = some (.int .u64 x.h.w) from Vs.cob (o := 3) K7.out rfl); have z1 := cell_regrown (cell_later HB7.out C1.out); go_cut [50] (fun s50 wz => s50 = .bool bd ∧ Hid (Below w7.heap.size w7 wz))
   case first =>
    by_cases g1 : er = 0
    ·have e1 : (er != 0) = false := by simp [g1]
     by_cases g3 : x.h.w < top
     ·have e3 : ¬ top ≤ x.h.w := by omega
      have HV : Hid (bd = false) := hid (by rw [← HBD.out]; unfold shA; rw [HER.out]; simp [*]); clear HBD
      (try clear g1)
      (try clear g3)
      refine wp_region_quiet_below (by kernel_rfl) (by kernel_rfl) ?_; repeat (go_big_quiet_step (fail))
      refine wpQuiet_nil ?_; intro wn hwn; replace hwn := bor hwn; go_wp2_with fail
      go_meet
      exact ⟨by rw [HV.out], hid hwn⟩
     ·have e3 : top ≤ x.h.w := by omega
      have HV : Hid (bd = true) := hid (by rw [← HBD.out]; unfold shA; rw [HER.out]; simp [*]); clear HBD
      (try clear g1)
      (try clear g3)
      refine wp_region_quiet_below (by kernel_rfl) (by kernel_rfl) ?_; repeat (go_big_quiet_step (fail))
      refine wpQuiet_nil ?_; intro wn hwn; replace hwn := bor hwn; go_wp2_with fail
      go_meet
      exact ⟨by rw [HV.out], hid hwn⟩
    ·have e1 : (er != 0) = true := by simp [g1]
     have HV : Hid (bd = true) := hid (by rw [← HBD.out]; unfold shA; rw [HER.out]; simp [*]); clear HBD
     (try clear g1)
     (try clear g3)
     refine wp_region_quiet_below (by kernel_rfl) (by kernel_rfl) ?_; repeat (go_big_quiet_step (fail))
     refine wpQuiet_nil ?_; intro wn hwn; replace hwn := bor hwn; go_wp2_with fail
     go_meet
     exact ⟨by rw [HV.out], hid hwn⟩
   case rest =>
    obtain ⟨rfl, HC⟩ := hcut; have HBC := hid (Below.on HB7.out HC.out); have KC := hid ((HC.out.block _ (Array.getElem?_eq_some_iff.1 K7.out).1).trans K7.out); clear t3 z1; cases bd with
    | true =>
     have hno : shB top U V i = false := by unfold shB; rw [← HX.out, HBD.out]; rfl
     have HF := hid (all_no (n := U.length) (by rw [← HM.out]; exact hlt) hno); clear hno; go_wp2_with fail
     go_ret
     exact ⟨ret_b HF.out.symm, HBC.out⟩
    | false =>
     go_wp2_with fail
     go_loopg [7] x.h.ws.length (fun g s7 wy => ∃ k : Nat, k ≤ x.h.ws.length ∧ g = x.h.ws.length - k ∧ s7 = .int .i64 k ∧ Hid (∀ j, j < k → aboveB V (nthW x.h.ws j).key (atHd x.h) = false) ∧ Hid (Below wc.heap.size wc wy))
     case atStart => exact ⟨0, by omega, by omega, rfl, fun j hj => absurd hj (by omega), Below.refl _ _⟩
     case round =>
      obtain ⟨k, hk1, rfl, rfl, HW, HY⟩ := hrel; have KY := hid ((HY.out.block _ (Array.getElem?_eq_some_iff.1 KC.out).1).trans KC.out); have HBY := hid (Below.on HBC.out HY.out); have y7 : wr.cell? ⟨_, 7, none⟩ = some (.slice x.wa x.h.ws.length x.wc) := Vs.cob (o := 7) KY.out rfl; by_cases hkl : k < x.h.ws.length
      ·have hk2 : (k : Int) < (x.h.ws.length : Int) := by omega
       obtain ⟨b, off, ew, d0, -, -⟩ := (HOX.out.later HBY.out).w k hkl; rw [ew] at y7; obtain ⟨ky, hky⟩ : ∃ ky, ky = (nthW x.h.ws k).key := ⟨_, rfl⟩; rw [← hky] at d0; have HKY := hid hky; obtain ⟨ab, hab⟩ : ∃ ab, aboveB V ky (atHd x.h) = ab := ⟨_, rfl⟩; have HAB := hid hab; have CA : Hid (∀ W, Below wr.heap.size wr W → Calls Tryz.prog 104 #[.pointer (some ⟨q, 0, none⟩), .string ky, .agg #[.int .u64 x.h.w, .int .u32 x.h.l, .int .u32 x.h.n], .bool true] W fun e w' => e = .returned (.bool ab) ∧ Below W.heap.size W w') := hid fun W hW => by rw [← hab]; exact AB.out W ky (atHd x.h) (Below.on HBY.out hW)
       have r0 := cell_regrown d0; have r3 := cell_regrown (Vs.cob (o := 3) KY.out rfl); have r4 := cell_regrown (Vs.cob (o := 4) KY.out rfl); have r5 := cell_regrown (Vs.cob (o := 5) KY.out rfl); have r7 := cell_regrown y7; clear hky hab d0 ew; go_wp2_with fail
       clear y7; cases ab with
       | true =>
        have hno : shB top U V i = false := by unfold shB; rw [← HX.out, shW_yes hkl (by rw [← HKY.out]; exact HAB.out)]; simp
        have HF := hid (all_no (n := U.length) (by rw [← HM.out]; exact hlt) hno); clear hno; refine wp_region_quiet_below (by kernel_rfl) (by kernel_rfl) ?_; repeat (go_big_quiet_step ((go_at_call 104; exact Calls.regrown_of (CA.out _ (bor ⟨⟨_, _⟩, rfl⟩)))))
        refine wpQuiet_nil ?_; intro wn hwn; replace hwn := bor hwn; have HBN := hid (Below.on HBY.out hwn); go_wp2_with fail
        go_ret
        exact ⟨ret_b HF.out.symm, HBN.out⟩
       | false =>
        have HW2 : Hid (∀ j, j < k + 1 → aboveB V (nthW x.h.ws j).key (atHd x.h) = false) := hid fun j hj => by
         rcases Nat.lt_or_ge j k with h9 | h9
         ·exact HW.out j h9
         ·rw [show j = k by omega, ← HKY.out]; exact HAB.out
        refine wp_region_quiet_below (by kernel_rfl) (by kernel_rfl) ?_; repeat (go_big_quiet_step ((go_at_call 104; exact Calls.regrown_of (CA.out _ (bor ⟨⟨_, _⟩, rfl⟩)))))
        refine wpQuiet_nil ?_; intro wn hwn; replace hwn := bor hwn; have HYN := hid (Below.on HY.out hwn); go_wp2_with fail
        go_roundg (x.h.ws.length - (k + 1))
        case measure => omega
        case rel => exact ⟨k + 1, by omega, rfl, by go_num, HW2, HYN.out⟩
      ·have hi9 : k = x.h.ws.length := by omega
       subst hi9; have HSW : Hid (shW V x.h = false) := hid (shW_no HW.out); clear HW hkl hk1; go_wp2_with fail
       clear y7; go_loopg [8] i (fun g s8 wv => ∃ k : Nat, k ≤ i ∧ g = i - k ∧ s8 = .int .i64 k ∧ Hid (∀ j, j < k → shP U x.h j = true) ∧ Hid (Below wc.heap.size wc wv))
       case atStart => exact ⟨0, by omega, by omega, rfl, fun j hj => absurd hj (by omega), HY⟩
       case round =>
        clear KY HBY HY; obtain ⟨k, hk1, rfl, rfl, HW, HY⟩ := hrel; have KY := hid ((HY.out.block _ (Array.getElem?_eq_some_iff.1 KC.out).1).trans KC.out); have HBY := hid (Below.on HBC.out HY.out); by_cases hkl : k < i
        ·have hk2 : (k : Int) < (i : Int) := by omega
         have hk3 : k < m := by omega
         have hk4 : (k : Int) < (m : Int) := by omega
         obtain ⟨g', eg, hc⟩ := Lk.ownH_at OH.out HM.out.symm hk3; injection eg with eg
         injection eg with eg
         subst eg; obtain ⟨y, hy⟩ : ∃ y, y = Lk.nthH U k := ⟨_, rfl⟩; have hym : y ∈ U := by rw [hy]; exact Lk.nthH_mem (by rw [← HM.out]; exact hk3)
         rw [← hy] at hc; have HYE := hid hy; have HCC := hid hc; have HOY := hid (HOK.out y hym); obtain ⟨u1, hu1⟩ : ∃ u1, Lk.ltI y.h.id x.h.id = u1 := ⟨_, rfl⟩; obtain ⟨u2, hu2⟩ : ∃ u2, Lk.meetB x.h.rs x.h.ws y.h = u2 := ⟨_, rfl⟩; have HSP : Hid (shP U x.h k = (u1 && !u2)) := hid (by unfold shP; rw [← hy, hu1, hu2]); have EA : Hid (∀ W, Calls Tryz.prog 105 #[.agg #[.int .u32 y.h.id.1, .int .u32 y.h.id.2], .agg #[.int .u32 x.h.id.1, .int .u32 x.h.id.2]] W fun e w' => e = .returned (.bool u1) ∧ Below W.heap.size W w') := hid fun W => Lk.before_is hu1 W
         have MT : Hid (∀ W, Below wr.heap.size wr W → Calls Tryz.prog 106 #[.slice x.ra x.h.rs.length x.rc, .slice x.wa x.h.ws.length x.wc, .agg #[.int .u32 y.h.id.1, .int .u32 y.h.id.2, .int .u32 y.h.home, .int .u64 y.h.w, .int .u32 y.h.l, .int .u32 y.h.n, .slice y.ra y.h.rs.length y.rc, .slice y.wa y.h.ws.length y.wc]] W fun e w' => e = .returned (.bool u2) ∧ Below W.heap.size W w') := hid fun W hW => by
          have hbW := Below.on HBY.out hW; exact Lk.refmeet_is hu2 (HOX.out.later hbW).r (HOX.out.later hbW).w (HOY.out.later hbW) (Nat.le_trans hrl (by decide)) (Nat.le_trans hwl (by decide))
         have s0 := cell_regrown (show wr.cell? ⟨g, k * 8, none⟩ = some (.int .u32 y.h.id.1) from cell_later HBY.out (hc 0 _ rfl)); have s1 := cell_regrown (show wr.cell? ⟨g, k * 8 + 1, none⟩ = some (.int .u32 y.h.id.2) from cell_later HBY.out (hc 1 _ rfl)); have x0 := cell_regrown (Vs.cob (o := 0) KY.out rfl); have x1 := cell_regrown (Vs.cob (o := 1) KY.out rfl); have r5 := cell_regrown (cell_later HBY.out C5.out); clear hy hu1 hu2 hc hym; go_wp2_with fail
         refine wp_region_quiet_below (by kernel_rfl) (by kernel_rfl) ?_; repeat (go_big_quiet_step ((go_at_call 105; exact Calls.regrown_of (EA.out _))))
         refine wpQuiet_nil ?_; intro wn hwn; replace hwn := bor hwn; have HYN := hid (Below.on HY.out hwn); have HBN := hid (Below.on HBY.out hwn); have KN := hid ((hwn.block _ (Array.getElem?_eq_some_iff.1 KY.out).1).trans KY.out); have HWN := hid hwn; clear s0 s1 x0 x1 r5 hwn EA; cases u1 with
         | false =>
          have hno : shB top U V i = false := by
           unfold shB; rw [← HX.out, all_no (f := shP U x.h) hkl HSP.out]; simp
          have HF := hid (all_no (n := U.length) (by rw [← HM.out]; exact hlt) hno); clear hno; go_wp2_with fail
          refine wp_region_quiet_below (by kernel_rfl) (by kernel_rfl) ?_; repeat (go_big_quiet_step (fail))
          refine wpQuiet_nil ?_; intro wm hwm; replace hwm := bor hwm; have HBM := hid (Below.on HBN.out hwm); go_wp2_with fail
          go_ret
          exact ⟨ret_b HF.out.symm, HBM.out⟩
         | true =>
          have r5 := cell_regrown (cell_later HBN.out C5.out); have x6 := cell_regrown (Vs.cob (o := 6) KN.out rfl); have x7 := cell_regrown (Vs.cob (o := 7) KN.out rfl); have s0 := cell_regrown (show wn.cell? ⟨g, k * 8, none⟩ = some (.int .u32 y.h.id.1) from cell_later HBN.out (HCC.out 0 _ rfl)); have s1 := cell_regrown (show wn.cell? ⟨g, k * 8 + 1, none⟩ = some (.int .u32 y.h.id.2) from cell_later HBN.out (HCC.out 1 _ rfl)); have s2 := cell_regrown (show wn.cell? ⟨g, k * 8 + 2, none⟩ = some (.int .u32 y.h.home) from cell_later HBN.out (HCC.out 2 _ rfl)); have s3 := cell_regrown (show wn.cell? ⟨g, k * 8 + 3, none⟩ = some (.int .u64 y.h.w) from cell_later HBN.out (HCC.out 3 _ rfl)); have s4 := cell_regrown (show wn.cell? ⟨g, k * 8 + 4, none⟩ = some (.int .u32 y.h.l) from cell_later HBN.out (HCC.out 4 _ rfl))
          have s5 := cell_regrown (show wn.cell? ⟨g, k * 8 + 5, none⟩ = some (.int .u32 y.h.n) from cell_later HBN.out (HCC.out 5 _ rfl)); have s6 := cell_regrown (show wn.cell? ⟨g, k * 8 + 6, none⟩ = some (.slice y.ra y.h.rs.length y.rc) from cell_later HBN.out (HCC.out 6 _ rfl)); have s7 := cell_regrown (show wn.cell? ⟨g, k * 8 + 7, none⟩ = some (.slice y.wa y.h.ws.length y.wc) from cell_later HBN.out (HCC.out 7 _ rfl)); have MN : Hid (∀ W, Below wn.heap.size wn W → Calls Tryz.prog 106 #[.slice x.ra x.h.rs.length x.rc, .slice x.wa x.h.ws.length x.wc, .agg #[.int .u32 y.h.id.1, .int .u32 y.h.id.2, .int .u32 y.h.home, .int .u64 y.h.w, .int .u32 y.h.l, .int .u32 y.h.n, .slice y.ra y.h.rs.length y.rc, .slice y.wa y.h.ws.length y.wc]] W fun e w' => e = .returned (.bool u2) ∧ Below W.heap.size W w') := hid fun W hW => MT.out W (Below.on HWN.out hW)
          clear MT; cases u2 with
          | true =>
           have hno : shB top U V i = false := by
            unfold shB; rw [← HX.out, all_no (f := shP U x.h) hkl HSP.out]; simp
           have HF := hid (all_no (n := U.length) (by rw [← HM.out]; exact hlt) hno); clear hno; go_wp2_with fail
           refine wp_region_quiet_below (by kernel_rfl) (by kernel_rfl) ?_; repeat (go_big_quiet_step ((go_at_call 106; exact Calls.regrown_of (MN.out _ (bor ⟨⟨_, _⟩, rfl⟩)))))
           refine wpQuiet_nil ?_; intro wm hwm; replace hwm := bor hwm; have HBM := hid (Below.on HBN.out hwm); go_wp2_with fail
           go_ret
           exact ⟨ret_b HF.out.symm, HBM.out⟩
          | false =>
           have HW2 : Hid (∀ j, j < k + 1 → shP U x.h j = true) := hid fun j hj => by
            rcases Nat.lt_or_ge j k with h9 | h9
            ·exact HW.out j h9
            ·rw [show j = k by omega]; exact HSP.out
           go_wp2_with fail
           refine wp_region_quiet_below (by kernel_rfl) (by kernel_rfl) ?_; repeat (go_big_quiet_step ((go_at_call 106; exact Calls.regrown_of (MN.out _ (bor ⟨⟨_, _⟩, rfl⟩)))))
           refine wpQuiet_nil ?_; intro wm hwm; replace hwm := bor hwm; have HYM := hid (Below.on HYN.out hwm); go_wp2_with fail
           go_roundg (i - (k + 1))
           case measure => omega
           case rel => exact ⟨k + 1, by omega, rfl, by go_num, HW2, HYM.out⟩
        ·have hi9 : k = i := by omega
         subst hi9; have HS : Hid (shB top U V k = true) := hid (by
          unfold shB; rw [← HX.out, HBD.out, HSW.out, all_yes HW.out]; rfl)
         have HA2 : Hid (∀ j, j < k + 1 → shB top U V j = true) := hid fun j hj => by
          rcases Nat.lt_or_ge j k with h9 | h9
          ·exact HA.out j h9
          ·rw [show j = k by omega]; exact HS.out
         go_wp2_with fail
         go_roundg (m - (k + 1))
         case measure => omega
         case rel => exact ⟨k + 1, by omega, rfl, by go_num, HA2, HBY.out⟩
  ·have hi9 : i = m := by omega
   subst hi9; have HF : Hid ((List.range U.length).all (shB top U V) = true) := hid (all_yes fun k hk => HA.out k (by rw [HM.out]; exact hk)); go_wp2_with fail
   go_ret
   exact ⟨ret_b HF.out.symm, HB.out⟩
end Go.Proofs.YtofpaldolcnmiaaGreat.Ig
