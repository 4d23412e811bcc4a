import Derived.Test.YtofpaldolcnmiaaGreatB45
import Derived.Test.YtofpaldolcnmiaaGreatB47
set_option linter.unusedVariables false
set_option maxHeartbeats 4000000
namespace Go.Proofs.YtofpaldolcnmiaaGreat.Ig
open Go.RowKit Go.Sort Ys
theorem Dst.later {w w' : World} {B q : Nat} {n top : Int} {wm : Vs.Sp} {U : List Lk.Hv} {E : List Lg.En} {V : List Vs.Kv} (h : Dst w B q n top wm U E V) (hb : Below w.heap.size w w') : Dst w' B q n top wm U E V := by
 obtain ⟨⟨aH, aE, aV, cH, cE, cV, kb, hO, hE, hV⟩, hf, hq⟩ := h; refine ⟨⟨aH, aE, aV, cH, cE, cV, (hb.block _ (Array.getElem?_eq_some_iff.1 kb).1).trans kb, owk hO fun g hg => hb.block g (hO.lt g hg).2, owk hE fun g hg => hb.block g (hE.lt g hg).2, owk hV fun g hg => hb.block g (hV.lt g hg).2⟩, fun u hu => ?_, hq⟩; exact ⟨owk (hf u hu).r fun g hg => hb.block g ((hf u hu).r.lt g hg).2, owk (hf u hu).w fun g hg => hb.block g ((hf u hu).w.lt g hg).2⟩
def nE (E : List Lg.En) (i : Nat) : Lg.En := (E[i]?).getD ⟨(0, 0), 0, 0, 0, 0, 0⟩
def sdA (top : Int) (U : List Lk.Hv) (x : Lg.En) : Bool := !decide ((rgE x).err = 0) || (U.any fun u => decide (u.h.id = x.id)) || (decide (x.oc = 1) && !decide (x.w < top))
def sdB (top : Int) (U : List Lk.Hv) (E : List Lg.En) (i : Nat) : Bool := !sdA top U (nE E i) && (decide (i = 0) || Lk.ltI (nE E (i - 1)).id (nE E i).id)
set_option maxRecDepth 8000 in
theorem soundDone_is {w : World} {B q : Nat} {n top : Int} {wm : Vs.Sp} {U : List Lk.Hv} {E : List Lg.En} {V : List Vs.Kv} (h : Dst w B q n top wm U E V) (hl : U.length ≤ 1099511627776) (hr : ∀ u ∈ U, u.h.rs.length ≤ 1099511627776 ∧ u.h.ws.length ≤ 1099511627776) (hle : E.length ≤ 1099511627776) (hre : ∀ e ∈ E, EnR e) :
  Calls Tryz.prog 53 #[.pointer (some ⟨q, 0, none⟩)] w fun e w' => e = .returned (.bool ((List.range E.length).all (sdB top U E))) ∧ Below w.heap.size w w' := by
 have GT : Hid (∀ W (t : Lk.Ix), Below w.heap.size w W → Calls Tryz.prog 107 #[.pointer (some ⟨q, 0, none⟩), .agg #[.int .u32 t.1, .int .u32 t.2]] W fun e w' => (∃ v : Lk.Hv, e = .returned (.tuple #[.agg #[.int .u32 v.h.id.1, .int .u32 v.h.id.2, .int .u32 v.h.home, .int .u64 v.h.w, .int .u32 v.h.l, .int .u32 v.h.n, .slice v.ra v.h.rs.length v.rc, .slice v.wa v.h.ws.length v.wc], .bool (U.any fun u => decide (u.h.id = t))])) ∧ Below W.heap.size W w') := fun W t hb => dget_is (h.later hb) hl hr
 obtain ⟨⟨aH, aE, aV, cH, cE, cV, kb, -, hE, -⟩, -, hq⟩ := h; have RE : Hid (RowG Lg.ecs 7 w aE E) := hid (RowG.of_own Lg.ecs_len (by decide) hE); obtain ⟨m, hm⟩ : ∃ m, m = E.length := ⟨_, rfl⟩; have c1 : w.cell? ⟨q, 1, none⟩ = some (.int .u64 top) := Vs.cob (o := 1) kb rfl; have c6 : w.cell? ⟨q, 6, none⟩ = some (.slice aE m cE) := by rw [hm]; exact Vs.cob (o := 6) kb rfl
 have C1 := hid c1; have C6 := hid c6; have HL := hid hle; have HM := hid hm; have HRE := hid hre; clear kb hE hm hl hr hle hre; go_enter Tryz.func53, Tryz.ntmps53
 go_wp2_with fail
 go_loopg [3] m (fun g s3 wr => ∃ i : Nat, i ≤ m ∧ g = m - i ∧ s3 = .int .i64 i ∧ Hid (∀ j, j < i → sdB top U E j = true) ∧ Hid (Below w.heap.size w wr))
 case atStart => exact ⟨0, by omega, by omega, rfl, fun j hj => absurd hj (by omega), Below.refl _ _⟩
 case round =>
  obtain ⟨i, hi1, rfl, rfl, HA, HB⟩ := hrel; have b6 := cell_later HB.out c6; have hmb : m ≤ 1099511627776 := by rw [HM.out]; exact HL.out
  by_cases hlt : i < m
  ·have hi2 : (i : Int) < (m : Int) := by omega
   have hiE : i < E.length := by rw [← HM.out]; exact hlt
   obtain ⟨x, hx⟩ : ∃ x, x = nE E i := ⟨_, rfl⟩; have hxe : E[i]? = some x := by rw [hx]; simp [nE, hiE]
   have hxm : x ∈ E := List.mem_of_getElem? hxe; obtain ⟨g, off, eg, hc⟩ := (RE.out.later HB.out) i x hxe; have HX := hid hx; have HXR := hid (HRE.out x hxm); subst eg; have v0 : wr.cell? ⟨g, off + i * 7, none⟩ = some (.int .u32 x.id.1) := hc 0 _ rfl; have v1 : wr.cell? ⟨g, off + i * 7 + 1, none⟩ = some (.int .u32 x.id.2) := hc 1 _ rfl; have v2 : wr.cell? ⟨g, off + i * 7 + 2, none⟩ = some (.int .u32 x.home) := hc 2 _ rfl; have v3 : wr.cell? ⟨g, off + i * 7 + 3, none⟩ = some (.int .i64 x.oc) := hc 3 _ rfl; have v4 : wr.cell? ⟨g, off + i * 7 + 4, none⟩ = some (.int .u64 x.w) := hc 4 _ rfl; have v5 : wr.cell? ⟨g, off + i * 7 + 5, none⟩ = some (.int .u32 x.l) := hc 5 _ rfl; have v6 : wr.cell? ⟨g, off + i * 7 + 6, none⟩ = some (.int .u32 x.n) := hc 6 _ rfl
   obtain ⟨w6, hw6⟩ : ∃ w6, w6 = (wr.alloc (.cells #[.int .u32 x.id.1, .int .u32 x.id.2, .int .u32 x.home, .int .i64 x.oc, .int .u64 x.w, .int .u32 x.l, .int .u32 x.n] 104)).alloc (.cells #[.int .i64 3, .int .u64 0, .int .u32 x.id.1, .int .u32 x.id.2, .int .u32 x.home, .int .i64 x.oc, .int .u64 x.w, .int .u32 x.l, .int .u32 x.n, .slice none 0 0, .slice none 0 0, .string ⟨#[]⟩] 40) := ⟨_, rfl⟩; have hb6 : Below wr.heap.size wr w6 := by rw [hw6]; exact Below.al (Below.al (Below.refl _ _) _) _
   have k6 : w6.heap[wr.heap.size]? = some (.cells #[.int .u32 x.id.1, .int .u32 x.id.2, .int .u32 x.home, .int .i64 x.oc, .int .u64 x.w, .int .u32 x.l, .int .u32 x.n] 104 (0, 0)) := by
    rw [hw6, (MapKept.heap_alloc _ _).2 _ (by simp)]; exact (MapKept.heap_alloc _ _).1
   obtain ⟨er, her⟩ : ∃ er, (rgE x).err = er := ⟨_, rfl⟩; have HER := hid her; have VA : Hid (∀ W, Calls Tryz.prog 103 #[.agg #[.int .i64 3, .int .u64 0, .int .u32 x.id.1, .int .u32 x.id.2, .int .u32 x.home, .int .i64 x.oc, .int .u64 x.w, .int .u32 x.l, .int .u32 x.n, .slice none 0 0, .slice none 0 0, .string ⟨#[]⟩]] W fun e w' => e = .returned (.int .i64 er) ∧ Below W.heap.size W w') := hid fun W => by rw [← her]; exact refValid_is (m := rgE x) (rgE_ok HXR.out W)
   have HB6 := hid (Below.on HB.out hb6); have K6 := hid k6; clear hc c1 c6 hx hxe hxm her; go_wp2_with fail
   rw [← hw6]; clear hw6 k6 hb6 v0 v1 v2 v3 v4 v5 v6 b6; refine (VA.out _).mono ?_; rintro e w7 ⟨rfl, hb7⟩; have HB7 := hid (Below.on HB6.out hb7); have k7 := (hb7.block _ (Array.getElem?_eq_some_iff.1 K6.out).1).trans K6.out; have K7 := hid k7; have u0 : w7.cell? ⟨wr.heap.size, 0, none⟩ = some (.int .u32 x.id.1) := Vs.cob (o := 0) k7 rfl; have u1 : w7.cell? ⟨wr.heap.size, 1, none⟩ = some (.int .u32 x.id.2) := Vs.cob (o := 1) k7 rfl; clear k7 hb7 VA; go_wp2_with fail
   refine (GT.out _ x.id HB7.out).mono ?_; rintro e w8 ⟨⟨v, rfl⟩, hb8⟩; obtain ⟨tt, htt⟩ : ∃ tt, (U.any fun u => decide (u.h.id = x.id)) = tt := ⟨_, rfl⟩; rw [htt]; have HTT := hid htt; obtain ⟨w9, hw9⟩ : ∃ w9, w9 = w8.alloc (.cells #[.int .u32 v.h.id.1, .int .u32 v.h.id.2, .int .u32 v.h.home, .int .u64 v.h.w, .int .u32 v.h.l, .int .u32 v.h.n, .slice v.ra v.h.rs.length v.rc, .slice v.wa v.h.ws.length v.wc] 100) := ⟨_, rfl⟩; have hb9 : Below w7.heap.size w7 w9 := by rw [hw9]; exact Below.al hb8 _
   have HB9 := hid (Below.on HB7.out hb9); have K9 := hid ((hb9.block _ (Array.getElem?_eq_some_iff.1 K7.out).1).trans K7.out); clear htt hb9 hb8 u0 u1; go_wp2_with fail
   rw [← hw9]; clear hw9; obtain ⟨bd, hbd⟩ : ∃ bd, sdA top U x = bd := ⟨_, rfl⟩; have HBD := hid hbd; clear hbd; have t3 := cell_regrown (show w9.cell? ⟨wr.heap.size, 3, none⟩ = some (.int .i64 x.oc) from Vs.cob (o := 3) K9.out rfl); have t4 := cell_regrown (show w9.cell? ⟨wr.heap.size, 4, none⟩ = some (.int .u64 x.w) from Vs.cob (o := 4) K9.out rfl); have z1 := cell_regrown (cell_later HB9.out C1.out); go_cut [62] (fun s62 wz => s62 = .bool bd ∧ Hid (Below w9.heap.size w9 wz))
   case first =>
    by_cases g1 : er = 0
    ·have e1 : (er != 0) = false := by simp [g1]
     cases tt with
     | true =>
      have HV : Hid (bd = true) := hid (by rw [← HBD.out]; unfold sdA; rw [HER.out, HTT.out]; simp [*]); clear HBD
      (try clear g1)
      (try clear g2)
      (try clear g3)
      refine wp_region_quiet_below (by kernel_rfl) (by kernel_rfl) ?_; repeat (go_big_quiet_step (fail))
      refine wpQuiet_nil ?_; intro wn hwn; replace hwn := bor hwn; go_wp2_with fail
      go_meet
      exact ⟨by rw [HV.out], hid hwn⟩
     | false =>
      by_cases g2 : x.oc = 1
      ·have e2 : (x.oc == 1) = true := by simp [g2]
       by_cases g3 : x.w < top
       ·have e3 : ¬ top ≤ x.w := by omega
        have HV : Hid (bd = false) := hid (by rw [← HBD.out]; unfold sdA; rw [HER.out, HTT.out]; simp [*]); clear HBD
        (try clear g1)
        (try clear g2)
        (try clear g3)
        refine wp_region_quiet_below (by kernel_rfl) (by kernel_rfl) ?_; repeat (go_big_quiet_step (fail))
        refine wpQuiet_nil ?_; intro wn hwn; replace hwn := bor hwn; go_wp2_with fail
        go_meet
        exact ⟨by rw [HV.out], hid hwn⟩
       ·have e3 : top ≤ x.w := by omega
        have HV : Hid (bd = true) := hid (by rw [← HBD.out]; unfold sdA; rw [HER.out, HTT.out]; simp [*]); clear HBD
        (try clear g1)
        (try clear g2)
        (try clear g3)
        refine wp_region_quiet_below (by kernel_rfl) (by kernel_rfl) ?_; repeat (go_big_quiet_step (fail))
        refine wpQuiet_nil ?_; intro wn hwn; replace hwn := bor hwn; go_wp2_with fail
        go_meet
        exact ⟨by rw [HV.out], hid hwn⟩
      ·have e2 : (x.oc == 1) = false := by simp [g2]
       have HV : Hid (bd = false) := hid (by rw [← HBD.out]; unfold sdA; rw [HER.out, HTT.out]; simp [*]); clear HBD
       (try clear g1)
       (try clear g2)
       (try clear g3)
       refine wp_region_quiet_below (by kernel_rfl) (by kernel_rfl) ?_; repeat (go_big_quiet_step (fail))
       refine wpQuiet_nil ?_; intro wn hwn; replace hwn := bor hwn; go_wp2_with fail
       go_meet
       exact ⟨by rw [HV.out], hid hwn⟩
    ·have e1 : (er != 0) = true := by simp [g1]
     have HV : Hid (bd = true) := hid (by rw [← HBD.out]; unfold sdA; rw [HER.out, HTT.out]; simp [*]); clear HBD
     (try clear g1)
     (try clear g2)
     (try clear g3)
     refine wp_region_quiet_below (by kernel_rfl) (by kernel_rfl) ?_; repeat (go_big_quiet_step (fail))
     refine wpQuiet_nil ?_; intro wn hwn; replace hwn := bor hwn; go_wp2_with fail
     go_meet
     exact ⟨by rw [HV.out], hid hwn⟩
   case rest =>
    obtain ⟨rfl, HC⟩ := hcut; have HBC := hid (Below.on HB9.out HC.out); have KC := hid ((HC.out.block _ (Array.getElem?_eq_some_iff.1 K9.out).1).trans K9.out); clear t3 t4 z1; cases bd with
    | true =>
     have hno : sdB top U E i = false := by unfold sdB; rw [← HX.out, HBD.out]; rfl
     have HF := hid (all_no (n := E.length) (by rw [← HM.out]; exact hlt) hno); clear hno; go_wp2_with fail
     go_ret
     exact ⟨ret_b HF.out.symm, HBC.out⟩
    | false =>
     obtain ⟨pd, hpd⟩ : ∃ pd, (decide (i = 0) || Lk.ltI (nE E (i - 1)).id (nE E i).id) = pd := ⟨_, rfl⟩; have HSV : Hid (sdB top U E i = pd) := hid (by unfold sdB; rw [hpd, ← HX.out, HBD.out]; rfl); have HPD := hid hpd; clear hpd; go_upto_region 10 with fail
     go_cut [79] (fun s79 wz => s79 = .bool (!pd) ∧ Hid (Below wc.heap.size wc wz))
     case first =>
      by_cases g0 : i = 0
      ·have i5 : ¬ (0 : Int) < (i : Int) := by omega
       have i9 : ¬ 0 < i := by omega
       have i0 : decide ((0 : Int) < (i : Int)) = false := by simp; omega
       have HV : Hid (pd = true) := hid (by rw [← HPD.out]; simp [g0]); clear g0; refine wp_region_quiet_below (by kernel_rfl) (by kernel_rfl) ?_; repeat (go_big_quiet_step (fail))
       refine wpQuiet_nil ?_; intro wn hwn; replace hwn := bor hwn; go_wp2_with fail
       go_meet
       exact ⟨by rw [HV.out]; rfl, hid hwn⟩
      ·have i5 : (0 : Int) < (i : Int) := by omega
       have i9 : 0 < i := by omega
       obtain ⟨j, hj⟩ : ∃ j, j = i - 1 := ⟨_, rfl⟩; have i6 : (i : Int) - 1 = (j : Int) := by omega
       have i6w : wrap64 ((i : Int) - 1) = (j : Int) := by unfold wrap64; omega
       have i7 : (j : Int) < (m : Int) := by omega
       have i8 : (0 : Int) ≤ (j : Int) := by omega
       have HV : Hid (pd = Lk.ltI (nE E j).id x.id) := hid (by rw [← HPD.out, ← HX.out, hj, decide_eq_false g0]; rfl); obtain ⟨y, hy⟩ : ∃ y, y = nE E j := ⟨_, rfl⟩
       have hye : E[j]? = some y := by rw [hy]; have : j < E.length := by (rw [← HM.out]; omega)
                                       simp [nE, this]
       obtain ⟨g', off', eg, hc⟩ := (RE.out.later HBC.out) j y hye; injection eg with eg
       injection eg with eg1 eg2
       subst eg1 eg2; rw [← hy] at HV; have EA : Hid (∀ W, Calls Tryz.prog 105 #[.agg #[.int .u32 y.id.1, .int .u32 y.id.2], .agg #[.int .u32 x.id.1, .int .u32 x.id.2]] W fun e w' => e = .returned (.bool pd) ∧ Below W.heap.size W w') := fun W => Lk.before_is HV.out.symm W
       have v0 := cell_regrown (show wc.cell? ⟨g, off + j * 7, none⟩ = some (.int .u32 y.id.1) from hc 0 _ rfl); have v1 := cell_regrown (show wc.cell? ⟨g, off + j * 7 + 1, none⟩ = some (.int .u32 y.id.2) from hc 1 _ rfl); have r0 := cell_regrown (show wc.cell? ⟨wr.heap.size, 0, none⟩ = some (.int .u32 x.id.1) from Vs.cob (o := 0) KC.out rfl); have r1 := cell_regrown (show wc.cell? ⟨wr.heap.size, 1, none⟩ = some (.int .u32 x.id.2) from Vs.cob (o := 1) KC.out rfl); have r6 := cell_regrown (cell_later HBC.out C6.out); clear hy hj g0 hye hc; refine wp_region_quiet_below (by kernel_rfl) (by kernel_rfl) ?_; repeat (go_big_quiet_step ((go_at_call 105; exact Calls.regrown_of (EA.out _))))
       refine wpQuiet_nil ?_; intro wn hwn; replace hwn := bor hwn; go_wp2_with fail
       go_meet
       exact ⟨rfl, hid hwn⟩
     case rest =>
      obtain ⟨rfl, HZ⟩ := hcut; have HBZ := hid (Below.on HBC.out HZ.out); cases pd with
      | true =>
       have HA2 : Hid (∀ j, j < i + 1 → sdB top U E j = true) := hid fun k hk => by
        rcases Nat.lt_or_ge k i with h9 | h9
        ·exact HA.out k h9
        ·rw [show k = i by omega]; exact HSV.out
       go_wp2_with fail
       go_roundg (m - (i + 1))
       case measure => omega
       case rel => exact ⟨i + 1, by omega, rfl, by go_num, HA2, HBZ.out⟩
      | false =>
       have HF := hid (all_no (n := E.length) (by rw [← HM.out]; exact hlt) HSV.out); go_wp2_with fail
       go_ret
       exact ⟨ret_b HF.out.symm, HBZ.out⟩
  ·have hi9 : i = m := by omega
   subst hi9; have HF : Hid ((List.range E.length).all (sdB top U E) = true) := hid (all_yes fun k hk => HA.out k (by rw [HM.out]; exact hk)); go_wp2_with fail
   go_ret
   exact ⟨ret_b HF.out.symm, HB.out⟩
open Go.Proofs.YtofpaldolcnmiaaGreat Ys
theorem pw_step {α : Type} {R : α → α → Prop} (tr : ∀ a b c, R a b → R b c → R a c) : ∀ (l : List α), (∀ i (h : i + 1 < l.length), R (l[i]'(by omega)) (l[i + 1]'h)) → l.Pairwise R
 | [], _ => List.Pairwise.nil
 | [a], _ => List.pairwise_singleton _ _
 | a :: b :: l, h => by
  have ih := pw_step tr (b :: l) (fun i hi => h (i + 1) (by simp only [List.length_cons] at hi ⊢; omega)); have h0 : R a b := h 0 (by simp); refine List.pairwise_cons.2 ⟨fun x hx => ?_, ih⟩; rcases List.mem_cons.1 hx with rfl | hx
  ·exact h0
  ·exact tr _ _ _ h0 ((List.pairwise_cons.1 ih).1 x hx)
theorem step_pw {α : Type} {R : α → α → Prop} {l : List α} (h : l.Pairwise R) (i : Nat) (hi : i + 1 < l.length) : R (l[i]'(by omega)) (l[i + 1]'hi) :=
 List.pairwise_iff_getElem.1 h i (i + 1) (by omega) hi (by omega)
theorem range_all {f : Nat → Bool} {n : Nat} : (List.range n).all f = true ↔ ∀ i, i < n → f i = true := by
 rw [List.all_eq_true]; exact ⟨fun h i hi => h i (List.mem_range.2 hi), fun h i hi => h i (List.mem_range.1 hi)⟩
theorem sv_iff (top : Int) (V : List Vs.Kv) : (List.range V.length).all (svB top V) = true ↔ (∀ v ∈ V, wOk ⟨v.1, v.2.del, v.2.val⟩ = true ∧ v.2.s.a < top) ∧ V.Pairwise fun x y => Vs.folB x y = true := by
 rw [range_all]; constructor
 ·intro h; refine ⟨fun v hv => ?_, pw_step (R := fun x y : Vs.Kv => Vs.folB x y = true) (fun a b c h1 h2 => Vs.fol_trans h1 h2) V fun i hi => ?_⟩
  ·obtain ⟨i, hi, rfl⟩ := List.getElem_of_mem hv; have := h i hi; unfold svB at this; rw [Vs.nthK_get hi] at this; simp only [Bool.and_eq_true, decide_eq_true_eq] at this; exact ⟨this.1.1, this.1.2⟩
  ·have := h (i + 1) hi; unfold svB at this; rw [Vs.nthK_get hi, Nat.add_sub_cancel, Vs.nthK_get (by omega : i < V.length)] at this; simp only [Bool.and_eq_true, Bool.or_eq_true, decide_eq_true_eq] at this; rcases this.2 with h9 | h9
   ·omega
   ·exact h9
 ·rintro ⟨h1, h2⟩ i hi; unfold svB; have h3 := h1 _ (List.getElem_mem hi); rw [Vs.nthK_get hi]; simp only [Bool.and_eq_true, Bool.or_eq_true, decide_eq_true_eq]; refine ⟨h3, ?_⟩; cases i with
  | zero => exact .inl rfl
  | succ i =>
   right
   rw [Nat.add_sub_cancel, Vs.nthK_get (by omega : i < V.length)]; exact step_pw h2 i hi
theorem ltX_tr {i j k : Lk.Ix} (h1 : ltX i j = true) (h2 : ltX j k = true) : ltX i k = true := by
 rw [ltX_iff] at *; omega
theorem nE_get {E : List Lg.En} {i : Nat} (h : i < E.length) : nE E i = E[i] := by simp [nE, h]
theorem sd_iff (top : Int) (U : List Lk.Hv) (E : List Lg.En) : (List.range E.length).all (sdB top U E) = true ↔ (∀ e ∈ E, (rgE e).err = 0 ∧ (∀ h ∈ U.map Lk.Hv.h, h.id ≠ e.id) ∧ (e.oc = 1 → e.w < top)) ∧ E.Pairwise fun d e => ltX d.id e.id = true := by
 have hA : ∀ x, sdA top U x = false ↔ ((rgE x).err = 0 ∧ (∀ h ∈ U.map Lk.Hv.h, h.id ≠ x.id) ∧ (x.oc = 1 → x.w < top)) := fun x => by
  unfold sdA; simp only [Bool.or_eq_false_iff, Bool.not_eq_false', decide_eq_true_eq, List.any_eq_false, Bool.and_eq_false_imp, List.mem_map, forall_exists_index, and_imp, forall_apply_eq_imp_iff₂, and_assoc]
 rw [range_all]; constructor
 ·intro h; refine ⟨fun e he => ?_, pw_step (R := fun d e : Lg.En => ltX d.id e.id = true) (fun a b c h1 h2 => ltX_tr h1 h2) E fun i hi => ?_⟩
  ·obtain ⟨i, hi, rfl⟩ := List.getElem_of_mem he; have := h i hi; unfold sdB at this; rw [nE_get hi] at this; simp only [Bool.and_eq_true, Bool.not_eq_true'] at this; exact (hA _).1 this.1
  ·have := h (i + 1) hi; unfold sdB at this; rw [nE_get hi, Nat.add_sub_cancel, nE_get (by omega : i < E.length)] at this; simp only [Bool.and_eq_true, Bool.or_eq_true, decide_eq_true_eq] at this; rcases this.2 with h9 | h9
   ·omega
   ·exact h9
 ·rintro ⟨h1, h2⟩ i hi; unfold sdB; rw [nE_get hi, (hA _).2 (h1 _ (List.getElem_mem hi))]; simp only [Bool.not_false, Bool.true_and, Bool.or_eq_true, decide_eq_true_eq]; cases i with
  | zero => exact .inl rfl
  | succ i =>
   right
   rw [Nat.add_sub_cancel, nE_get (by omega : i < E.length)]; exact step_pw h2 i hi
open Go.Proofs.YtofpaldolcnmiaaGreat Ys
theorem span_ok {xs : List T2} (h : readsOk xs = true) : ∀ x ∈ xs, okSpan x := fun x hx => by
 unfold readsOk at h; rw [Bool.and_eq_true] at h; obtain ⟨i, hi⟩ := List.getElem?_of_mem hx; have hlt := (List.getElem?_eq_some_iff.1 hi).1; have h1 : allB (spanAt xs) xs.length = true := h.2; have h2 : spanAt xs i = true := by
  cases hs : spanAt xs i with
  | true => rfl
  | false => rw [allB_no hs _ hlt] at h1; cases h1
 have h3 : nth2 xs i = x := by simp [nth2, hi]
 unfold spanAt spanOk at h2; rw [h3, Bool.and_eq_true, Bool.and_eq_true] at h2; exact ⟨(of_decide_eq_true h2.1.1 : x.1.size ≤ 33), (of_decide_eq_true h2.1.2 : x.2.size ≤ 33)⟩
theorem write_ok {ws : List Wr} (h : writesOk ws = true) : ∀ x ∈ ws, okWrite x := fun x hx => by
 have h1 := Vs.writes_ok h x hx; unfold wOk at h1; rw [Bool.and_eq_true, Bool.and_eq_true, Bool.and_eq_true] at h1; exact ⟨(of_decide_eq_true h1.1.1.2 : x.key.size ≤ 32), (of_decide_eq_true h1.1.2 : x.val.size ≤ 64)⟩
end Go.Proofs.YtofpaldolcnmiaaGreat.Ig
