import Derived.Test.YtofpaldolcnmiaaGreatB43
set_option linter.unusedVariables false
set_option maxHeartbeats 4000000
namespace Go.Proofs.YtofpaldolcnmiaaGreat
namespace Ig
open Go.RowKit Go.Sort Ys
theorem all_no {f : Nat → Bool} {n i : Nat} (hi : i < n) (h : f i = false) : (List.range n).all f = false := by
 rw [List.all_eq_false]; exact ⟨i, List.mem_range.2 hi, by rw [h]; decide⟩
theorem all_yes {f : Nat → Bool} {n : Nat} (h : ∀ i, i < n → f i = true) : (List.range n).all f = true := by
 rw [List.all_eq_true]; exact fun i hi => h i (List.mem_range.1 hi)
def svA (top : Int) (x : Vs.Kv) : Bool := emS x.1 || !decide (x.1.size ≤ 32) || !decide (x.2.val.size ≤ 64) || !decide (x.2.s.a < top)
def svD (x : Vs.Kv) : Bool := x.2.del && !emS x.2.val
theorem svB_eq (top : Int) (V : List Vs.Kv) (i : Nat) : svB top V i = (!svA top (Vs.nthK V i) && !svD (Vs.nthK V i) && (decide (i = 0) || Vs.folB (Vs.nthK V (i - 1)) (Vs.nthK V i))) := by
 unfold svB svA svD wOk; dsimp only
 generalize emS (Vs.nthK V i).1 = a1
 generalize decide ((Vs.nthK V i).1.size ≤ 32) = a2
 generalize decide ((Vs.nthK V i).2.val.size ≤ 64) = a3
 generalize decide ((Vs.nthK V i).2.s.a < top) = a4
 generalize emS (Vs.nthK V i).2.val = a5
 generalize (Vs.nthK V i).2.del = a6
 generalize (decide (i = 0) || Vs.folB (Vs.nthK V (i - 1)) (Vs.nthK V i)) = a7
 revert a1 a2 a3 a4 a5 a6 a7
 decide
theorem soundVers_is {w : World} {B q : Nat} {n top : Int} {wm : Vs.Sp} {U : List Lk.Hv} {E : List Lg.En} {V : List Vs.Kv} (h : Dst w B q n top wm U E V) (hl : V.length ≤ 1099511627776) :
  Calls Tryz.prog 54 #[.pointer (some ⟨q, 0, none⟩)] w fun e w' => e = .returned (.bool ((List.range V.length).all (svB top V))) ∧ Below w.heap.size w w' := by
 obtain ⟨⟨aH, aE, aV, cH, cE, cV, kb, -, -, hV⟩, -, hq⟩ := h; have RV : Hid (Vs.RowV w aV V) := hid (Vs.OwnV.row (B := B) (c := cV) hV); have c1 : w.cell? ⟨q, 1, none⟩ = some (.int .u64 top) := Vs.cob (o := 1) kb rfl; have C1 := hid c1; obtain ⟨m, hm⟩ : ∃ m, m = V.length := ⟨_, rfl⟩; have c7 : w.cell? ⟨q, 7, none⟩ = some (.slice aV m cV) := by rw [hm]; exact Vs.cob (o := 7) kb rfl
 have C7 := hid c7; have HL := hid hl; have HM := hid hm; clear kb hV hl hm; go_enter Tryz.func54, Tryz.ntmps54
 go_wp2_with fail
 go_loopg [3] m (fun g s3 wr => ∃ i : Nat, i ≤ m ∧ g = m - i ∧ s3 = .int .i64 i ∧ Hid (∀ j, j < i → svB top V j = true) ∧ Hid (Below w.heap.size w wr))
 case atStart => exact ⟨0, by omega, by omega, rfl, fun j hj => absurd hj (by omega), Below.refl _ _⟩
 case round =>
  obtain ⟨i, hi1, rfl, rfl, HA, HB⟩ := hrel; have b1 := cell_later HB.out c1; have b7 := cell_later HB.out c7; have hmb : m ≤ 1099511627776 := by rw [HM.out]; exact HL.out
  by_cases hlt : i < m
  ·have hi2 : (i : Int) < (m : Int) := by omega
   obtain ⟨g, off, eg, hva⟩ := (RV.out.later HB.out) i (by rw [← HM.out]; exact hlt); obtain ⟨x, hx⟩ : ∃ x, x = Vs.nthK V i := ⟨_, rfl⟩; rw [← hx] at hva; have HX := hid hx; obtain ⟨v0, v1, v2, v3, v4, v5⟩ := hva; subst eg; obtain ⟨w5, hw5⟩ : ∃ w5, w5 = wr.alloc (.cells #[.string x.1, .int .u64 x.2.s.a, .int .u32 x.2.s.b, .int .u32 x.2.s.c, .bool x.2.del, .string x.2.val] 108) := ⟨_, rfl⟩; have hb5 : Below wr.heap.size wr w5 := by rw [hw5]; exact Below.al (Below.refl _ _) _
   have k5 : w5.heap[wr.heap.size]? = some (.cells #[.string x.1, .int .u64 x.2.s.a, .int .u32 x.2.s.b, .int .u32 x.2.s.c, .bool x.2.del, .string x.2.val] 108 (0, 0)) := by rw [hw5]; exact World.alloc_heap_new _ _
   have HB5 : Hid (Below w.heap.size w w5) := hid (Below.on HB.out hb5); have K5 := hid k5; clear c1 c7 hx; go_wp2_with fail
   rw [← hw5]; clear hw5 v0 v1 v2 v3 v4 v5 b1 b7; obtain ⟨bd, hbd⟩ : ∃ bd, svA top x = bd := ⟨_, rfl⟩; have HBD := hid hbd; have t0 := cell_regrown (show w5.cell? ⟨wr.heap.size, 0, none⟩ = some (.string x.1) from Vs.cob (o := 0) k5 rfl); have t1 := cell_regrown (show w5.cell? ⟨wr.heap.size, 1, none⟩ = some (.int .u64 x.2.s.a) from Vs.cob (o := 1) k5 rfl); have t5 := cell_regrown (show w5.cell? ⟨wr.heap.size, 5, none⟩ = some (.string x.2.val) from Vs.cob (o := 5) k5 rfl); have z1 := cell_regrown (cell_later hb5 (cell_later HB.out (show w.cell? ⟨q, 1, none⟩ = some (.int .u64 top) from C1.out))); clear k5 hb5 hbd; go_cut [45] (fun s45 wz => s45 = .bool bd ∧ Hid (Below w5.heap.size w5 wz))
   case first =>
    by_cases g1 : x.1.size = 0
    ·have y1 : (x.1.toList.isEmpty) = true := by have := em_size x.1; unfold emS at this; rw [this]; simp [g1]
     have y2 : (x.1.toList == ([] : List UInt8)) = true := by rw [← y1]; cases x.1.toList <;> rfl
     have y3 : (x.1.toList == (ByteArray.mk #[]).toList) = true := by rw [toList_empty]; exact y2
     have HV : Hid (bd = true) := hid (by rw [← HBD.out]; unfold svA; simp [em_size, *]); clear HBD; refine wp_region_quiet_below (by kernel_rfl) (by kernel_rfl) ?_; repeat (go_big_quiet_step (fail))
     refine wpQuiet_nil ?_; intro wn hwn; replace hwn := bor hwn; go_wp2_with fail
     go_meet
     exact ⟨by rw [HV.out], hid hwn⟩
    ·have y1 : (x.1.toList.isEmpty) = false := by have := em_size x.1; unfold emS at this; rw [this]; simp [g1]
     have y2 : (x.1.toList == ([] : List UInt8)) = false := by rw [← y1]; cases x.1.toList <;> rfl
     have y3 : (x.1.toList == (ByteArray.mk #[]).toList) = false := by rw [toList_empty]; exact y2
     by_cases g2 : x.1.size ≤ 32
     ·have i2 : ¬ (32 : Int) < (x.1.size : Int) := by omega
      by_cases g3 : x.2.val.size ≤ 64
      ·have i3 : ¬ (64 : Int) < (x.2.val.size : Int) := by omega
       by_cases g4 : x.2.s.a < top
       ·have i4 : ¬ top ≤ x.2.s.a := by omega
        have HV : Hid (bd = false) := hid (by rw [← HBD.out]; unfold svA; simp [em_size, *]); clear HBD; refine wp_region_quiet_below (by kernel_rfl) (by kernel_rfl) ?_; repeat (go_big_quiet_step (fail))
        refine wpQuiet_nil ?_; intro wn hwn; replace hwn := bor hwn; go_wp2_with fail
        go_meet
        exact ⟨by rw [HV.out], hid hwn⟩
       ·have i4 : top ≤ x.2.s.a := by omega
        have HV : Hid (bd = true) := hid (by rw [← HBD.out]; unfold svA; simp [em_size, *]); clear HBD; refine wp_region_quiet_below (by kernel_rfl) (by kernel_rfl) ?_; repeat (go_big_quiet_step (fail))
        refine wpQuiet_nil ?_; intro wn hwn; replace hwn := bor hwn; go_wp2_with fail
        go_meet
        exact ⟨by rw [HV.out], hid hwn⟩
      ·have i3 : (64 : Int) < (x.2.val.size : Int) := by omega
       have HV : Hid (bd = true) := hid (by rw [← HBD.out]; unfold svA; simp [em_size, *]); clear HBD; refine wp_region_quiet_below (by kernel_rfl) (by kernel_rfl) ?_; repeat (go_big_quiet_step (fail))
       refine wpQuiet_nil ?_; intro wn hwn; replace hwn := bor hwn; go_wp2_with fail
       go_meet
       exact ⟨by rw [HV.out], hid hwn⟩
     ·have i2 : (32 : Int) < (x.1.size : Int) := by omega
      have HV : Hid (bd = true) := hid (by rw [← HBD.out]; unfold svA; simp [em_size, *]); clear HBD; refine wp_region_quiet_below (by kernel_rfl) (by kernel_rfl) ?_; repeat (go_big_quiet_step (fail))
      refine wpQuiet_nil ?_; intro wn hwn; replace hwn := bor hwn; go_wp2_with fail
      go_meet
      exact ⟨by rw [HV.out], hid hwn⟩
   case rest =>
    obtain ⟨rfl, HC⟩ := hcut; have HBC : Hid (Below w.heap.size w wc) := hid (Below.on HB5.out HC.out); have kc := cell_later HC.out (show w5.cell? ⟨wr.heap.size, 2, none⟩ = some (.int .u32 x.2.s.b) from Vs.cob (o := 2) K5.out rfl); have KC : Hid (wc.heap[wr.heap.size]? = _) := hid ((HC.out.block _ (Array.getElem?_eq_some_iff.1 K5.out).1).trans K5.out); clear kc t0 t1 t5 z1; cases bd with
    | true =>
     have hno : svB top V i = false := by rw [svB_eq, ← HX.out, HBD.out]; simp
     have HF := hid (all_no (n := V.length) (by rw [← HM.out]; exact hlt) hno); clear hno; go_wp2_with fail
     go_ret
     exact ⟨ret_b HF.out.symm, HBC.out⟩
    | false =>
     have q4 : wc.cell? ⟨wr.heap.size, 4, none⟩ = some (.bool x.2.del) := Vs.cob (o := 4) KC.out rfl; have q5 : wc.cell? ⟨wr.heap.size, 5, none⟩ = some (.string x.2.val) := Vs.cob (o := 5) KC.out rfl; go_upto_region 7 with fail
     go_cut [52] (fun s52 wz => s52 = .bool (svD x) ∧ wz = wc)
     case first =>
      cases gd : x.2.del with
      | false =>
       rw [gd] at q4; have HV : Hid (svD x = false) := hid (by unfold svD; rw [gd]; rfl); go_wp2_with fail
       go_meet
       exact ⟨by rw [HV.out], rfl⟩
      | true =>
       rw [gd] at q4; cases ge : emS x.2.val with
       | true =>
        have y1 : x.2.val.toList.isEmpty = true := ge; have y2 : (x.2.val.toList == ([] : List UInt8)) = true := by rw [← y1]; cases x.2.val.toList <;> rfl
        have y3 : (x.2.val.toList == (ByteArray.mk #[]).toList) = true := by rw [toList_empty]; exact y2
        have HV : Hid (svD x = false) := hid (by unfold svD; rw [gd, ge]; rfl); go_wp2_with fail
        go_meet
        exact ⟨by rw [HV.out], rfl⟩
       | false =>
        have y1 : x.2.val.toList.isEmpty = false := ge; have y2 : (x.2.val.toList == ([] : List UInt8)) = false := by rw [← y1]; cases x.2.val.toList <;> rfl
        have y3 : (x.2.val.toList == (ByteArray.mk #[]).toList) = false := by rw [toList_empty]; exact y2
        have HV : Hid (svD x = true) := hid (by unfold svD; rw [gd, ge]; rfl); go_wp2_with fail
        go_meet
        exact ⟨by rw [HV.out], rfl⟩
     case rest =>
      obtain ⟨rfl, rfl⟩ := hcut; clear q4 q5; cases hsd : svD x with
      | true =>
       have hno : svB top V i = false := by rw [svB_eq, ← HX.out, HBD.out, hsd]; simp
       have HF := hid (all_no (n := V.length) (by rw [← HM.out]; exact hlt) hno); clear hno; go_wp2_with fail
       go_ret
       exact ⟨ret_b HF.out.symm, HBC.out⟩
      | false =>
       obtain ⟨pd, hpd⟩ : ∃ pd, (decide (i = 0) || Vs.folB (Vs.nthK V (i - 1)) (Vs.nthK V i)) = pd := ⟨_, rfl⟩; have HSV : Hid (svB top V i = pd) := hid (by rw [svB_eq, hpd, ← HX.out, HBD.out, hsd]; rfl); have HPD := hid hpd; clear hpd hsd; go_upto_region 9 with fail
       go_cut [67] (fun s67 wz => s67 = .bool (!pd) ∧ Hid (Below wc.heap.size wc wz))
       case first =>
        by_cases g0 : i = 0
        ·have i5 : ¬ (0 : Int) < (i : Int) := by omega
         have i9 : ¬ 0 < i := by omega
         have i0 : decide ((0 : Int) < (i : Int)) = false := by simp; omega
         have HV : Hid (pd = true) := hid (by rw [← HPD.out]; simp [g0]); clear g0; refine wp_region_quiet_below (by kernel_rfl) (by kernel_rfl) ?_; repeat (go_big_quiet_step (fail))
         refine wpQuiet_nil ?_; intro wn hwn; replace hwn := bor hwn; go_wp2_with fail
         go_meet
         exact ⟨by rw [HV.out]; rfl, hid hwn⟩
        ·have i5 : (0 : Int) < (i : Int) := by omega
         have i9 : 0 < i := by omega
         obtain ⟨j, hj⟩ : ∃ j, j = i - 1 := ⟨_, rfl⟩; have i6 : (i : Int) - 1 = (j : Int) := by omega
         have i6w : wrap64 ((i : Int) - 1) = (j : Int) := by unfold wrap64; omega
         have i7 : (j : Int) < (m : Int) := by omega
         have i8 : (0 : Int) ≤ (j : Int) := by omega
         have HV : Hid (pd = Vs.folB (Vs.nthK V j) x) := hid (by rw [← HPD.out, ← HX.out, hj, decide_eq_false g0]; rfl); obtain ⟨y, hy⟩ : ∃ y, y = Vs.nthK V j := ⟨_, rfl⟩; obtain ⟨g', off', eg, hva⟩ := (RV.out.later HBC.out) j (by rw [← HM.out]; omega); injection eg with eg
         injection eg with eg1 eg2
         subst eg1 eg2; rw [← hy] at hva HV; have EA : Hid (∀ W, Calls Tryz.prog 108 #[.agg #[.string y.1, .int .u64 y.2.s.a, .int .u32 y.2.s.b, .int .u32 y.2.s.c, .bool y.2.del, .string y.2.val], .agg #[.string x.1, .int .u64 x.2.s.a, .int .u32 x.2.s.b, .int .u32 x.2.s.c, .bool x.2.del, .string x.2.val]] W fun e w' => e = .returned (.bool pd) ∧ Below W.heap.size W w') := fun W => earlier_is HV.out.symm W
         obtain ⟨v0, v1, v2, v3, v4, v5⟩ := hva; have r0 := cell_regrown (show wc.cell? ⟨wr.heap.size, 0, none⟩ = some (.string x.1) from Vs.cob (o := 0) KC.out rfl); replace v0 := cell_regrown v0; have r1 := cell_regrown (show wc.cell? ⟨wr.heap.size, 1, none⟩ = some (.int .u64 x.2.s.a) from Vs.cob (o := 1) KC.out rfl); replace v1 := cell_regrown v1; have r2 := cell_regrown (show wc.cell? ⟨wr.heap.size, 2, none⟩ = some (.int .u32 x.2.s.b) from Vs.cob (o := 2) KC.out rfl); replace v2 := cell_regrown v2; have r3 := cell_regrown (show wc.cell? ⟨wr.heap.size, 3, none⟩ = some (.int .u32 x.2.s.c) from Vs.cob (o := 3) KC.out rfl); replace v3 := cell_regrown v3; have r4 := cell_regrown (show wc.cell? ⟨wr.heap.size, 4, none⟩ = some (.bool x.2.del) from Vs.cob (o := 4) KC.out rfl); replace v4 := cell_regrown v4
         have r5 := cell_regrown (show wc.cell? ⟨wr.heap.size, 5, none⟩ = some (.string x.2.val) from Vs.cob (o := 5) KC.out rfl); replace v5 := cell_regrown v5; have r7 := cell_regrown (cell_later HBC.out C7.out); clear hy hj g0; refine wp_region_quiet_below (by kernel_rfl) (by kernel_rfl) ?_; repeat (go_big_quiet_step ((go_at_call 108; exact Calls.regrown_of (EA.out _))))
         refine wpQuiet_nil ?_; intro wn hwn; replace hwn := bor hwn; go_wp2_with fail
         go_meet
         exact ⟨rfl, hid hwn⟩
       case rest =>
        obtain ⟨rfl, HZ⟩ := hcut; have HBZ := hid (Below.on HBC.out HZ.out); cases pd with
        | true =>
         have HA2 : Hid (∀ j, j < i + 1 → svB top V j = true) := hid fun k hk => by
          rcases Nat.lt_or_ge k i with h9 | h9
          ·exact HA.out k h9
          ·rw [show k = i by omega]; exact HSV.out
         go_wp2_with fail
         go_roundg (m - (i + 1))
         case measure => omega
         case rel => exact ⟨i + 1, by omega, rfl, by go_num, HA2, HBZ.out⟩
        | false =>
         have HF := hid (all_no (n := V.length) (by rw [← HM.out]; exact hlt) HSV.out); go_wp2_with fail
         go_ret
         exact ⟨ret_b HF.out.symm, HBZ.out⟩
  ·have hi9 : i = m := by omega
   subst hi9; have HF : Hid ((List.range V.length).all (svB top V) = true) := hid (all_yes fun k hk => HA.out k (by rw [HM.out]; exact hk)); go_wp2_with fail
   go_ret
   exact ⟨ret_b HF.out.symm, HB.out⟩
def hitB (k : ByteArray) (t : Vs.Sp) (v : Vs.Kv) : Bool := decide (v.1 = k) && !v.2.s.lt t
theorem any_hit {V : List Vs.Kv} {k : ByteArray} {t : Vs.Sp} {i : Nat} (hi : i < V.length) (h : hitB k t (Vs.nthK V i) = true) : aboveB V k t = true := by
 unfold aboveB; rw [List.any_eq_true]; exact ⟨Vs.nthK V i, Vs.nthK_mem hi, h⟩
theorem any_none {V : List Vs.Kv} {k : ByteArray} {t : Vs.Sp} (h : ∀ i, i < V.length → hitB k t (Vs.nthK V i) = false) : aboveB V k t = false := by
 unfold aboveB; rw [List.any_eq_false]; intro v hv; obtain ⟨i, hi, rfl⟩ := List.getElem_of_mem hv; have := h i hi; rw [Vs.nthK_get hi] at this; unfold hitB at this; rw [this]; decide
theorem over_or (s t : Vs.Sp) : (t.lt s || sameB s.a s.b s.c t.a t.b t.c) = !s.lt t := by
 cases h1 : s.lt t with
 | true =>
  have h2 : t.lt s = false := by
   cases h3 : t.lt s with
   | false => rfl
   | true => have := Vs.Sp.trans h1 h3; rw [Vs.Sp.irr] at this; cases this
  have h3 : sameB s.a s.b s.c t.a t.b t.c = false := by
   cases h4 : sameB s.a s.b s.c t.a t.b t.c with
   | false => rfl
   | true =>
    obtain ⟨e1, e2, e3⟩ := sameB_iff.1 h4; have : s = t := by obtain ⟨a, b, c⟩ := s; obtain ⟨x, y, z⟩ := t; simp only at e1 e2 e3; rw [e1, e2, e3]
    rw [this, Vs.Sp.irr] at h1; cases h1
  rw [h2, h3]; rfl
 | false =>
  by_cases he : s = t
  ·subst he; have : sameB s.a s.b s.c s.a s.b s.c = true := sameB_iff.2 ⟨rfl, rfl, rfl⟩; rw [this]; simp
  ·rw [lt_tri h1 (fun e => he e.symm)]; rfl
theorem above_is {w : World} {B q : Nat} {n top : Int} {wm t : Vs.Sp} {k : ByteArray} {U : List Lk.Hv} {E : List Lg.En} {V : List Vs.Kv} (h : Dst w B q n top wm U E V) (hl : V.length ≤ 1099511627776) :
  Calls Tryz.prog 104 #[.pointer (some ⟨q, 0, none⟩), .string k, .agg #[.int .u64 t.a, .int .u32 t.b, .int .u32 t.c], .bool true] w fun e w' => e = .returned (.bool (aboveB V k t)) ∧ Below w.heap.size w w' := by
 obtain ⟨⟨aH, aE, aV, cH, cE, cV, kb, -, -, hV⟩, -, hq⟩ := h; have RV : Hid (Vs.RowV w aV V) := hid (Vs.OwnV.row (B := B) (c := cV) hV); obtain ⟨m, hm⟩ : ∃ m, m = V.length := ⟨_, rfl⟩; have c7 : w.cell? ⟨q, 7, none⟩ = some (.slice aV m cV) := by rw [hm]; exact Vs.cob (o := 7) kb rfl
 obtain ⟨wx, hwx⟩ : ∃ wx, wx = w.alloc (.cells #[.int .u64 t.a, .int .u32 t.b, .int .u32 t.c] 36) := ⟨_, rfl⟩; have hbx : Below w.heap.size w wx := by rw [hwx]; exact Below.al (Below.refl _ _) _
 have kx : wx.heap[w.heap.size]? = some (.cells #[.int .u64 t.a, .int .u32 t.b, .int .u32 t.c] 36 (0, 0)) := by rw [hwx]; exact World.alloc_heap_new _ _
 have KX := hid kx; have HBX : Hid (Below w.heap.size w wx) := hid hbx; replace c7 := cell_later hbx c7; have C7 := hid c7; have RX := hid (RV.out.later hbx); have HL := hid hl; have HM := hid hm; clear kb hV hl hm kx hbx; go_enter Tryz.func104, Tryz.ntmps104
 go_wp2_with fail
 rw [← hwx]; clear hwx; go_loopg [9] m (fun g s9 wr => ∃ i : Nat, i ≤ m ∧ g = m - i ∧ s9 = .int .i64 i ∧ Hid (∀ j, j < i → hitB k t (Vs.nthK V j) = false) ∧ Hid (Below wx.heap.size wx wr))
 case atStart => exact ⟨0, by omega, by omega, rfl, fun j hj => absurd hj (by omega), Below.refl _ _⟩
 case round =>
  obtain ⟨i, hi1, rfl, rfl, HA, HB⟩ := hrel; have HBB : Hid (Below w.heap.size w wr) := hid (Below.on HBX.out HB.out); have b7 := cell_later HB.out c7; have hmb : m ≤ 1099511627776 := by rw [HM.out]; exact HL.out
  by_cases hlt : i < m
  ·have hi2 : (i : Int) < (m : Int) := by omega
   obtain ⟨g, off, eg, hva⟩ := (RX.out.later HB.out) i (by rw [← HM.out]; exact hlt); obtain ⟨x, hx⟩ : ∃ x, x = Vs.nthK V i := ⟨_, rfl⟩; rw [← hx] at hva; have HX := hid hx; have HVA := hid hva; obtain ⟨v0, v1, v2, v3, v4, v5⟩ := hva; subst eg; clear c7 hx v1 v2 v3 v4 v5; by_cases hk : x.1 = k
   ·have heq : (x.1.toList == k.toList) = true := by rw [hk]; simp
    have heq2 : (k.toList == k.toList) = true := by simp
    have HK := hid hk; obtain ⟨u, hu⟩ : ∃ u, t.lt x.2.s = u := ⟨_, rfl⟩; obtain ⟨sm, hsm⟩ : ∃ sm, sameB x.2.s.a x.2.s.b x.2.s.c t.a t.b t.c = sm := ⟨_, rfl⟩; have HIT : Hid (hitB k t (Vs.nthK V i) = (u || sm)) := hid (by rw [← HX.out]; unfold hitB; rw [decide_eq_true hk, ← hu, ← hsm, over_or]; rfl); have LE : Hid (∀ W, Calls Tryz.prog 167 #[.agg #[.int .u64 t.a, .int .u32 t.b, .int .u32 t.c], .agg #[.int .u64 x.2.s.a, .int .u32 x.2.s.b, .int .u32 x.2.s.c]] W fun e w' => e = .returned (.bool u) ∧ Below W.heap.size W w') := hid fun W => by rw [← hu]; exact refless_any _ _ _ _ _ _ W
    have qq : ∀ W, (binOp .eql 36 (.agg #[.int .u64 x.2.s.a, .int .u32 x.2.s.b, .int .u32 x.2.s.c]) (.agg #[.int .u64 t.a, .int .u32 t.b, .int .u32 t.c])).run Tryz.prog W = .ok (.bool sm) W := fun W => by rw [← hsm]; exact run_eq _ _ _ _ _ _ W
    have QQ := hid qq; clear hu hsm qq hk; go_wp2_with fail
    have r0 := cell_regrown (cell_later HB.out (show wx.cell? ⟨w.heap.size, 0, none⟩ = some (.int .u64 t.a) from Vs.cob (o := 0) KX.out rfl)); have s0 := cell_regrown HVA.out.c1; have r1 := cell_regrown (cell_later HB.out (show wx.cell? ⟨w.heap.size, 1, none⟩ = some (.int .u32 t.b) from Vs.cob (o := 1) KX.out rfl)); have s1 := cell_regrown HVA.out.c2; have r2 := cell_regrown (cell_later HB.out (show wx.cell? ⟨w.heap.size, 2, none⟩ = some (.int .u32 t.c) from Vs.cob (o := 2) KX.out rfl)); have s2 := cell_regrown HVA.out.c3; have r7 := cell_regrown b7; have R7 := hid b7; clear b7 v0; go_cut [10] (fun s10 wz => s10 = .bool u ∧ Hid (Below wr.heap.size wr wz))
    case first =>
     refine wp_region_quiet_below (by kernel_rfl) (by kernel_rfl) ?_; repeat (go_big_quiet_step ((go_at_call 167; exact Calls.regrown_of (LE.out _))))
     refine wpQuiet_nil ?_; intro wn hwn; replace hwn := bor hwn; go_wp2_with fail
     go_meet
     exact ⟨rfl, hid hwn⟩
    case rest =>
     obtain ⟨rfl, HC⟩ := hcut; clear r0 r1 r2 s0 s1 s2 r7; have r0 := cell_regrown (cell_later HC.out (cell_later HB.out (show wx.cell? ⟨w.heap.size, 0, none⟩ = some (.int .u64 t.a) from Vs.cob (o := 0) KX.out rfl))); have s0 := cell_regrown (cell_later HC.out HVA.out.c1); have r1 := cell_regrown (cell_later HC.out (cell_later HB.out (show wx.cell? ⟨w.heap.size, 1, none⟩ = some (.int .u32 t.b) from Vs.cob (o := 1) KX.out rfl))); have s1 := cell_regrown (cell_later HC.out HVA.out.c2); have r2 := cell_regrown (cell_later HC.out (cell_later HB.out (show wx.cell? ⟨w.heap.size, 2, none⟩ = some (.int .u32 t.c) from Vs.cob (o := 2) KX.out rfl))); have s2 := cell_regrown (cell_later HC.out HVA.out.c3); have r7 := cell_regrown (cell_later HC.out R7.out); have HBC := hid (Below.on HB.out HC.out); have HBD := hid (Below.on HBB.out HC.out); go_upto_region 6 with fail
     go_cut [55] (fun s55 wz => s55 = .bool (u || sm) ∧ Hid (Below wc.heap.size wc wz))
     case first =>
      have qq := QQ.out; cases u with
      | true =>
       refine wp_region_quiet_below (by kernel_rfl) (by kernel_rfl) ?_; repeat (go_big_quiet_step (fail))
       refine wpQuiet_nil ?_; intro wn hwn; replace hwn := bor hwn; go_wp2_with fail
       go_meet
       exact ⟨rfl, hid hwn⟩
      | false =>
       refine wp_region_quiet_below (by kernel_rfl) (by kernel_rfl) ?_; repeat (go_big_quiet_step (fail))
       refine wpQuiet_nil ?_; intro wn hwn; replace hwn := bor hwn; go_wp2_with fail
       go_meet
       exact ⟨rfl, hid hwn⟩
     case rest =>
      obtain ⟨rfl, HZ⟩ := hcut; have HBZ := hid (Below.on HBC.out HZ.out); have HBW := hid (Below.on HBD.out HZ.out); obtain ⟨o, ho⟩ : ∃ o, o = (u || sm) := ⟨_, rfl⟩; rw [← ho]; rw [← ho] at HIT; clear ho; cases o with
      | true =>
       have HF := hid (any_hit (by rw [← HM.out]; exact hlt) HIT.out); go_wp2_with fail
       go_ret
       exact ⟨ret_b HF.out.symm, HBW.out⟩
      | false =>
       have HA2 : Hid (∀ j, j < i + 1 → hitB k t (Vs.nthK V j) = false) := hid fun j hj => by
        rcases Nat.lt_or_ge j i with h9 | h9
        ·exact HA.out j h9
        ·rw [show j = i by omega]; exact HIT.out
       go_wp2_with fail
       go_roundg (m - (i + 1))
       case measure => omega
       case rel => exact ⟨i + 1, by omega, rfl, by go_num, HA2, HBZ.out⟩
   ·have heq : (x.1.toList == k.toList) = false := bne_of hk; have HIT : Hid (hitB k t (Vs.nthK V i) = false) := hid (by rw [← HX.out]; unfold hitB; rw [decide_eq_false hk]; rfl); clear hk; have HA2 : Hid (∀ j, j < i + 1 → hitB k t (Vs.nthK V j) = false) := hid fun j hj => by
     rcases Nat.lt_or_ge j i with h9 | h9
     ·exact HA.out j h9
     ·rw [show j = i by omega]; exact HIT.out
    go_wp2_with fail
    go_roundg (m - (i + 1))
    case measure => omega
    case rel => exact ⟨i + 1, by omega, rfl, by go_num, HA2, HB.out⟩
  ·have hi9 : i = m := by omega
   subst hi9; have HF : Hid (aboveB V k t = false) := hid (any_none fun j hj => HA.out j (by rw [HM.out]; exact hj)); go_wp2_with fail
   go_ret
   exact ⟨ret_b HF.out.symm, HBB.out⟩
end Ig
namespace Lk
open Go.RowKit Go.Sort
theorem before_is {i j : Ix} {u : Bool} (hu : ltI i j = u) (w : World) : Calls Tryz.prog 105 #[ixv i, ixv j] w fun e w' => e = .returned (.bool u) ∧ Below w.heap.size w w' := by
 obtain ⟨ic, is⟩ := i; obtain ⟨jc, js⟩ := j; subst hu; by_cases h : ic = jc
 ·subst h; have h' : (ic != ic) = false := by simp
  go_enter Tryz.func105, Tryz.ntmps105
  go_wp2_with fail
  go_ret
  exact ⟨by simp [ltI], by (repeat (first | exact Below.refl _ _ | assumption | refine Below.drew ?_ | refine Below.al ?_ _ | refine Below.setCell ?_ (by first | exact Nat.le_refl _ | simp <;> omega) _ | refine Below.on ?_ (by assumption)))⟩
 ·have h' : (ic != jc) = true := by simpa using h
  go_enter Tryz.func105, Tryz.ntmps105
  go_wp2_with fail
  go_ret
  exact ⟨by simp [ltI, h], by (repeat (first | exact Below.refl _ _ | assumption | refine Below.drew ?_ | refine Below.al ?_ _ | refine Below.setCell ?_ (by first | exact Nat.le_refl _ | simp <;> omega) _ | refine Below.on ?_ (by assumption)))⟩
theorem beq_bytesA (a b : ByteArray) : (a.toList == b.toList) = decide (a = b) := by
 rw [Bool.eq_iff_iff]; simp only [beq_iff_eq, decide_eq_true_eq]
 exact ⟨fun h => by rw [ByteArray.toList_eq, ByteArray.toList_eq] at h; exact ByteArray.ext (Array.toList_inj.1 h), fun e => by rw [e]⟩
theorem nthWx {ws : List Wr} {x : Wr} (h : x ∈ ws) : ∃ i, i < ws.length ∧ nthW ws i = x := by
 obtain ⟨i, hi, rfl⟩ := List.getElem_of_mem h; exact ⟨i, hi, by simp [nthW, hi]⟩
theorem nth2x {rs : List T2} {x : T2} (h : x ∈ rs) : ∃ i, i < rs.length ∧ nth2 rs i = x := by
 obtain ⟨i, hi, rfl⟩ := List.getElem_of_mem h; exact ⟨i, hi, by simp [nth2, hi]⟩
theorem nth2m {rs : List T2} {k : Nat} (h : k < rs.length) : nth2 rs k ∈ rs := by
 have : nth2 rs k = rs[k] := by simp [nth2, h]
 rw [this]; exact List.getElem_mem h
theorem any_yes {ws : List Wr} {rs : List T2} {i j : Nat} (hi : i < ws.length) (hj : j < rs.length) (h : insB (nthW ws i).key (nth2 rs j) = true) : anyB ws rs = true := by
 simp only [anyB, withinB, List.any_eq_true]; exact ⟨_, nthW_mem hi, _, nth2m hj, h⟩
theorem any_no {ws : List Wr} {rs : List T2} (h : ∀ i, i < ws.length → ∀ j, j < rs.length → insB (nthW ws i).key (nth2 rs j) = false) : anyB ws rs = false := by
 rw [Bool.eq_false_iff]; intro e; simp only [anyB, withinB, List.any_eq_true] at e; obtain ⟨x, hx, s, hs, e⟩ := e; obtain ⟨i, hi, rfl⟩ := nthWx hx; obtain ⟨j, hj, rfl⟩ := nth2x hs; rw [h i hi j hj] at e; cases e
theorem com_yes {a b : List Wr} {i j : Nat} (hi : i < a.length) (hj : j < b.length) (h : sameK (nthW a i).key (nthW b j).key = true) : commonB a b = true := by
 simp only [commonB, List.any_eq_true]; exact ⟨_, nthW_mem hi, _, nthW_mem hj, h⟩
theorem com_no {a b : List Wr} (h : ∀ i, i < a.length → ∀ j, j < b.length → sameK (nthW a i).key (nthW b j).key = false) : commonB a b = false := by
 rw [Bool.eq_false_iff]; intro e; simp only [commonB, List.any_eq_true] at e; obtain ⟨x, hx, s, hs, e⟩ := e; obtain ⟨i, hi, rfl⟩ := nthWx hx; obtain ⟨j, hj, rfl⟩ := nthWx hs; rw [h i hi j hj] at e; cases e
theorem into_is {w : World} {xa ya : Option Addr} {xc yc : Nat} {xs : List Wr} {ys : List T2} {u : Bool} (hu : anyB xs ys = u) (hx : RowW w xa xs) (hy : Row2 w ya ys) (hlx : xs.length ≤ 9223372036854775806) (hly : ys.length ≤ 9223372036854775806) :
  Calls Tryz.prog 169 #[.slice xa xs.length xc, .slice ya ys.length yc] w fun e w' => e = .returned (.bool u) ∧ Below w.heap.size w w' := by
 have HY : Hid (∀ i j, i < xs.length → j < ys.length → insB (nthW xs i).key (nth2 ys j) = true → u = true) := fun i j hi hj h => hu.symm.trans (any_yes hi hj h)
 have HN : Hid ((∀ i, i < xs.length → ∀ j, j < ys.length → insB (nthW xs i).key (nth2 ys j) = false) → u = false) := fun h => hu.symm.trans (any_no h)
 have HX := hid hx; have HR := hid hy; clear hx hy hu; go_enter Tryz.func169, Tryz.ntmps169
 go_wp2_with fail
 go_loopg [5] xs.length (fun g s5 wr => ∃ k : Nat, k ≤ xs.length ∧ g = xs.length - k ∧ s5 = .int .i64 k ∧ Hid (Below w.heap.size w wr) ∧ Hid (∀ i, i < k → ∀ j, j < ys.length → insB (nthW xs i).key (nth2 ys j) = false))
 case atStart => exact ⟨0, by omega, by omega, rfl, Below.refl _ _, fun i hi => absurd hi (by omega)⟩
 case round =>
  obtain ⟨k, hk, rfl, rfl, HB, HA⟩ := hrel; by_cases hlt : k < xs.length
  ·have hk1 : (k : Int) < (xs.length : Int) := by omega
   have HBO := HB; clear HB; go_wp2_with fail
   go_loopg [6] ys.length (fun g s6 wr => ∃ m : Nat, m ≤ ys.length ∧ g = ys.length - m ∧ s6 = .int .i64 m ∧ Hid (Below w.heap.size w wr) ∧ Hid (∀ j, j < m → insB (nthW xs k).key (nth2 ys j) = false))
   case atStart => exact ⟨0, by omega, by omega, rfl, HBO, fun i hi => absurd hi (by omega)⟩
   case round =>
    obtain ⟨m, hm, rfl, rfl, HB, HQ⟩ := hrel; by_cases hlm : m < ys.length
    ·obtain ⟨b, off, ex, c0, -, -⟩ := (HX.out.later HB.out) k hlt; obtain ⟨b', off', ey, g0, g1⟩ := (HR.out.later HB.out) m hlm; subst ex ey; have hm1 : (m : Int) < (ys.length : Int) := by omega
     obtain ⟨p1, hp⟩ : ∃ p, p = (nthW xs k).key := ⟨_, rfl⟩; obtain ⟨⟨r1, r2⟩, hr⟩ : ∃ r, r = nth2 ys m := ⟨_, rfl⟩; rw [← hp] at c0; rw [← hr] at g0 g1; simp only at g0 g1; have k0 := cell_regrown c0; have l0 := cell_regrown g0; have l1 := cell_regrown g1; obtain ⟨z, hz⟩ : ∃ z, insB p1 (r1, r2) = z := ⟨_, rfl⟩; have HZ : Hid (insB (nthW xs k).key (nth2 ys m) = z) := by rw [← hp, ← hr]; exact hz
     have HZZ := hid hz; clear hz hp hr; cases z with
     | true =>
      have hu1 : u = true := HY.out k m hlt hlm HZ.out; subst hu1; go_wp2_with fail
      refine wp_region_quiet_below (by kernel_rfl) (by kernel_rfl) ?_; repeat (go_big_quiet_step (((go_at_call 216; exact Calls.regrown_of (refinside_is (s := (r1, r2)) HZZ.out _)))))
      refine wpQuiet_nil ?_; intro wn hwn; replace hwn := bor hwn; go_wp2_with fail
      go_ret
      exact ⟨rfl, Below.on HB.out hwn⟩
     | false =>
      go_wp2_with fail
      refine wp_region_quiet_below (by kernel_rfl) (by kernel_rfl) ?_; repeat (go_big_quiet_step (((go_at_call 216; exact Calls.regrown_of (refinside_is (s := (r1, r2)) HZZ.out _)))))
      refine wpQuiet_nil ?_; intro wn hwn; replace hwn := bor hwn; go_wp2_with fail
      go_roundg (ys.length - (m + 1))
      case measure => omega
      case rel =>
       refine ⟨m + 1, by omega, rfl, by go_num, Below.on HB.out hwn, fun j hj => ?_⟩; by_cases e : j = m
       ·subst e; exact HZ.out
       ·exact HQ.out j (by omega)
    ·obtain rfl : m = ys.length := by omega
     go_wp2_with fail
     go_roundg (xs.length - (k + 1))
     case measure => omega
     case rel =>
      refine ⟨k + 1, by omega, rfl, by go_num, HB, fun i hi => ?_⟩; by_cases e : i = k
      ·subst e; exact HQ.out
      ·exact HA.out i (by omega)
  ·obtain rfl : k = xs.length := by omega
   have hu0 : u = false := HN.out HA.out; subst hu0; go_wp2_with fail
   go_ret
   exact ⟨rfl, HB.out⟩
theorem common_is {w : World} {xa ya : Option Addr} {xc yc : Nat} {xs : List Wr} {ys : List Wr} {u : Bool} (hu : commonB xs ys = u) (hx : RowW w xa xs) (hy : RowW w ya ys) (hlx : xs.length ≤ 9223372036854775806) (hly : ys.length ≤ 9223372036854775806) :
  Calls Tryz.prog 168 #[.slice xa xs.length xc, .slice ya ys.length yc] w fun e w' => e = .returned (.bool u) ∧ Below w.heap.size w w' := by
 have HY : Hid (∀ i j, i < xs.length → j < ys.length → sameK (nthW xs i).key (nthW ys j).key = true → u = true) := fun i j hi hj h => hu.symm.trans (com_yes hi hj h)
 have HN : Hid ((∀ i, i < xs.length → ∀ j, j < ys.length → sameK (nthW xs i).key (nthW ys j).key = false) → u = false) := fun h => hu.symm.trans (com_no h)
 have HX := hid hx; have HR := hid hy; clear hx hy hu; go_enter Tryz.func168, Tryz.ntmps168
 go_wp2_with fail
 go_loopg [5] xs.length (fun g s5 wr => ∃ k : Nat, k ≤ xs.length ∧ g = xs.length - k ∧ s5 = .int .i64 k ∧ Hid (Below w.heap.size w wr) ∧ Hid (∀ i, i < k → ∀ j, j < ys.length → sameK (nthW xs i).key (nthW ys j).key = false))
 case atStart => exact ⟨0, by omega, by omega, rfl, Below.refl _ _, fun i hi => absurd hi (by omega)⟩
 case round =>
  obtain ⟨k, hk, rfl, rfl, HB, HA⟩ := hrel; by_cases hlt : k < xs.length
  ·have hk1 : (k : Int) < (xs.length : Int) := by omega
   have HBO := HB; clear HB; go_wp2_with fail
   go_loopg [6] ys.length (fun g s6 wr => ∃ m : Nat, m ≤ ys.length ∧ g = ys.length - m ∧ s6 = .int .i64 m ∧ Hid (Below w.heap.size w wr) ∧ Hid (∀ j, j < m → sameK (nthW xs k).key (nthW ys j).key = false))
   case atStart => exact ⟨0, by omega, by omega, rfl, HBO, fun i hi => absurd hi (by omega)⟩
   case round =>
    obtain ⟨m, hm, rfl, rfl, HB, HQ⟩ := hrel; by_cases hlm : m < ys.length
    ·obtain ⟨b, off, ex, c0, -, -⟩ := (HX.out.later HB.out) k hlt; obtain ⟨b', off', ey, g0, -, -⟩ := (HR.out.later HB.out) m hlm; subst ex ey; have hm1 : (m : Int) < (ys.length : Int) := by omega
     obtain ⟨p1, hp⟩ : ∃ p, p = (nthW xs k).key := ⟨_, rfl⟩; obtain ⟨r1, hr⟩ : ∃ r, r = (nthW ys m).key := ⟨_, rfl⟩; rw [← hp] at c0; rw [← hr] at g0; have k0 := cell_regrown c0; have l0 := cell_regrown g0; obtain ⟨z, hz⟩ : ∃ z, sameK p1 r1 = z := ⟨_, rfl⟩; have HZ : Hid (sameK (nthW xs k).key (nthW ys m).key = z) := by rw [← hp, ← hr]; exact hz
     have qq : (p1.toList == r1.toList) = z := by rw [beq_bytesA]; exact hz
     clear hz hp hr; cases z with
     | true =>
      have hu1 : u = true := HY.out k m hlt hlm HZ.out; subst hu1; go_wp2_with fail
      refine wp_region_quiet_below (by kernel_rfl) (by kernel_rfl) ?_; repeat (go_big_quiet_step (fail))
      refine wpQuiet_nil ?_; intro wn hwn; replace hwn := bor hwn; go_wp2_with fail
      go_ret
      exact ⟨rfl, Below.on HB.out hwn⟩
     | false =>
      go_wp2_with fail
      refine wp_region_quiet_below (by kernel_rfl) (by kernel_rfl) ?_; repeat (go_big_quiet_step (fail))
      refine wpQuiet_nil ?_; intro wn hwn; replace hwn := bor hwn; go_wp2_with fail
      go_roundg (ys.length - (m + 1))
      case measure => omega
      case rel =>
       refine ⟨m + 1, by omega, rfl, by go_num, Below.on HB.out hwn, fun j hj => ?_⟩; by_cases e : j = m
       ·subst e; exact HZ.out
       ·exact HQ.out j (by omega)
    ·obtain rfl : m = ys.length := by omega
     go_wp2_with fail
     go_roundg (xs.length - (k + 1))
     case measure => omega
     case rel =>
      refine ⟨k + 1, by omega, rfl, by go_num, HB, fun i hi => ?_⟩; by_cases e : i = k
      ·subst e; exact HQ.out
      ·exact HA.out i (by omega)
  ·obtain rfl : k = xs.length := by omega
   have hu0 : u = false := HN.out HA.out; subst hu0; go_wp2_with fail
   go_ret
   exact ⟨rfl, HB.out⟩
theorem refmeet_is {w : World} {ra wa : Option Addr} {rc wc : Nat} {rs : List T2} {ws : List Wr} {x : Hv} {u : Bool} (hu : meetB rs ws x.h = u) (hr : Row2 w ra rs) (hw : RowW w wa ws) (hx : x.ok w) (hlr : rs.length ≤ 9223372036854775806) (hlw : ws.length ≤ 9223372036854775806) :
  Calls Tryz.prog 106 #[.slice ra rs.length rc, .slice wa ws.length wc, .agg #[.int .u32 x.h.id.1, .int .u32 x.h.id.2, .int .u32 x.h.home, .int .u64 x.h.w, .int .u32 x.h.l, .int .u32 x.h.n, .slice x.ra x.h.rs.length x.rc, .slice x.wa x.h.ws.length x.wc]] w fun e w' => e = .returned (.bool u) ∧ Below w.heap.size w w' := by
 obtain ⟨wx, hwx⟩ : ∃ wx, wx = w.alloc (.cells #[.int .u32 x.h.id.1, .int .u32 x.h.id.2, .int .u32 x.h.home, .int .u64 x.h.w, .int .u32 x.h.l, .int .u32 x.h.n, .slice x.ra x.h.rs.length x.rc, .slice x.wa x.h.ws.length x.wc] 100) := ⟨_, rfl⟩; have hbx : Below w.heap.size w wx := by rw [hwx]; exact Below.al (Below.refl _ _) _
 have b6 : wx.cell? ⟨w.heap.size, 6, none⟩ = some (.slice x.ra x.h.rs.length x.rc) := by rw [hwx]; simp [go_sem]
 have b7 : wx.cell? ⟨w.heap.size, 7, none⟩ = some (.slice x.wa x.h.ws.length x.wc) := by rw [hwx]; simp [go_sem]
 have hxr := hx.rl; have hxw := hx.wl; obtain ⟨u1, h1⟩ : ∃ u1, commonB ws x.h.ws = u1 := ⟨_, rfl⟩; obtain ⟨u2, h2⟩ : ∃ u2, anyB ws x.h.rs = u2 := ⟨_, rfl⟩; obtain ⟨u3, h3⟩ : ∃ u3, anyB x.h.ws rs = u3 := ⟨_, rfl⟩; simp only [meetB, h1, h2, h3] at hu; have C1 := hid (common_is (xc := wc) (yc := x.wc) h1 (hw.later hbx) (hx.w.later hbx) (by omega) (by omega)); have C2 : Hid (∀ W, Below wx.heap.size wx W → Calls Tryz.prog 169 #[.slice wa ws.length wc, .slice x.ra x.h.rs.length x.rc] W fun e w' => e = .returned (.bool u2) ∧ Below W.heap.size W w') := fun W hb => into_is h2 ((hw.later hbx).later hb) ((hx.r.later hbx).later hb) (by omega) (by omega)
 have C3 : Hid (∀ W, Below wx.heap.size wx W → Calls Tryz.prog 169 #[.slice x.wa x.h.ws.length x.wc, .slice ra rs.length rc] W fun e w' => e = .returned (.bool u3) ∧ Below W.heap.size W w') := fun W hb => into_is h3 ((hx.w.later hbx).later hb) ((hr.later hbx).later hb) (by omega) (by omega)
 have HBX := hid hbx; clear hr hw hx hbx h1 h2 h3 hxr hxw; subst hu; go_enter Tryz.func106, Tryz.ntmps106
 go_upto_region 1 with fail
 rw [← hwx]; clear hwx; go_wp2_with fail
 refine C1.out.mono ?_; rintro e w1 ⟨rfl, hw1⟩; have HW1 := hid hw1; have c6 := cell_later hw1 b6; have c7 := cell_later hw1 b7; clear hw1; cases u1 with
 | true =>
  go_wp2_with fail
  go_ret
  exact ⟨by simp, Below.on HBX.out HW1.out⟩
 | false =>
  go_wp2_with fail
  refine (C2.out _ HW1.out).mono ?_; rintro e w2 ⟨rfl, hw2⟩; have HW2 : Hid (Below wx.heap.size wx w2) := Below.on HW1.out hw2; have c7 := cell_later hw2 c7; clear hw2; cases u2 with
  | true =>
   go_wp2_with fail
   go_ret
   exact ⟨by simp, Below.on HBX.out HW2.out⟩
  | false =>
   go_wp2_with fail
   refine (C3.out _ HW2.out).mono ?_; rintro e w3 ⟨rfl, hw3⟩; go_wp2_with fail
   go_ret
   exact ⟨by simp, Below.on HBX.out (Below.on HW2.out hw3)⟩
end Lk
end Go.Proofs.YtofpaldolcnmiaaGreat
