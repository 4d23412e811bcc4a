import Derived.Test.YtneojeidpfjpbaaGreatDoorStateFreshC02
set_option linter.unusedVariables false
set_option maxHeartbeats 16000000
namespace Go.Proofs.YtneojeidpfjpbaaGreatDoor.Ig
open Go.RowKit Go.Sort Ys
theorem rowE_of {B : Nat} {w : World} {a : Option Addr} {n c : Nat} {l : List Lg.En} (h : Lg.OwnL B w (.slice a n c) n l) : RowG Lg.ecs 7 w a l := RowG.of_own (fun _ => rfl) (by decide) h
theorem rowV_of {B : Nat} {w : World} {a : Option Addr} {n c : Nat} {l : List Vs.Kv} (h : w.ownsRow B 97 6 (.slice a n c) n (l.flatMap c6)) : RowG c6 6 w a l := RowG.of_own (fun _ => rfl) (by decide) h
theorem rowP_of {B : Nat} {w : World} {a : Option Addr} {n c : Nat} {l : Vs.Prs} (h : w.ownsRow B 113 2 (.slice a n c) n (Vs.flatP l)) (hn : l.length = n) : Row2 w a l := by
 subst hn; exact Vs.OwnP.row h
theorem rowI_of {B : Nat} {w : World} {a : Option Addr} {n c : Nat} {l : List Lk.Ix} (h : Lk.OwnI B w (.slice a n c) n l) (hm : l.length = n) : Lk.RowI w a l := by
 by_cases h0 : 0 < n
 ·obtain ⟨g, rfl, _, _, _, _, _, hc⟩ := Lk.ownI_cells h hm h0; exact Lk.rowI_of hc (by omega) (fun j hj => by simp [hj])
 ·intro i hi; omega
theorem rowI_later {w w' : World} {a : Option Addr} {l : List Lk.Ix} (h : Lk.RowI w a l) (hb : Below w.heap.size w w') : Lk.RowI w' a l := fun i hi => by
 obtain ⟨b, off, e, hc⟩ := h i hi; exact ⟨b, off, e, fun o v ho => cell_later hb (hc o v ho)⟩
set_option maxRecDepth 100000 in
theorem lists_is {W0 w : World} {B p q : Nat} {n : Int} {k : Nat} {s t : Ps} (Q : Q2 B w p q n k s t) (ht : Lk.PowTab W0) (hW : Below W0.heap.size W0 w) (x : Vs.Sp) :
  Calls Tryz.prog 15 #[sp p, sp q, .agg #[.int .u64 x.a, .int .u32 x.b, .int .u32 x.c]] w fun e w' => e = .returned (.bool true) ∧ Below w.heap.size w w' := by
 obtain ⟨wx, hwx⟩ : ∃ wx, wx = w.alloc (.cells #[.int .u64 x.a, .int .u32 x.b, .int .u32 x.c] 28) := ⟨_, rfl⟩; have hbx : Below w.heap.size w wx := by rw [hwx]; exact Below.al (Below.refl _ _) _
 have hlx : w.heap.size < wx.heap.size := by rw [hwx]; simp
 have HX0 : Hid (∀ wz, Below wx.heap.size wx wz → wz.cell? ⟨w.heap.size, 0, none⟩ = some (.int .u64 x.a) ∧ wz.cell? ⟨w.heap.size, 1, none⟩ = some (.int .u32 x.b) ∧ wz.cell? ⟨w.heap.size, 2, none⟩ = some (.int .u32 x.c)) := hid fun wz hb => ⟨cell_later hb (by rw [hwx]; simp [go_sem]), cell_later hb (by rw [hwx]; simp [go_sem]), cell_later hb (by rw [hwx]; simp [go_sem])⟩
 have HQ : Hid (∀ wz, Below wx.heap.size wx wz → Q2 B wz p q n k s t) := hid fun wz hb => (Q.later hbx).later hb
 have HT : Hid (∀ wz, Below wx.heap.size wx wz → Lk.PowTab wz) := hid fun wz hb => ht.later (Below.on (Below.on hW hbx) hb)
 have HBX := hid hbx; obtain ⟨E, hE⟩ : ∃ E, E = srt Lg.En.id s.E := ⟨_, rfl⟩; obtain ⟨V, hV⟩ : ∃ V, V = Vs.dumpM s.M := ⟨_, rfl⟩; obtain ⟨P, hP⟩ : ∃ P, P = Vs.rdL s.M s.wm ⟨#[]⟩ ⟨#[]⟩ x := ⟨_, rfl⟩; obtain ⟨D, hD⟩ : ∃ D, D = bids s ⟨#[]⟩ ⟨#[]⟩ x := ⟨_, rfl⟩; obtain ⟨re, hre⟩ : ∃ re, re = Vs.rdE s.M s.wm ⟨#[]⟩ ⟨#[]⟩ x := ⟨_, rfl⟩; have LE : Hid (E.length ≤ 1000000) := hid (by rw [hE, srt_len]; have := Q.run.el; have := Q.hk; omega); have LV : Hid (V.length ≤ 1500000) := hid (by rw [hV]; exact Nat.le_trans (Nat.le_of_eq (Vs.dump_len s.M)) Q.cnt); have LP : Hid (P.length ≤ 512) := hid (by rw [hP]; exact rdF_512 _ _ _ _ _); have LD : Hid (D.length ≤ 93000) := hid (by rw [hD]; exact Nat.le_trans (bids_len _ _ _ _) Q.hl)
 have CE : Hid (∀ wz r, r = p ∨ r = q → Below wx.heap.size wx wz → Calls Tryz.prog 33 #[sp r] wz fun e w' => ∃ (a : Option Addr) (c : Nat), e = .returned (.slice a E.length c) ∧ Hid (Lg.OwnL wz.heap.size w' (.slice a E.length c) E.length E) ∧ Hid (Below wz.heap.size wz w')) := hid fun wz r hr hb => by
  rw [hE]; rcases hr with rfl | rfl
  ·exact (HQ.out wz hb).entries1
  ·exact (HQ.out wz hb).entries2
 have CV : Hid (∀ wz r, r = p ∨ r = q → Below wx.heap.size wx wz → Calls Tryz.prog 36 #[sp r] wz fun e w' => ∃ (a : Option Addr) (c : Nat), e = .returned (.slice a V.length c) ∧ Hid (w'.ownsRow wz.heap.size 97 6 (.slice a V.length c) V.length (V.flatMap c6)) ∧ Hid (Below wz.heap.size wz w')) := hid fun wz r hr hb => by
  rw [hV]; rcases hr with rfl | rfl
  ·exact (HQ.out wz hb).versions1
  ·exact (HQ.out wz hb).versions2
 have CP : Hid (∀ wz r, r = p ∨ r = q → Below wx.heap.size wx wz → Calls Tryz.prog 44 #[sp r, .agg #[.string ⟨#[]⟩, .string ⟨#[]⟩], .agg #[.int .u64 x.a, .int .u32 x.b, .int .u32 x.c]] wz fun e w' => ∃ (a : Option Addr) (c : Nat), e = .returned (.tuple #[.slice a P.length c, .int .i64 re]) ∧ Hid (w'.ownsRow wz.heap.size 113 2 (.slice a P.length c) P.length (Vs.flatP P)) ∧ Hid (Below wz.heap.size wz w')) := hid fun wz r hr hb => by
  rw [hP, hre]; rcases hr with rfl | rfl
  ·exact (HQ.out wz hb).read1 _ _ x
  ·exact (HQ.out wz hb).read2 _ _ x
 have CD : Hid (∀ wz r, r = p ∨ r = q → Below wx.heap.size wx wz → Calls Tryz.prog 45 #[sp r, .agg #[.string ⟨#[]⟩, .string ⟨#[]⟩], .agg #[.int .u64 x.a, .int .u32 x.b, .int .u32 x.c]] wz fun e w' => ∃ (a : Option Addr) (c : Nat), e = .returned (.slice a D.length c) ∧ Hid (Lk.OwnI wz.heap.size w' (.slice a D.length c) D.length D) ∧ Hid (Below wz.heap.size wz w')) := hid fun wz r hr hb => by
  rw [hD]; rcases hr with rfl | rfl
  ·exact (HQ.out wz hb).blocks1 _ _ x
  ·exact (HQ.out wz hb).blocks2 _ _ x
 have SE : Hid (∀ wz (a a' : Option Addr) (c c' : Nat), RowG Lg.ecs 7 wz a E → RowG Lg.ecs 7 wz a' E → Calls Tryz.prog 46 #[.slice a E.length c, .slice a' E.length c'] wz fun e w' => e = .returned (.bool true) ∧ Below wz.heap.size wz w') := hid fun wz a a' c c' h1 h2 => sameEntries_is h1 h2 (Nat.le_trans LE.out (by decide))
 have SV : Hid (∀ wz (a a' : Option Addr) (c c' : Nat), RowG c6 6 wz a V → RowG c6 6 wz a' V → Calls Tryz.prog 47 #[.slice a V.length c, .slice a' V.length c'] wz fun e w' => e = .returned (.bool true) ∧ Below wz.heap.size wz w') := hid fun wz a a' c c' h1 h2 => sameVersions_is h1 h2 (Nat.le_trans LV.out (by decide))
 have SPp : Hid (∀ wz (a a' : Option Addr) (c c' : Nat), Row2 wz a P → Row2 wz a' P → Calls Tryz.prog 48 #[.slice a P.length c, .slice a' P.length c'] wz fun e w' => e = .returned (.bool true) ∧ Below wz.heap.size wz w') := hid fun wz a a' c c' h1 h2 => Vs.samePairs_is (u := true) (by simp) h1 h2 (Nat.le_trans LP.out (by decide)) (Nat.le_trans LP.out (by decide))
 have SD : Hid (∀ wz (a a' : Option Addr) (c c' : Nat), Lk.RowI wz a D → Lk.RowI wz a' D → Calls Tryz.prog 49 #[.slice a D.length c, .slice a' D.length c'] wz fun e w' => e = .returned (.bool true) ∧ Below wz.heap.size wz w') := hid fun wz a a' c c' h1 h2 => Lk.sameids_is rfl h1 h2 (Nat.le_trans LD.out (by decide))
 obtain ⟨me, hme⟩ : ∃ m, E.length = m := ⟨_, rfl⟩; obtain ⟨mv, hmv⟩ : ∃ m, V.length = m := ⟨_, rfl⟩; obtain ⟨mp, hmp⟩ : ∃ m, P.length = m := ⟨_, rfl⟩; obtain ⟨md, hmd⟩ : ∃ m, D.length = m := ⟨_, rfl⟩; rw [hme] at LE CE SE; rw [hmv] at LV CV SV; rw [hmp] at LP CP SPp; rw [hmd] at LD CD SD; have lE := LE.out; have lV := LV.out; have lP := LP.out; have lD := LD.out; have HMD := hid hmd; have HMP := hid hmp; have HRF : Hid (Below wx.heap.size wx wx) := hid (Below.refl _ _); have HLX := hid hlx; clear Q ht hW hbx hE hV hP hD hre hme hmv hmp hmd hlx; go_enter Tryz.func15, Tryz.ntmps15
 go_upto_region 1 with fail
 rw [← hwx]; clear hwx; go_wp2_with fail
 refine (CE.out _ p (.inl rfl) HRF.out).mono ?_; rintro e we1 ⟨ae1, ce1, rfl, HRe1, HBe1⟩; have HWe1 := hid (Below.on HRF.out HBe1.out); go_wp2_with fail
 refine (CE.out _ p (.inl rfl) HWe1.out).mono ?_; rintro e we2 ⟨ae2, ce2, rfl, HRe2, HBe2⟩; have HWe2 := hid (Below.on HWe1.out HBe2.out); have HVe0 : Hid (Ov wx.heap.size we2 we2 91 7 ae1 me ce1) := hid (Ov.start (owns_keep HRe1.out fun g hg => HBe2.out.block g (World.ownsRow.lt HRe1.out g hg).2)); have HGe : Hid (∀ b, (Value.slice ae1 me ce1).ownBlock = some b → wx.heap.size ≤ b ∧ b < we1.heap.size) := hid fun b hb => World.ownsRow.lt HRe1.out b hb
 go_wp2_with fail
 go_loopg [9] me (fun g s9 wr => ∃ i : Nat, i ≤ me ∧ g = me - i ∧ s9 = .int .i64 i ∧ Hid (Ov wx.heap.size we2 wr 91 7 ae1 me ce1))
 case atStart => exact ⟨0, by omega, by omega, rfl, HVe0⟩
 case round =>
  obtain ⟨i, hi, rfl, rfl, HV⟩ := hrel; clear HVe0; by_cases hlt : i < me
  ·have hI : (i : Int) < (me : Int) := by omega
   obtain ⟨g1, hg1, hcs, hfz⟩ := HV.out.at hlt (by decide); subst hg1; obtain ⟨d0, k0⟩ := hcs 0 (by decide); have k0 : wr.cell? ⟨g1, i * 7, none⟩ = some d0 := k0; have f0 := hfz (i * 7); obtain ⟨d1, k1⟩ := hcs 1 (by decide); have f1 := hfz (i * 7 + 1); obtain ⟨d2, k2⟩ := hcs 2 (by decide); have f2 := hfz (i * 7 + 2); obtain ⟨d3, k3⟩ := hcs 3 (by decide); have f3 := hfz (i * 7 + 3); obtain ⟨d4, k4⟩ := hcs 4 (by decide); have f4 := hfz (i * 7 + 4); obtain ⟨d5, k5⟩ := hcs 5 (by decide); have f5 := hfz (i * 7 + 5); obtain ⟨d6, k6⟩ := hcs 6 (by decide); have f6 := hfz (i * 7 + 6); clear hcs hfz; go_wp2_with fail
   go_roundg (me - (i + 1))
   case measure => omega
   case rel => exact ⟨i + 1, by omega, rfl, by go_num, hid (((((((HV.out.set _ _).set _ _).set _ _).set _ _).set _ _).set _ _).set _ _)⟩
  ·obtain rfl : me = i := by omega
   have HVe := hid HV.out; clear hlt hi HV; rename World => we3
   have HPe : Hid (Below wx.heap.size wx we3) := hid ((Below.on HBe1.out HBe2.out).trans (HVe.out.2.below (B := wx.heap.size) (fun b hb => (HGe.out b hb).1) (Below.on HBe1.out HBe2.out).size)); have HWe3 : Hid (Below wx.heap.size wx we3) := hid (Below.on HRF.out HPe.out); have HSe : Hid (Lg.OwnL we1.heap.size we3 (.slice ae2 me ce2) me E) := hid (owns_keep HRe2.out fun g hg => HVe.out.2.block g (World.ownsRow.lt HRe2.out g hg).2 (fun e => by have h1 := (HGe.out g e).2; have h2 := (World.ownsRow.lt HRe2.out g hg).1; omega)); have HLe : Hid (∀ b, (Value.slice ae2 me ce2).ownBlock = some b → we1.heap.size ≤ b ∧ b < we3.heap.size) := hid fun b hb => World.ownsRow.lt HSe.out b hb
   have HZe : Hid (wx.heap.size ≤ we1.heap.size ∧ we1.heap.size ≤ we3.heap.size) := hid ⟨HBe1.out.size, Nat.le_trans HBe2.out.size HVe.out.2.size⟩; clear HRe1 HRe2 HBe1 HBe2 HWe1 HWe2; go_wp2_with fail
   refine (CV.out _ p (.inl rfl) HWe3.out).mono ?_; rintro e wv1 ⟨av1, cv1, rfl, HRv1, HBv1⟩; have HWv1 := hid (Below.on HWe3.out HBv1.out); go_wp2_with fail
   refine (CV.out _ p (.inl rfl) HWv1.out).mono ?_; rintro e wv2 ⟨av2, cv2, rfl, HRv2, HBv2⟩; have HWv2 := hid (Below.on HWv1.out HBv2.out); have HVv0 : Hid (Ov we3.heap.size wv2 wv2 97 6 av1 mv cv1) := hid (Ov.start (owns_keep HRv1.out fun g hg => HBv2.out.block g (World.ownsRow.lt HRv1.out g hg).2)); have HGv : Hid (∀ b, (Value.slice av1 mv cv1).ownBlock = some b → we3.heap.size ≤ b ∧ b < wv1.heap.size) := hid fun b hb => World.ownsRow.lt HRv1.out b hb
   go_wp2_with fail
   go_loopg [12] mv (fun g s12 wr => ∃ i : Nat, i ≤ mv ∧ g = mv - i ∧ s12 = .int .i64 i ∧ Hid (Ov we3.heap.size wv2 wr 97 6 av1 mv cv1))
   case atStart => exact ⟨0, by omega, by omega, rfl, HVv0⟩
   case round =>
    obtain ⟨i, hi, rfl, rfl, HV⟩ := hrel; clear HVv0; by_cases hlt : i < mv
    ·have hI : (i : Int) < (mv : Int) := by omega
     obtain ⟨g1, hg1, hcs, hfz⟩ := HV.out.at hlt (by decide); subst hg1; obtain ⟨d0, k0⟩ := hcs 0 (by decide); have k0 : wr.cell? ⟨g1, i * 6, none⟩ = some d0 := k0; have f0 := hfz (i * 6); obtain ⟨d1, k1⟩ := hcs 1 (by decide); have f1 := hfz (i * 6 + 1); obtain ⟨d2, k2⟩ := hcs 2 (by decide); have f2 := hfz (i * 6 + 2); obtain ⟨d3, k3⟩ := hcs 3 (by decide); have f3 := hfz (i * 6 + 3); obtain ⟨d4, k4⟩ := hcs 4 (by decide); have f4 := hfz (i * 6 + 4); obtain ⟨d5, k5⟩ := hcs 5 (by decide); have f5 := hfz (i * 6 + 5); clear hcs hfz; have hgl := World.block_lt_of_cell? _ _ k0; have HBr : Hid (Below wx.heap.size wx wr) := hid (HWv2.out.trans (HV.out.2.below (B := wx.heap.size) (fun b hb => Nat.le_trans HWe3.out.size (HGv.out b hb).1) HWv2.out.size)); have IT := hid (Lk.itoa_is (i := (i : Int)) (by omega) (by omega) wr (HT.out _ HBr.out))
     obtain ⟨tx, htx⟩ : ∃ tx, tx = Lk.itoaB (i : Int) := ⟨_, rfl⟩; rw [← htx] at IT; clear htx; go_wp2_with fail
     refine IT.out.mono ?_; rintro e w4 ⟨rfl, hb4⟩; replace k0 := cell_later hb4 k0; replace k1 := cell_later hb4 k1; replace k2 := cell_later hb4 k2; replace k3 := cell_later hb4 k3; replace k4 := cell_later hb4 k4; replace k5 := cell_later hb4 k5; replace f0 := (hb4.frozen (p := ⟨g1, i * 6, none⟩) hgl).trans f0; replace f1 := (hb4.frozen (p := ⟨g1, i * 6 + 1, none⟩) hgl).trans f1; replace f2 := (hb4.frozen (p := ⟨g1, i * 6 + 2, none⟩) hgl).trans f2; replace f3 := (hb4.frozen (p := ⟨g1, i * 6 + 3, none⟩) hgl).trans f3; replace f4 := (hb4.frozen (p := ⟨g1, i * 6 + 4, none⟩) hgl).trans f4; replace f5 := (hb4.frozen (p := ⟨g1, i * 6 + 5, none⟩) hgl).trans f5; go_wp2_with fail
     go_roundg (mv - (i + 1))
     case measure => omega
     case rel => exact ⟨i + 1, by omega, rfl, by go_num, hid (((((((HV.out.later hb4).set _ _).set _ _).set _ _).set _ _).set _ _).set _ _)⟩
    ·obtain rfl : mv = i := by omega
     have HVv := hid HV.out; clear hlt hi HV; rename World => wv3
     have HPv : Hid (Below we3.heap.size we3 wv3) := hid ((Below.on HBv1.out HBv2.out).trans (HVv.out.2.below (B := we3.heap.size) (fun b hb => (HGv.out b hb).1) (Below.on HBv1.out HBv2.out).size)); have HWv3 : Hid (Below wx.heap.size wx wv3) := hid (Below.on HWe3.out HPv.out); have HSv : Hid (wv3.ownsRow wv1.heap.size 97 6 (.slice av2 mv cv2) mv (V.flatMap c6)) := hid (owns_keep HRv2.out fun g hg => HVv.out.2.block g (World.ownsRow.lt HRv2.out g hg).2 (fun e => by have h1 := (HGv.out g e).2; have h2 := (World.ownsRow.lt HRv2.out g hg).1; omega)); have HLv : Hid (∀ b, (Value.slice av2 mv cv2).ownBlock = some b → wv1.heap.size ≤ b ∧ b < wv3.heap.size) := hid fun b hb => World.ownsRow.lt HSv.out b hb
     have HZv : Hid (we3.heap.size ≤ wv1.heap.size ∧ wv1.heap.size ≤ wv3.heap.size) := hid ⟨HBv1.out.size, Nat.le_trans HBv2.out.size HVv.out.2.size⟩; clear HRv1 HRv2 HBv1 HBv2 HWv1 HWv2; obtain ⟨y0, y1, y2⟩ := HX0.out _ HWv3.out; go_wp2_with fail
     refine (CP.out _ p (.inl rfl) HWv3.out).mono ?_; rintro e wp1 ⟨ap1, cp1, rfl, HRp1, HBp1⟩; have HWp1 := hid (Below.on HWv3.out HBp1.out); clear y0 y1 y2; obtain ⟨y0, y1, y2⟩ := HX0.out _ HWp1.out; go_wp2_with fail
     refine (CP.out _ p (.inl rfl) HWp1.out).mono ?_; rintro e wp2 ⟨ap2, cp2, rfl, HRp2, HBp2⟩; have HWp2 := hid (Below.on HWp1.out HBp2.out); clear y0 y1 y2; have HVp0 : Hid (Ov wv3.heap.size wp2 wp2 113 2 ap1 mp cp1) := hid (Ov.start (owns_keep HRp1.out fun g hg => HBp2.out.block g (World.ownsRow.lt HRp1.out g hg).2)); have HGp : Hid (∀ b, (Value.slice ap1 mp cp1).ownBlock = some b → wv3.heap.size ≤ b ∧ b < wp1.heap.size) := hid fun b hb => World.ownsRow.lt HRp1.out b hb
     go_wp2_with fail
     go_loopg [17] mp (fun g s17 wr => ∃ i : Nat, i ≤ mp ∧ g = mp - i ∧ s17 = .int .i64 i ∧ Hid (Ov wv3.heap.size wp2 wr 113 2 ap1 mp cp1))
     case atStart => exact ⟨0, by omega, by omega, rfl, HVp0⟩
     case round =>
      obtain ⟨i, hi, rfl, rfl, HV⟩ := hrel; clear HVp0; by_cases hlt : i < mp
      ·have hI : (i : Int) < (mp : Int) := by omega
       obtain ⟨g1, hg1, hcs, hfz⟩ := HV.out.at hlt (by decide); subst hg1; obtain ⟨d0, k0⟩ := hcs 0 (by decide); have k0 : wr.cell? ⟨g1, i * 2, none⟩ = some d0 := k0; have f0 := hfz (i * 2); obtain ⟨d1, k1⟩ := hcs 1 (by decide); have f1 := hfz (i * 2 + 1); clear hcs hfz; have hgl := World.block_lt_of_cell? _ _ k0; have HBr : Hid (Below wx.heap.size wx wr) := hid (HWp2.out.trans (HV.out.2.below (B := wx.heap.size) (fun b hb => Nat.le_trans HWv3.out.size (HGp.out b hb).1) HWp2.out.size)); have IT := hid (Lk.itoa_is (i := (i : Int)) (by omega) (by omega) wr (HT.out _ HBr.out)); obtain ⟨tx, htx⟩ : ∃ tx, tx = Lk.itoaB (i : Int) := ⟨_, rfl⟩; rw [← htx] at IT; clear htx; go_wp2_with fail
       refine IT.out.mono ?_; rintro e w4 ⟨rfl, hb4⟩; replace k0 := cell_later hb4 k0; replace k1 := cell_later hb4 k1; replace f0 := (hb4.frozen (p := ⟨g1, i * 2, none⟩) hgl).trans f0; replace f1 := (hb4.frozen (p := ⟨g1, i * 2 + 1, none⟩) hgl).trans f1; go_wp2_with fail
       go_roundg (mp - (i + 1))
       case measure => omega
       case rel => exact ⟨i + 1, by omega, rfl, by go_num, hid (((HV.out.later hb4).set _ _).set _ _)⟩
      ·obtain rfl : mp = i := by omega
       have HVp := hid HV.out; clear hlt hi HV; rename World => wp3
       have HPp : Hid (Below wv3.heap.size wv3 wp3) := hid ((Below.on HBp1.out HBp2.out).trans (HVp.out.2.below (B := wv3.heap.size) (fun b hb => (HGp.out b hb).1) (Below.on HBp1.out HBp2.out).size)); have HWp3 : Hid (Below wx.heap.size wx wp3) := hid (Below.on HWv3.out HPp.out); have HSp : Hid (wp3.ownsRow wp1.heap.size 113 2 (.slice ap2 mp cp2) mp (Vs.flatP P)) := hid (owns_keep HRp2.out fun g hg => HVp.out.2.block g (World.ownsRow.lt HRp2.out g hg).2 (fun e => by have h1 := (HGp.out g e).2; have h2 := (World.ownsRow.lt HRp2.out g hg).1; omega)); have HLp : Hid (∀ b, (Value.slice ap2 mp cp2).ownBlock = some b → wp1.heap.size ≤ b ∧ b < wp3.heap.size) := hid fun b hb => World.ownsRow.lt HSp.out b hb
       have HZp : Hid (wv3.heap.size ≤ wp1.heap.size ∧ wp1.heap.size ≤ wp3.heap.size) := hid ⟨HBp1.out.size, Nat.le_trans HBp2.out.size HVp.out.2.size⟩; clear HRp1 HRp2 HBp1 HBp2 HWp1 HWp2; obtain ⟨y0, y1, y2⟩ := HX0.out _ HWp3.out; go_wp2_with fail
       refine (CD.out _ p (.inl rfl) HWp3.out).mono ?_; rintro e wd1 ⟨ad1, cd1, rfl, HRd1, HBd1⟩; have HWd1 := hid (Below.on HWp3.out HBd1.out); clear y0 y1 y2; obtain ⟨y0, y1, y2⟩ := HX0.out _ HWd1.out; go_wp2_with fail
       refine (CD.out _ p (.inl rfl) HWd1.out).mono ?_; rintro e wd2 ⟨ad2, cd2, rfl, HRd2, HBd2⟩; have HWd2 := hid (Below.on HWd1.out HBd2.out); clear y0 y1 y2; have HVd0 : Hid (Ov wp3.heap.size wd2 wd2 38 2 ad1 md cd1) := hid (Ov.start (owns_keep HRd1.out fun g hg => HBd2.out.block g (World.ownsRow.lt HRd1.out g hg).2)); have HGd : Hid (∀ b, (Value.slice ad1 md cd1).ownBlock = some b → wp3.heap.size ≤ b ∧ b < wd1.heap.size) := hid fun b hb => World.ownsRow.lt HRd1.out b hb
       go_wp2_with fail
       go_loopg [20] md (fun g s20 wr => ∃ i : Nat, i ≤ md ∧ g = md - i ∧ s20 = .int .i64 i ∧ Hid (Ov wp3.heap.size wd2 wr 38 2 ad1 md cd1))
       case atStart => exact ⟨0, by omega, by omega, rfl, HVd0⟩
       case round =>
        obtain ⟨i, hi, rfl, rfl, HV⟩ := hrel; clear HVd0; by_cases hlt : i < md
        ·have hI : (i : Int) < (md : Int) := by omega
         obtain ⟨g1, hg1, hcs, hfz⟩ := HV.out.at hlt (by decide); subst hg1; obtain ⟨d0, k0⟩ := hcs 0 (by decide); have k0 : wr.cell? ⟨g1, i * 2, none⟩ = some d0 := k0; have f0 := hfz (i * 2); obtain ⟨d1, k1⟩ := hcs 1 (by decide); have f1 := hfz (i * 2 + 1); clear hcs hfz; go_wp2_with fail
         go_roundg (md - (i + 1))
         case measure => omega
         case rel => exact ⟨i + 1, by omega, rfl, by go_num, hid ((HV.out.set _ _).set _ _)⟩
        ·obtain rfl : md = i := by omega
         have HVd := hid HV.out; clear hlt hi HV; rename World => wd3
         have HPd : Hid (Below wp3.heap.size wp3 wd3) := hid ((Below.on HBd1.out HBd2.out).trans (HVd.out.2.below (B := wp3.heap.size) (fun b hb => (HGd.out b hb).1) (Below.on HBd1.out HBd2.out).size)); have HWd3 : Hid (Below wx.heap.size wx wd3) := hid (Below.on HWp3.out HPd.out); have HSd : Hid (Lk.OwnI wd1.heap.size wd3 (.slice ad2 md cd2) md D) := hid (owns_keep HRd2.out fun g hg => HVd.out.2.block g (World.ownsRow.lt HRd2.out g hg).2 (fun e => by have h1 := (HGd.out g e).2; have h2 := (World.ownsRow.lt HRd2.out g hg).1; omega)); have HLd : Hid (∀ b, (Value.slice ad2 md cd2).ownBlock = some b → wd1.heap.size ≤ b ∧ b < wd3.heap.size) := hid fun b hb => World.ownsRow.lt HSd.out b hb
         have HZd : Hid (wp3.heap.size ≤ wd1.heap.size ∧ wd1.heap.size ≤ wd3.heap.size) := hid ⟨HBd1.out.size, Nat.le_trans HBd2.out.size HVd.out.2.size⟩; clear HRd1 HRd2 HBd1 HBd2 HWd1 HWd2; have Hev : Hid (Below we3.heap.size we3 wd3) := hid (Below.on (Below.on HPv.out HPp.out) HPd.out); have Hvp : Hid (Below wv3.heap.size wv3 wd3) := hid (Below.on HPp.out HPd.out); obtain ⟨G, hG⟩ : ∃ G : Nat → Prop, G = fun b => (wx.heap.size ≤ b ∧ b < we1.heap.size) ∨ (we3.heap.size ≤ b ∧ b < wv1.heap.size) ∨ (wv3.heap.size ≤ b ∧ b < wp1.heap.size) ∨ (wp3.heap.size ≤ b ∧ b < wd1.heap.size) := ⟨_, rfl⟩
         have HG : Hid (∀ b, G b ↔ (wx.heap.size ≤ b ∧ b < we1.heap.size) ∨ (we3.heap.size ≤ b ∧ b < wv1.heap.size) ∨ (wv3.heap.size ≤ b ∧ b < wp1.heap.size) ∨ (wp3.heap.size ≤ b ∧ b < wd1.heap.size)) := hid fun b => by rw [hG]
         clear hG; have HSZ : Hid (we3.heap.size ≤ wv3.heap.size ∧ wv3.heap.size ≤ wp3.heap.size ∧ wp3.heap.size ≤ wd3.heap.size) := hid ⟨HPv.out.size, HPp.out.size, HPd.out.size⟩; have HF0 : Hid (Fo wx.heap.size G wd3 wd3 ae1 (me + 0) ce1 av1 (mv + 0) cv1 ap1 (mp + 0) cp1 ad1 (md + 0) cd1) := hid (by
          obtain ⟨xe, he⟩ := HVe.out.1; obtain ⟨xv, hv⟩ := HVv.out.1; obtain ⟨xp, hp⟩ := HVp.out.1; obtain ⟨xd, hd⟩ := HVd.out.1; have z := HSZ.out; have z1 := HZe.out; have z2 := HZv.out; have z3 := HZp.out; have z4 := HZd.out; exact ⟨⟨xe, owns_keep he fun g hg => Hev.out.block g (World.ownsRow.lt he g hg).2⟩, ⟨xv, Lk.owns_base (owns_keep hv fun g hg => Hvp.out.block g (World.ownsRow.lt hv g hg).2) (by omega)⟩, ⟨xp, Lk.owns_base (owns_keep hp fun g hg => HPd.out.block g (World.ownsRow.lt hp g hg).2) (by omega)⟩, ⟨xd, Lk.owns_base hd (by omega)⟩,
           fun b hb => .inl ((HG.out b).2 (.inl (HGe.out b hb))), fun b hb => .inl ((HG.out b).2 (.inr (.inl (HGv.out b hb)))), fun b hb => .inl ((HG.out b).2 (.inr (.inr (.inl (HGp.out b hb))))), fun b hb => .inl ((HG.out b).2 (.inr (.inr (.inr (HGd.out b hb))))), Onl.refl _ _, HWd3.out.size⟩)
         have HRe : Hid (∀ wz, Onl G wd3 wz → Lg.OwnL we1.heap.size wz (.slice ae2 me ce2) me E) := hid fun wz ho => owns_keep (owns_keep HSe.out fun g hg => Hev.out.block g (HLe.out g hg).2) fun g hg => ho.block g (Nat.lt_of_lt_of_le (HLe.out g hg).2 Hev.out.size) fun e => by
          have h1 := (HG.out g).1 e; have h2 := HLe.out g hg; have z := HSZ.out; have z1 := HZe.out; have z2 := HZv.out; have z3 := HZp.out; have z4 := HZd.out; omega
         have HRv : Hid (∀ wz, Onl G wd3 wz → wz.ownsRow wv1.heap.size 97 6 (.slice av2 mv cv2) mv (V.flatMap c6)) := hid fun wz ho => owns_keep (owns_keep HSv.out fun g hg => Hvp.out.block g (HLv.out g hg).2) fun g hg => ho.block g (Nat.lt_of_lt_of_le (HLv.out g hg).2 Hvp.out.size) fun e => by
          have h1 := (HG.out g).1 e; have h2 := HLv.out g hg; have z := HSZ.out; have z1 := HZe.out; have z2 := HZv.out; have z3 := HZp.out; have z4 := HZd.out; omega
         have HRp : Hid (∀ wz, Onl G wd3 wz → wz.ownsRow wp1.heap.size 113 2 (.slice ap2 mp cp2) mp (Vs.flatP P)) := hid fun wz ho => owns_keep (owns_keep HSp.out fun g hg => HPd.out.block g (HLp.out g hg).2) fun g hg => ho.block g (Nat.lt_of_lt_of_le (HLp.out g hg).2 HPd.out.size) fun e => by
          have h1 := (HG.out g).1 e; have h2 := HLp.out g hg; have z := HSZ.out; have z1 := HZe.out; have z2 := HZv.out; have z3 := HZp.out; have z4 := HZd.out; omega
         have HRd : Hid (∀ wz, Onl G wd3 wz → Lk.OwnI wd1.heap.size wz (.slice ad2 md cd2) md D) := hid fun wz ho => owns_keep HSd.out fun g hg => ho.block g (HLd.out g hg).2 fun e => by
          have h1 := (HG.out g).1 e; have h2 := HLd.out g hg; have z := HSZ.out; have z1 := HZe.out; have z2 := HZv.out; have z3 := HZp.out; have z4 := HZd.out; omega
         have HBG : Hid (∀ wz, Onl G wd3 wz → Below wx.heap.size wx wz) := hid fun wz ho => HWd3.out.trans (ho.below (B := wx.heap.size) (fun b hb => by
          have h1 := (HG.out b).1 hb; have z := HSZ.out; have z0 := HWe3.out.size; have z1 := HZe.out; have z2 := HZv.out; have z3 := HZp.out; have z4 := HZd.out; omega) HWd3.out.size)
         clear HVe HVv HVp HVd HGe HGv HGp HGd HSe HSv HSp HSd HLe HLv HLp HLd HZe HZv HZp HZd Hev Hvp HPe HPv HPp HPd HSZ; go_wp2_with fail
         go_loopg [7, 10, 13, 18, 21, 22] 70 (fun g s7 s10 s13 s18 s21 s22 wr => ∃ (j N : Nat) (ae : Option Addr) (ce : Nat) (av : Option Addr) (cv : Nat) (ap : Option Addr) (cp : Nat) (ad : Option Addr) (cd : Nat), j ≤ 70 ∧ g = 70 - j ∧ s22 = .int .i64 j ∧ s21 = .int .i64 N ∧ (j = 70 → 280 ≤ N) ∧ s7 = .slice ae (me + j) ce ∧ s10 = .slice av (mv + j) cv ∧ s13 = .slice ap (mp + j) cp ∧ s18 = .slice ad (md + j) cd ∧ Hid (Fo wx.heap.size G wd3 wr ae (me + j) ce av (mv + j) cv ap (mp + j) cp ad (md + j) cd))
         case atStart => exact ⟨0, 0, ae1, ce1, av1, cv1, ap1, cp1, ad1, cd1, by omega, by omega, rfl, rfl, by omega, rfl, rfl, rfl, rfl, HF0⟩
         case round =>
          obtain ⟨j, N, ae, ce, av, cv, ap, cp, ad, cd, hj, rfl, rfl, rfl, hN, rfl, rfl, rfl, rfl, HF⟩ := hrel; clear HF0; by_cases hlt : j < 70
          ·have hJ : (j : Int) < 70 := by omega
           obtain ⟨xe, hxe⟩ := HF.out.e; have HXE := hid hxe; have hle : Hid (wx.heap.size ≤ wr.heap.size) := hid HF.out.le; clear hxe; go_wp2_with (first
            | (at_builtin; refine step_Fe rfl _ _ rfl rfl HXE.out rfl (by omega) HF.out.le ?_; intro v' w1 h1 h2 h3; obtain ⟨ae', ce', e9⟩ := owns_slice h1; subst e9; have HF1 := hid ((HF.out.later (Below.al (Below.refl _ _) _)).moree h1 h2 h3); clear h1 h2 h3; obtain ⟨xv, hxv⟩ := HF1.out.v; have HXV := hid hxv; clear hxv)
            | (at_builtin; refine step_Fv rfl _ _ rfl rfl HXV.out rfl (by omega) HF1.out.le ?_; intro v' w2 h1 h2 h3; obtain ⟨av', cv', e9⟩ := owns_slice h1; subst e9; have HF2 := hid ((HF1.out.later (Below.al (Below.refl _ _) _)).morev h1 h2 h3); clear h1 h2 h3; obtain ⟨xp, hxp⟩ := HF2.out.p; have HXP := hid hxp; clear hxp)
            | (at_builtin; refine step_Fp rfl _ _ rfl rfl HXP.out rfl (by omega) HF2.out.le ?_; intro v' w3 h1 h2 h3; obtain ⟨ap', cp', e9⟩ := owns_slice h1; subst e9; have HF3 := hid ((HF2.out.later (Below.al (Below.refl _ _) _)).morep h1 h2 h3); clear h1 h2 h3; obtain ⟨xd, hxd⟩ := HF3.out.i; have HXD := hid hxd; clear hxd)
            | (at_builtin; refine step_Fi rfl _ _ rfl rfl HXD.out rfl (by omega) HF3.out.le ?_; intro v' w4 h1 h2 h3; obtain ⟨ad', cd', e9⟩ := owns_slice h1; subst e9; have HF4 := hid ((HF3.out.later (Below.al (Below.refl _ _) _)).morei h1 h2 h3); clear h1 h2 h3))
           go_roundg (70 - (j + 1))
           case measure => omega
           case rel => exact ⟨j + 1, me + mv + mp + md + 4 * (j + 1), ae', ce', av', cv', ap', cp', ad', cd', by omega, rfl, by go_num, by go_num, by omega, rfl, rfl, rfl, rfl, HF4⟩
          ·obtain rfl : j = 70 := by omega
           have hN2 : ¬ ((N : Int) < 280) := by have := hN rfl; omega
           have HO := hid HF.out.on; clear hlt hj HF hN; rename World => wf
           obtain ⟨y0, y1, y2⟩ := HX0.out _ (HBG.out _ HO.out); have HB0 := hid (HBG.out _ HO.out); go_wp2_with fail
           refine (CP.out _ q (.inr rfl) HB0.out).mono ?_; rintro e u1 ⟨aw, cw, rfl, HW, HU1⟩; have HB1 := hid (Below.on HB0.out HU1.out); have HE1 : Hid (∀ wz, Below u1.heap.size u1 wz → RowG Lg.ecs 7 wz ae2 E ∧ RowG c6 6 wz av2 V ∧ Row2 wz ap2 P ∧ Lk.RowI wz ad2 D ∧ Row2 wz aw P) := hid fun wz hb => ⟨(rowE_of (HRe.out _ HO.out)).later (Below.on HU1.out hb), (rowV_of (HRv.out _ HO.out)).later (Below.on HU1.out hb), Row2.later (rowP_of (HRp.out _ HO.out) HMP.out) (Below.on HU1.out hb), rowI_later (rowI_of (HRd.out _ HO.out) HMD.out) (Below.on HU1.out hb), Row2.later (rowP_of HW.out HMP.out) hb⟩
           clear HO HRe HRv HRp HRd y0 y1 y2; go_wp2_with fail
           refine (CE.out _ q (.inr rfl) HB1.out).mono ?_; rintro e u2 ⟨a2, c2, rfl, HR2, HU2⟩; have HB2 := hid (Below.on HB1.out HU2.out); have HK2 : Hid (Below u1.heap.size u1 u2) := HU2; go_wp2_with fail
           refine (SE.out _ _ _ _ _ (HE1.out _ HK2.out).1 (rowE_of HR2.out)).mono ?_; rintro e u3 ⟨rfl, hu3⟩; have HB3 := hid (Below.on HB2.out hu3); have HK3 := hid (Below.on HK2.out hu3); clear hu3 HR2 HU2; go_wp2_with fail
           refine (CV.out _ q (.inr rfl) HB3.out).mono ?_; rintro e u4 ⟨a4, c4, rfl, HR4, HU4⟩; have HB4 := hid (Below.on HB3.out HU4.out); have HK4 := hid (Below.on HK3.out HU4.out); go_wp2_with fail
           refine (SV.out _ _ _ _ _ (HE1.out _ HK4.out).2.1 (rowV_of HR4.out)).mono ?_; rintro e u5 ⟨rfl, hu5⟩; have HB5 := hid (Below.on HB4.out hu5); have HK5 := hid (Below.on HK4.out hu5); clear hu5 HR4 HU4; go_wp2_with fail
           refine (SPp.out _ _ _ _ _ (HE1.out _ HK5.out).2.2.1 (HE1.out _ HK5.out).2.2.2.2).mono ?_; rintro e u6 ⟨rfl, hu6⟩; have HB6 := hid (Below.on HB5.out hu6); have HK6 := hid (Below.on HK5.out hu6); clear hu6; obtain ⟨y0, y1, y2⟩ := HX0.out _ HB6.out; go_wp2_with fail
           refine (CD.out _ q (.inr rfl) HB6.out).mono ?_; rintro e u7 ⟨a7, c7, rfl, HR7, HU7⟩; have HB7 := hid (Below.on HB6.out HU7.out); have HK7 := hid (Below.on HK6.out HU7.out); clear y0 y1 y2; go_wp2_with fail
           refine (SD.out _ _ _ _ _ (HE1.out _ HK7.out).2.2.2.1 (rowI_of HR7.out HMD.out)).mono ?_; rintro e u8 ⟨rfl, hu8⟩; have HB8 := hid (Below.on HB7.out hu8); have HK8 := hid (Below.on HK7.out hu8); clear hu8 HR7 HU7; obtain ⟨y0, y1, y2⟩ := HX0.out _ HB8.out; go_wp2_with fail
           refine (CP.out _ p (.inl rfl) HB8.out).mono ?_; rintro e u9 ⟨a9, c9, rfl, HR9, HU9⟩; have HB9 := hid (Below.on HB8.out HU9.out); have HK9 := hid (Below.on HK8.out HU9.out); have HE9 : Hid (∀ wz, Below u9.heap.size u9 wz → Row2 wz aw P ∧ Row2 wz a9 P) := hid fun wz hb => ⟨(HE1.out _ (Below.on HK9.out hb)).2.2.2.2, Row2.later (rowP_of HR9.out HMP.out) hb⟩
           clear y0 y1 y2 HU9 HR9 HE1; obtain ⟨y0, y1, y2⟩ := HX0.out _ HB9.out; have HCE : Hid (∀ wz r, r = p ∨ r = q → Below u9.heap.size u9 wz → _) := hid fun wz r hr hb => CE.out wz r hr (Below.on HB9.out hb)
           have HCV : Hid (∀ wz r, r = p ∨ r = q → Below u9.heap.size u9 wz → _) := hid fun wz r hr hb => CV.out wz r hr (Below.on HB9.out hb)
           have HCD : Hid (∀ wz r, r = p ∨ r = q → Below u9.heap.size u9 wz → _) := hid fun wz r hr hb => CD.out wz r hr (Below.on HB9.out hb)
           go_wp2_with fail
           go_region_held3 (fun w' => w'.cell? ⟨w.heap.size, 0, none⟩ = some (.int .u64 x.a) ∧ w'.cell? ⟨w.heap.size, 1, none⟩ = some (.int .u32 x.b) ∧ w'.cell? ⟨w.heap.size, 2, none⟩ = some (.int .u32 x.c) ∧ Below u9.heap.size u9 w')
            ((refine (fun (hB : Below u9.heap.size u9 _) => ⟨cell_later hB y0, cell_later hB y1, cell_later hB y2, hB⟩) ?_; (repeat (first | with_reducible exact Below.refl _ _ | with_reducible assumption | with_reducible refine Below.drew ?_ | with_reducible refine Below.al ?_ _ | with_reducible refine Below.setCell ?_ (by first | exact Nat.le_refl _ | (simp; omega) | (simp; done)) _ | with_reducible refine Below.on ?_ (by assumption)))))
            (first
             | (go_at_call_of 33 (sp p); refine (HCE.out _ p (.inl rfl) (by (repeat (first | with_reducible exact Below.refl _ _ | with_reducible assumption | with_reducible refine Below.drew ?_ | with_reducible refine Below.al ?_ _ | with_reducible refine Below.setCell ?_ (by first | exact Nat.le_refl _ | (simp; omega) | (simp; done)) _ | with_reducible refine Below.on ?_ (by assumption))))).mono ?_; rintro e vA ⟨aA, cA, rfl, HRA, HA⟩; have hA' : Below u9.heap.size u9 vA := (by refine Below.on ?_ HA.out; (repeat (first | with_reducible exact Below.refl _ _ | with_reducible assumption | with_reducible refine Below.drew ?_ | with_reducible refine Below.al ?_ _ | with_reducible refine Below.setCell ?_ (by first | exact Nat.le_refl _ | (simp; omega) | (simp; done)) _ | with_reducible refine Below.on ?_ (by assumption)))); have hA := HA.out)
             | (go_at_call_of 33 (sp q); refine (HCE.out _ q (.inr rfl) (by (repeat (first | with_reducible exact Below.refl _ _ | with_reducible assumption | with_reducible refine Below.drew ?_ | with_reducible refine Below.al ?_ _ | with_reducible refine Below.setCell ?_ (by first | exact Nat.le_refl _ | (simp; omega) | (simp; done)) _ | with_reducible refine Below.on ?_ (by assumption))))).mono ?_; rintro e vB ⟨aB, cB, rfl, HRB, HB⟩; have hB' : Below u9.heap.size u9 vB := (by refine Below.on ?_ HB.out; (repeat (first | with_reducible exact Below.refl _ _ | with_reducible assumption | with_reducible refine Below.drew ?_ | with_reducible refine Below.al ?_ _ | with_reducible refine Below.setCell ?_ (by first | exact Nat.le_refl _ | (simp; omega) | (simp; done)) _ | with_reducible refine Below.on ?_ (by assumption)))); have hB := HB.out)
             | (go_at_call 46; refine (SE.out _ _ _ _ _ ((rowE_of HRA.out).later (by (repeat (first | with_reducible exact Below.refl _ _ | with_reducible assumption | with_reducible refine Below.drew ?_ | with_reducible refine Below.al ?_ _ | with_reducible refine Below.setCell ?_ (by first | exact Nat.le_refl _ | (simp; omega) | (simp; done)) _ | with_reducible refine Below.on ?_ (by assumption))))) ((rowE_of HRB.out).later (by (repeat (first | with_reducible exact Below.refl _ _ | with_reducible assumption | with_reducible refine Below.drew ?_ | with_reducible refine Below.al ?_ _ | with_reducible refine Below.setCell ?_ (by first | exact Nat.le_refl _ | (simp; omega) | (simp; done)) _ | with_reducible refine Below.on ?_ (by assumption)))))).mono ?_; rintro e vC ⟨rfl, hC⟩; have hC' : Below u9.heap.size u9 vC := (by refine Below.on ?_ hC; (repeat (first | with_reducible exact Below.refl _ _ | with_reducible assumption | with_reducible refine Below.drew ?_ | with_reducible refine Below.al ?_ _ | with_reducible refine Below.setCell ?_ (by first | exact Nat.le_refl _ | (simp; omega) | (simp; done)) _ | with_reducible refine Below.on ?_ (by assumption)))))
             | (go_at_call_of 36 (sp p); refine (HCV.out _ p (.inl rfl) (by (repeat (first | with_reducible exact Below.refl _ _ | with_reducible assumption | with_reducible refine Below.drew ?_ | with_reducible refine Below.al ?_ _ | with_reducible refine Below.setCell ?_ (by first | exact Nat.le_refl _ | (simp; omega) | (simp; done)) _ | with_reducible refine Below.on ?_ (by assumption))))).mono ?_; rintro e vD ⟨aD, cD, rfl, HRD, HD⟩; have hD' : Below u9.heap.size u9 vD := (by refine Below.on ?_ HD.out; (repeat (first | with_reducible exact Below.refl _ _ | with_reducible assumption | with_reducible refine Below.drew ?_ | with_reducible refine Below.al ?_ _ | with_reducible refine Below.setCell ?_ (by first | exact Nat.le_refl _ | (simp; omega) | (simp; done)) _ | with_reducible refine Below.on ?_ (by assumption)))); have hD := HD.out)
             | (go_at_call_of 36 (sp q); refine (HCV.out _ q (.inr rfl) (by (repeat (first | with_reducible exact Below.refl _ _ | with_reducible assumption | with_reducible refine Below.drew ?_ | with_reducible refine Below.al ?_ _ | with_reducible refine Below.setCell ?_ (by first | exact Nat.le_refl _ | (simp; omega) | (simp; done)) _ | with_reducible refine Below.on ?_ (by assumption))))).mono ?_; rintro e vE ⟨aE, cE, rfl, HRE, HE⟩; have hE' : Below u9.heap.size u9 vE := (by refine Below.on ?_ HE.out; (repeat (first | with_reducible exact Below.refl _ _ | with_reducible assumption | with_reducible refine Below.drew ?_ | with_reducible refine Below.al ?_ _ | with_reducible refine Below.setCell ?_ (by first | exact Nat.le_refl _ | (simp; omega) | (simp; done)) _ | with_reducible refine Below.on ?_ (by assumption)))); have hE := HE.out)
             | (go_at_call 47; refine (SV.out _ _ _ _ _ ((rowV_of HRD.out).later (by (repeat (first | with_reducible exact Below.refl _ _ | with_reducible assumption | with_reducible refine Below.drew ?_ | with_reducible refine Below.al ?_ _ | with_reducible refine Below.setCell ?_ (by first | exact Nat.le_refl _ | (simp; omega) | (simp; done)) _ | with_reducible refine Below.on ?_ (by assumption))))) ((rowV_of HRE.out).later (by (repeat (first | with_reducible exact Below.refl _ _ | with_reducible assumption | with_reducible refine Below.drew ?_ | with_reducible refine Below.al ?_ _ | with_reducible refine Below.setCell ?_ (by first | exact Nat.le_refl _ | (simp; omega) | (simp; done)) _ | with_reducible refine Below.on ?_ (by assumption)))))).mono ?_; rintro e vF ⟨rfl, hF⟩; have hF' : Below u9.heap.size u9 vF := (by refine Below.on ?_ hF; (repeat (first | with_reducible exact Below.refl _ _ | with_reducible assumption | with_reducible refine Below.drew ?_ | with_reducible refine Below.al ?_ _ | with_reducible refine Below.setCell ?_ (by first | exact Nat.le_refl _ | (simp; omega) | (simp; done)) _ | with_reducible refine Below.on ?_ (by assumption)))))
             | (go_at_call 48; refine (SPp.out _ _ _ _ _ (HE9.out _ (by (repeat (first | with_reducible exact Below.refl _ _ | with_reducible assumption | with_reducible refine Below.drew ?_ | with_reducible refine Below.al ?_ _ | with_reducible refine Below.setCell ?_ (by first | exact Nat.le_refl _ | (simp; omega) | (simp; done)) _ | with_reducible refine Below.on ?_ (by assumption))))).2 (HE9.out _ (by (repeat (first | with_reducible exact Below.refl _ _ | with_reducible assumption | with_reducible refine Below.drew ?_ | with_reducible refine Below.al ?_ _ | with_reducible refine Below.setCell ?_ (by first | exact Nat.le_refl _ | (simp; omega) | (simp; done)) _ | with_reducible refine Below.on ?_ (by assumption))))).1).mono ?_; rintro e vG ⟨rfl, hG⟩; have hG' : Below u9.heap.size u9 vG := (by refine Below.on ?_ hG; (repeat (first | with_reducible exact Below.refl _ _ | with_reducible assumption | with_reducible refine Below.drew ?_ | with_reducible refine Below.al ?_ _ | with_reducible refine Below.setCell ?_ (by first | exact Nat.le_refl _ | (simp; omega) | (simp; done)) _ | with_reducible refine Below.on ?_ (by assumption)))))
             | (go_at_call_of 45 (sp p); refine (HCD.out _ p (.inl rfl) (by (repeat (first | with_reducible exact Below.refl _ _ | with_reducible assumption | with_reducible refine Below.drew ?_ | with_reducible refine Below.al ?_ _ | with_reducible refine Below.setCell ?_ (by first | exact Nat.le_refl _ | (simp; omega) | (simp; done)) _ | with_reducible refine Below.on ?_ (by assumption))))).mono ?_; rintro e vH ⟨aH, cH, rfl, HRH, HH⟩; have hH' : Below u9.heap.size u9 vH := (by refine Below.on ?_ HH.out; (repeat (first | with_reducible exact Below.refl _ _ | with_reducible assumption | with_reducible refine Below.drew ?_ | with_reducible refine Below.al ?_ _ | with_reducible refine Below.setCell ?_ (by first | exact Nat.le_refl _ | (simp; omega) | (simp; done)) _ | with_reducible refine Below.on ?_ (by assumption)))); have hH := HH.out)
             | (go_at_call_of 45 (sp q); refine (HCD.out _ q (.inr rfl) (by (repeat (first | with_reducible exact Below.refl _ _ | with_reducible assumption | with_reducible refine Below.drew ?_ | with_reducible refine Below.al ?_ _ | with_reducible refine Below.setCell ?_ (by first | exact Nat.le_refl _ | (simp; omega) | (simp; done)) _ | with_reducible refine Below.on ?_ (by assumption))))).mono ?_; rintro e vI ⟨aI, cI, rfl, HRI, HI⟩; have hI' : Below u9.heap.size u9 vI := (by refine Below.on ?_ HI.out; (repeat (first | with_reducible exact Below.refl _ _ | with_reducible assumption | with_reducible refine Below.drew ?_ | with_reducible refine Below.al ?_ _ | with_reducible refine Below.setCell ?_ (by first | exact Nat.le_refl _ | (simp; omega) | (simp; done)) _ | with_reducible refine Below.on ?_ (by assumption)))); have hI := HI.out)
             | (go_at_call 49; refine (SD.out _ _ _ _ _ (rowI_later (rowI_of HRH.out HMD.out) (by (repeat (first | with_reducible exact Below.refl _ _ | with_reducible assumption | with_reducible refine Below.drew ?_ | with_reducible refine Below.al ?_ _ | with_reducible refine Below.setCell ?_ (by first | exact Nat.le_refl _ | (simp; omega) | (simp; done)) _ | with_reducible refine Below.on ?_ (by assumption))))) (rowI_later (rowI_of HRI.out HMD.out) (by (repeat (first | with_reducible exact Below.refl _ _ | with_reducible assumption | with_reducible refine Below.drew ?_ | with_reducible refine Below.al ?_ _ | with_reducible refine Below.setCell ?_ (by first | exact Nat.le_refl _ | (simp; omega) | (simp; done)) _ | with_reducible refine Below.on ?_ (by assumption)))))).mono ?_; rintro e vJ ⟨rfl, hJ⟩; have hJ' : Below u9.heap.size u9 vJ := (by refine Below.on ?_ hJ; (repeat (first | with_reducible exact Below.refl _ _ | with_reducible assumption | with_reducible refine Below.drew ?_ | with_reducible refine Below.al ?_ _ | with_reducible refine Below.setCell ?_ (by first | exact Nat.le_refl _ | (simp; omega) | (simp; done)) _ | with_reducible refine Below.on ?_ (by assumption))))))
           all_goals (try go_wp2_with fail)
           all_goals go_ret
           all_goals exact ⟨rfl, Below.on HBX.out (Below.on HB9.out (by (repeat (first | with_reducible exact Below.refl _ _ | with_reducible assumption | with_reducible refine Below.drew ?_ | with_reducible refine Below.al ?_ _ | with_reducible refine Below.setCell ?_ (by first | exact Nat.le_refl _ | (simp; omega) | (simp; done)) _ | with_reducible refine Below.on ?_ (by assumption)))))⟩
end Go.Proofs.YtneojeidpfjpbaaGreatDoor.Ig
namespace Go.Proofs.YtneojeidpfjpbaaGreatDoor.Lk
open Go.RowKit Go.Sort
def sameW (a b : Wr) : Bool := decide (a.key = b.key) && (a.del == b.del) && decide (a.val = b.val)
theorem sameW_eq {a b : Wr} : sameW a b = true ↔ a = b := by
 obtain ⟨a1, a2, a3⟩ := a; obtain ⟨b1, b2, b3⟩ := b; simp [sameW, and_assoc]
theorem run_neSt (a b c x y z : Int) (w : World) : (binOp .neq 28 (.agg #[.int .u64 a, .int .u32 b, .int .u32 c]) (.agg #[.int .u64 x, .int .u32 y, .int .u32 z])).run Tryz.prog w = .ok (.bool (!decide (a = x ∧ b = y ∧ c = z))) w := by
 by_cases h1 : a = x <;> by_cases h2 : b = y <;> by_cases h3 : c = z <;> simp [h1, h2, h3, go_sem, Tryz.underlying28]
theorem beq_bytes (a b : ByteArray) : (a.toList == b.toList) = decide (a = b) := by
 rw [Bool.eq_iff_iff]; simp only [beq_iff_eq, decide_eq_true_eq]
 exact ⟨bytes_inj, fun e => by rw [e]⟩
theorem run_neSp (a b : T2) (w : World) : (binOp .neq 25 (.agg #[.string a.1, .string a.2]) (.agg #[.string b.1, .string b.2])).run Tryz.prog w = .ok (.bool (!decide (a = b))) w := by
 obtain ⟨a1, a2⟩ := a; obtain ⟨b1, b2⟩ := b; by_cases h1 : a1 = b1 <;> by_cases h2 : a2 = b2 <;> simp [h1, h2, beq_bytes, go_sem, Tryz.underlying25]
theorem run_neWr (a b : Wr) (w : World) : (binOp .neq 103 (.agg #[.string a.key, .bool a.del, .string a.val]) (.agg #[.string b.key, .bool b.del, .string b.val])).run Tryz.prog w = .ok (.bool (!sameW a b)) w := by
 obtain ⟨a1, a2, a3⟩ := a; obtain ⟨b1, b2, b3⟩ := b; by_cases h1 : a1 = b1 <;> by_cases h2 : a2 = b2 <;> by_cases h3 : a3 = b3 <;> simp [h1, h2, h3, sameW, beq_bytes, go_sem, Tryz.underlying103]
theorem same_not {x y : Hv} {w : World} (h : ¬ (x.h.id = y.h.id ∧ x.h.home = y.h.home ∧ (x.h.w = y.h.w ∧ x.h.l = y.h.l ∧ x.h.n = y.h.n) ∧ x.h.rs.length = y.h.rs.length ∧ x.h.ws.length = y.h.ws.length)) :
  Calls Tryz.prog 14 #[x.val, y.val] w fun e w' => e = .returned (.bool false) ∧ Below w.heap.size w w' := by
 obtain ⟨⟨⟨xc, xs⟩, xh, xw, xl, xn, xr, xv⟩, xra, xrc, xwa, xwc⟩ := x; obtain ⟨⟨⟨yc, ys⟩, yh, yw, yl, yn, yr, yv⟩, yra, yrc, ywa, ywc⟩ := y; simp only at h; by_cases h1 : ((xc, xs) : Ix) = (yc, ys)
 ·injection h1 with e1 e2
  subst e1 e2; have q1 : ∀ W, (binOp .neq 38 (.agg #[.int .u32 xc, .int .u32 xs]) (.agg #[.int .u32 xc, .int .u32 xs])).run Tryz.prog W = .ok (.bool false) W := fun W => by
   have := run_neI (xc, xs) (xc, xs) W; rwa [show sameI (xc, xs) (xc, xs) = true by simp [sameI]] at this
  by_cases h2 : xh = yh
  ·subst h2; by_cases h3 : xw = yw ∧ xl = yl ∧ xn = yn
   ·obtain ⟨rfl, rfl, rfl⟩ := h3; have q3 : ∀ W, (binOp .neq 28 (.agg #[.int .u64 xw, .int .u32 xl, .int .u32 xn]) (.agg #[.int .u64 xw, .int .u32 xl, .int .u32 xn])).run Tryz.prog W = .ok (.bool false) W := fun W => by
     have := run_neSt xw xl xn xw xl xn W; simpa using this
    by_cases h4 : xr.length = yr.length
    ·have h5 : ¬ xv.length = yv.length := fun e => h ⟨rfl, rfl, ⟨rfl, rfl, rfl⟩, h4, e⟩
     have h4' : ((xr.length : Int) != (yr.length : Int)) = false := by rw [h4]; simp
     have h5' : ((xv.length : Int) != (yv.length : Int)) = true := by simp; omega
     clear h h4 h5; go_enter Tryz.func14, Tryz.ntmps14
     go_wp2_with fail
     go_ret
     exact ⟨rfl, by (repeat (first | exact Below.refl _ _ | assumption | refine Below.drew ?_ | refine Below.al ?_ _ | refine Below.setCell ?_ (by first | exact Nat.le_refl _ | (simp; omega) | (simp; done)) _ | refine Below.on ?_ (by assumption)))⟩
    ·have h4' : ((xr.length : Int) != (yr.length : Int)) = true := by simp; omega
     clear h h4; go_enter Tryz.func14, Tryz.ntmps14
     go_wp2_with fail
     go_ret
     exact ⟨rfl, by (repeat (first | exact Below.refl _ _ | assumption | refine Below.drew ?_ | refine Below.al ?_ _ | refine Below.setCell ?_ (by first | exact Nat.le_refl _ | (simp; omega) | (simp; done)) _ | refine Below.on ?_ (by assumption)))⟩
   ·have q3 : ∀ W, (binOp .neq 28 (.agg #[.int .u64 xw, .int .u32 xl, .int .u32 xn]) (.agg #[.int .u64 yw, .int .u32 yl, .int .u32 yn])).run Tryz.prog W = .ok (.bool true) W := fun W => by
     have := run_neSt xw xl xn yw yl yn W; rwa [decide_eq_false h3] at this
    clear h h3; go_enter Tryz.func14, Tryz.ntmps14
    go_wp2_with fail
    go_ret
    exact ⟨rfl, by (repeat (first | exact Below.refl _ _ | assumption | refine Below.drew ?_ | refine Below.al ?_ _ | refine Below.setCell ?_ (by first | exact Nat.le_refl _ | (simp; omega) | (simp; done)) _ | refine Below.on ?_ (by assumption)))⟩
  ·have h2' : (xh != yh) = true := by simpa using h2
   clear h h2; go_enter Tryz.func14, Tryz.ntmps14
   go_wp2_with fail
   go_ret
   exact ⟨rfl, by (repeat (first | exact Below.refl _ _ | assumption | refine Below.drew ?_ | refine Below.al ?_ _ | refine Below.setCell ?_ (by first | exact Nat.le_refl _ | (simp; omega) | (simp; done)) _ | refine Below.on ?_ (by assumption)))⟩
 ·have q1 : ∀ W, (binOp .neq 38 (.agg #[.int .u32 xc, .int .u32 xs]) (.agg #[.int .u32 yc, .int .u32 ys])).run Tryz.prog W = .ok (.bool true) W := fun W => by
   have := run_neI (xc, xs) (yc, ys) W; rwa [show sameI (xc, xs) (yc, ys) = false from decide_eq_false h1] at this
  clear h h1; go_enter Tryz.func14, Tryz.ntmps14
  go_wp2_with fail
  go_ret
  exact ⟨rfl, by (repeat (first | exact Below.refl _ _ | assumption | refine Below.drew ?_ | refine Below.al ?_ _ | refine Below.setCell ?_ (by first | exact Nat.le_refl _ | (simp; omega) | (simp; done)) _ | refine Below.on ?_ (by assumption)))⟩
end Go.Proofs.YtneojeidpfjpbaaGreatDoor.Lk
