import Derived.Test.YtofpaldolcnmiaaGreatB51
import Derived.Test.YtofpaldolcnmiaaGreatB52
set_option linter.unusedVariables false
set_option maxHeartbeats 4000000
namespace Go.Proofs.YtofpaldolcnmiaaGreat
namespace Ig
open Go.RowKit Go.Sort Ys
theorem okY_of {m : Nat} {s : ByteArray} (h : okX m s) (hm : m ≤ 1000) : okY s := by
 have h1 : s.size ≤ m := h; show s.size < _
 omega
theorem okD_of {c : Im} (h : okImg c) : okImgD c := by
 obtain ⟨h1, h2, h3, ⟨h4, l4⟩, ⟨h5, l5⟩, h6, l6⟩ := h; refine ⟨h1, h2, h3, ⟨fun x hx => ?_, l4⟩, ⟨h5, l5⟩, fun v hv => ?_, l6⟩
 ·obtain ⟨q1, q2, ⟨q3, m3⟩, q4, m4⟩ := h4 x hx; exact ⟨q1, q2, ⟨fun y hy => ⟨okY_of (q3 y hy).1 (by decide), okY_of (q3 y hy).2 (by decide)⟩, m3⟩, fun y hy => ⟨okY_of (q4 y hy).1 (by decide), okY_of (q4 y hy).2 (by decide)⟩, m4⟩
 ·obtain ⟨q1, q2, q3⟩ := h6 v hv; exact ⟨okY_of q1 (by decide), q2, okY_of q3 (by decide)⟩
def Asks (n : Int) (bs : List Nat) (c : Im) : Prop := c.1 = n ∧ Snd c.2.1 c.2.2.1 c.2.2.2.1 c.2.2.2.2.1 c.2.2.2.2.2 ∧ eImg c = bs
theorem lds_asks {n : Int} {bs : List Nat} (hb : B8 bs) (hl : bs.length ≤ 1400000) : Lds n bs ↔ Asks n bs (dImg (.at bs)).1 := by
 rw [lds_iff hb hl]; constructor
 ·rintro ⟨top, wm, H, E, V, hk, hS, hi⟩; have ha := dimg_codec.app _ (okD_of hk) []; rw [List.append_nil, hi] at ha; rw [ha]; exact ⟨rfl, hS, hi⟩
 ·obtain ⟨h1, -⟩ := dimg_fair bs.length bs hb (Nat.le_refl _); obtain ⟨⟨x0, x1, x2, hs, es, vs⟩, hc⟩ : ∃ c, c = (dImg (.at bs)).1 := ⟨_, rfl⟩; rw [← hc] at h1 ⊢; rintro ⟨e1, hS, hi⟩; have e1' : x0 = n := e1; subst e1'; exact ⟨x1, x2, hs, es, vs, snd_ok (by omega) hS h1, hS, hi⟩
theorem of_inj {a b : List Nat} (ha : B8 a) (hb : B8 b) (h : ofNats a = ofNats b) : a = b := by
 rw [← nums_ofNats ha, ← nums_ofNats hb, h]
set_option maxRecDepth 8000 in
theorem dload_is {w : World} {n : Int} {bs : List Nat} {c : Im} (h8 : B8 bs) (hl : bs.length ≤ 1400000) (hc : c = (dImg (.at bs)).1) :
  Calls Tryz.prog 16 #[.int .u32 n, .string (ofNats bs)] w fun e w' => ((e = .returned (.tuple #[.pointer (some ⟨w.heap.size + 1, 0, none⟩), .int .i64 0]) ∧ Hid (Asks n bs c ∧ ∃ U : List Lk.Hv, U.map Lk.Hv.h = c.2.2.2.1 ∧ Dst w' (w.heap.size + 1 + 1) (w.heap.size + 1) c.1 c.2.1 c.2.2.1 U c.2.2.2.2.1 c.2.2.2.2.2)) ∨ (e = .returned (.tuple #[.pointer none, .int .i64 131]) ∧ Hid (¬ Asks n bs c))) ∧ Hid (Below w.heap.size w w') := by
 obtain ⟨h1, r, hr, -, -, -⟩ := dimg_fair bs.length bs h8 (Nat.le_refl _); rw [← hc] at h1; have hv : dImg (.at bs) = (c, .at r) := Prod.ext hc.symm hr; have CR := hid (dread_is (w := w) h8 (by omega) hv); have H1 := hid h1; have HL := hid hl; have H8 := hid h8; have hne : (ofNats bs).size = bs.length := ons _; clear hc hr hv h1 hl h8 hne; go_enter Tryz.func16, Tryz.ntmps16
 go_wp2_with fail
 refine CR.out.mono ?_; rintro e w1 ⟨rfl, ⟨U, HUM, HD⟩, HB⟩; obtain ⟨c0, top, wm, H, E, V⟩ := c; simp only at HUM HD; have hUM := HUM.out; subst hUM; clear CR HUM; obtain ⟨o1, o2, o3, ⟨o4, l4⟩, ⟨o5, l5⟩, o6, l6⟩ := H1.out; have l4' : U.length ≤ bs.length := by have : (U.map Lk.Hv.h).length ≤ bs.length := l4; rwa [List.length_map] at this
 have l5' : E.length ≤ bs.length := l5; have l6' : V.length ≤ bs.length := l6; have hbl := HL.out; have hU : ∀ u ∈ U, okHN bs.length u.h := fun u hu => o4 _ (List.mem_map.2 ⟨u, hu, rfl⟩)
 have hlr : ∀ u ∈ U, u.h.rs.length ≤ 1099511627776 ∧ u.h.ws.length ≤ 1099511627776 := fun u hu => by
  obtain ⟨-, -, ⟨-, a3⟩, -, a4⟩ := hU u hu; exact ⟨by omega, by omega⟩
 have hrg : ∀ u ∈ U, 0 ≤ u.h.id.2 ∧ 0 ≤ u.h.w ∧ u.h.w ≤ 18446744073709551615 := fun u hu => by
  obtain ⟨⟨a1, a2, a3⟩, a4, -, -⟩ := hU u hu; exact ⟨a2.1, a4.1.1, a4.1.2⟩
 have hre : ∀ e ∈ E, EnR e := fun e he => by
  obtain ⟨⟨a1, a2, a3⟩, a4, a5⟩ := o5 e he; exact ⟨a2.1, a5.1.1, a5.1.2⟩
 have CH : Hid (∀ W, Below w1.heap.size w1 W → _) := hid fun W hW => soundHolds_is (HD.out.later hW) (by omega) hlr (by omega) hrg
 have CD : Hid (∀ W, Below w1.heap.size w1 W → _) := hid fun W hW => soundDone_is (HD.out.later hW) (by omega) hlr (by omega) hre
 have CV : Hid (∀ W, Below w1.heap.size w1 W → _) := hid fun W hW => soundVers_is (HD.out.later hW) (by omega)
 have CI : Hid (Snd top wm (U.map Lk.Hv.h) E V → ∀ W, Below w1.heap.size w1 W → _) := hid fun hS W hW => dimage_is (HD.out.later hW) o1 o2 o3 (fun u hu => ⟨(hU u hu).1, (hU u hu).2.1⟩) (fun e he => ⟨(o5 e he).1, (o5 e he).2.2⟩) o6 (snd_len (N := bs.length) (by omega) hS H1.out) (by omega) hlr (by omega) (by omega)
 have HSI : Hid (Snd top wm (U.map Lk.Hv.h) E V ↔ wm.a ≠ 18446744073709551615 ∧ (List.range U.length).all (shB top U V) = true ∧ (List.range E.length).all (sdB top U E) = true ∧ (List.range V.length).all (svB top V) = true) := hid (by
  rw [sh_iff, sd_iff, sv_iff]; constructor
  ·intro S; exact ⟨S.wm, ⟨S.hd, S.hp⟩, ⟨S.en, S.ep⟩, S.vs, S.vp⟩
  ·rintro ⟨a1, ⟨a2, a3⟩, ⟨a4, a5⟩, a6, a7⟩; exact ⟨a1, a2, a3, a4, a5, a6, a7⟩)
 have HOK : Hid (Snd top wm (U.map Lk.Hv.h) E V → okImg (c0, top, wm, U.map Lk.Hv.h, E, V)) := hid fun hS => snd_ok (N := bs.length) (by omega) hS H1.out
 clear hU hlr hrg hre o1 o2 o3 o4 l4 o5 l5 o6 l6 l4' l5' l6' hbl; obtain ⟨s1, hs1⟩ : ∃ s, s = (List.range U.length).all (shB top U V) := ⟨_, rfl⟩; obtain ⟨s2, hs2⟩ : ∃ s, s = (List.range E.length).all (sdB top U E) := ⟨_, rfl⟩; obtain ⟨s3, hs3⟩ : ∃ s, s = (List.range V.length).all (svB top V) := ⟨_, rfl⟩; simp only [← hs1, ← hs2, ← hs3] at CH CD CV HSI; clear hs1 hs2 hs3; obtain ⟨⟨aH, aE, aV, cH, cE, cV, kb, -, -, -⟩, -, -⟩ := HD.out; have x0 : w1.cell? ⟨w.heap.size + 1, 0, none⟩ = some (.int .u32 c0) := Vs.cob (o := 0) kb rfl; have x2 : w1.cell? ⟨w.heap.size + 1, 2, none⟩ = some (.int .u64 wm.a) := Vs.cob (o := 2) kb rfl; clear kb; by_cases g0 : c0 = n
 ·have e0 : (c0 != n) = false := by simp [g0]
  by_cases g1 : wm.a = 18446744073709551615
  ·have e1 : (wm.a == 18446744073709551615) = true := by simp [g1]
   have HNO : Hid (¬ Asks n bs (c0, top, wm, U.map Lk.Hv.h, E, V)) := hid fun h => (HSI.out.1 h.2.1).1 g1
   clear g0 g1 CH CD CV CI HOK HSI; go_wp2_with fail
   go_ret2
   first | exact ⟨.inr rfl, HB⟩ | exact ⟨.inr ⟨rfl, HNO⟩, HB⟩
  ·have e1 : (wm.a == 18446744073709551615) = false := by simp [g1]
   have HG := hid g0; have HG1 := hid g1; clear g0 g1; go_wp2_with fail
   refine (CH.out _ (Below.refl _ _)).mono ?_; rintro e w2 ⟨rfl, hb2⟩; have HB2 := hid hb2; clear hb2 CH x0 x2 e0 e1; cases s1 with
   | false =>
    have HNO : Hid (¬ Asks n bs (c0, top, wm, U.map Lk.Hv.h, E, V)) := hid fun h => by have := (HSI.out.1 h.2.1).2.1; cases this
    have HBW := hid (Below.on HB.out HB2.out); clear CD CV CI HOK HSI; go_wp2_with fail
    go_ret2
    first | exact ⟨.inr rfl, HBW⟩ | exact ⟨.inr ⟨rfl, HNO⟩, HBW⟩
   | true =>
    go_wp2_with fail
    refine (CD.out _ HB2.out).mono ?_; rintro e w3 ⟨rfl, hb3⟩; have HB3 := hid (Below.on HB2.out hb3); clear hb3 CD HB2; cases s2 with
    | false =>
     have HNO : Hid (¬ Asks n bs (c0, top, wm, U.map Lk.Hv.h, E, V)) := hid fun h => by have := (HSI.out.1 h.2.1).2.2.1; cases this
     have HBW := hid (Below.on HB.out HB3.out); clear CV CI HOK HSI; go_wp2_with fail
     go_ret2
     first | exact ⟨.inr rfl, HBW⟩ | exact ⟨.inr ⟨rfl, HNO⟩, HBW⟩
    | true =>
     go_wp2_with fail
     refine (CV.out _ HB3.out).mono ?_; rintro e w4 ⟨rfl, hb4⟩; have HB4 := hid (Below.on HB3.out hb4); clear hb4 CV HB3; cases s3 with
     | false =>
      have HNO : Hid (¬ Asks n bs (c0, top, wm, U.map Lk.Hv.h, E, V)) := hid fun h => by have := (HSI.out.1 h.2.1).2.2.2; cases this
      have HBW := hid (Below.on HB.out HB4.out); clear CI HOK HSI; go_wp2_with fail
      go_ret2
      first | exact ⟨.inr rfl, HBW⟩ | exact ⟨.inr ⟨rfl, HNO⟩, HBW⟩
     | true =>
      have HS : Hid (Snd top wm (U.map Lk.Hv.h) E V) := hid (HSI.out.2 ⟨HG1.out, by simp, by simp, by simp⟩); clear HSI; go_wp2_with fail
      refine (CI.out HS.out _ HB4.out).mono ?_; rintro e w5 ⟨rfl, hb5⟩; have HB5 := hid (Below.on HB4.out hb5); have HBW := hid (Below.on HB.out HB5.out); have HE8 : Hid (B8 (eImg (c0, top, wm, U.map Lk.Hv.h, E, V))) := hid (img_codec.byte _ (HOK.out HS.out)); obtain ⟨tb, htb⟩ : ∃ t, t = ofNats bs := ⟨_, rfl⟩; obtain ⟨ti, hti⟩ : ∃ t, t = ofNats (eImg (c0, top, wm, U.map Lk.Hv.h, E, V)) := ⟨_, rfl⟩; rw [← htb, ← hti]; have HTB := hid htb; have HTI := hid hti; clear hb5 CI HB4 htb hti; by_cases hq : ti = tb
      ·have HA : Hid (Asks n bs (c0, top, wm, U.map Lk.Hv.h, E, V)) := hid ⟨HG.out, HS.out, of_inj HE8.out H8.out (by rw [← HTB.out, ← HTI.out, hq])⟩; have hd5 := hid (HD.out.later HB5.out); clear HTB HTI HE8; subst hq; go_wp2_with fail
       go_ret2
       exact ⟨.inl ⟨rfl, hid ⟨HA.out, U, rfl, hd5.out⟩⟩, HBW⟩
      ·have HNO : Hid (¬ Asks n bs (c0, top, wm, U.map Lk.Hv.h, E, V)) := hid fun h => hq (by rw [HTI.out, HTB.out, h.2.2])
       have heq : (ti.toList == tb.toList) = false := bne_of hq; have heq2 : (ti.toList != tb.toList) = true := by simp [bne, heq]
       clear hq; go_wp2_with fail
       go_ret2
       first | exact ⟨.inr rfl, HBW⟩ | exact ⟨.inr ⟨rfl, HNO⟩, HBW⟩
 ·have e0 : (c0 != n) = true := by simp [g0]
  have HNO : Hid (¬ Asks n bs (c0, top, wm, U.map Lk.Hv.h, E, V)) := hid fun h => g0 h.1
  clear g0 CH CD CV CI HOK HSI; go_wp2_with fail
  go_ret2
  first | exact ⟨.inr rfl, HB⟩ | exact ⟨.inr ⟨rfl, HNO⟩, HB⟩
theorem dceiling_is {w : World} {B q : Nat} {n top : Int} {wm : Vs.Sp} {U : List Lk.Hv} {E : List Lg.En} {V : List Vs.Kv} (h : Dst w B q n top wm U E V) :
  Calls Tryz.prog 17 #[.pointer (some ⟨q, 0, none⟩)] w fun e w' => e = .returned (.int .u64 top) ∧ Below w.heap.size w w' := by
 obtain ⟨⟨aH, aE, aV, cH, cE, cV, kb, -, -, -⟩, -, -⟩ := h; have c1 : w.cell? ⟨q, 1, none⟩ = some (.int .u64 top) := Vs.cob (o := 1) kb rfl; clear kb; go_enter Tryz.func17, Tryz.ntmps17
 go_wp2_with fail
 go_ret
 exact ⟨rfl, Below.refl _ _⟩
theorem dwatermark_is {w : World} {B q : Nat} {n top : Int} {wm : Vs.Sp} {U : List Lk.Hv} {E : List Lg.En} {V : List Vs.Kv} (h : Dst w B q n top wm U E V) :
  Calls Tryz.prog 18 #[.pointer (some ⟨q, 0, none⟩)] w fun e w' => e = .returned (Vs.sv wm) ∧ Below w.heap.size w w' := by
 obtain ⟨⟨aH, aE, aV, cH, cE, cV, kb, -, -, -⟩, -, -⟩ := h; obtain ⟨wx, hwx⟩ : ∃ wx, wx = w.alloc (.cells #[.int .u64 0, .int .u32 0, .int .u32 0] 36) := ⟨_, rfl⟩; have hbx : Below w.heap.size w wx := by rw [hwx]; exact Below.al (Below.refl _ _) _
 have kq : (w.alloc (.cells #[.int .u64 0, .int .u32 0, .int .u32 0] 36)).heap[q]? = some (.cells #[.int .u32 n, .int .u64 top, .int .u64 wm.a, .int .u32 wm.b, .int .u32 wm.c, .slice aH U.length cH, .slice aE E.length cE, .slice aV V.length cV] 112 (0, 0)) := by rw [← hwx]; exact (hbx.block _ (Array.getElem?_eq_some_iff.1 kb).1).trans kb
 have c2 : (w.alloc (.cells #[.int .u64 0, .int .u32 0, .int .u32 0] 36)).cell? ⟨q, 2, none⟩ = some (.int .u64 wm.a) := Vs.cob (o := 2) kq rfl; have c3 : (w.alloc (.cells #[.int .u64 0, .int .u32 0, .int .u32 0] 36)).cell? ⟨q, 3, none⟩ = some (.int .u32 wm.b) := Vs.cob (o := 3) kq rfl; have c4 : (w.alloc (.cells #[.int .u64 0, .int .u32 0, .int .u32 0] 36)).cell? ⟨q, 4, none⟩ = some (.int .u32 wm.c) := Vs.cob (o := 4) kq rfl; clear kb kq hbx hwx; go_enter Tryz.func18, Tryz.ntmps18
 go_wp2_with fail
 refine bodyPost_ret (v := .agg #[.int .u64 wm.a, .int .u32 wm.b, .int .u32 wm.c]) (by simp [results, Tryz.results18, go_sem]) rfl ⟨rfl, ?_⟩
 (repeat (first | with_reducible exact Below.refl _ _ | with_reducible assumption | with_reducible refine Below.drew ?_ | with_reducible refine Below.al ?_ _ | with_reducible refine Below.setCell ?_ (by first | exact Nat.le_refl _ | simp <;> omega) _ | with_reducible refine Below.on ?_ (by assumption)))
set_option maxRecDepth 8000 in
theorem dentries_is {w : World} {B q : Nat} {n top : Int} {wm : Vs.Sp} {U : List Lk.Hv} {E : List Lg.En} {V : List Vs.Kv} (h : Dst w B q n top wm U E V) (hl : E.length ≤ 1099511627776) :
  Calls Tryz.prog 24 #[.pointer (some ⟨q, 0, none⟩)] w fun e w' => ∃ (a : Option Addr) (c : Nat), e = .returned (.slice a E.length c) ∧ Hid (w'.ownsRow w.heap.size 104 7 (.slice a E.length c) E.length (E.flatMap Lg.ecs)) ∧ Hid (Below w.heap.size w w') := by
 obtain ⟨i0, hi, hz0, hz1, hz2⟩ := ifz infoT7; obtain ⟨⟨aH, aE, aV, cH, cE, cV, kb, -, hOE, hOV⟩, -, -⟩ := h; have hql := (Array.getElem?_eq_some_iff.1 kb).1; obtain ⟨m, hm⟩ : ∃ m, m = E.length := ⟨_, rfl⟩; have C := hid (show w.cell? ⟨q, 6, none⟩ = some (.slice aE m cE) from by rw [hm]; exact Vs.cob (o := 6) kb rfl); have c0 := C.out; have RR : Hid (RowG Lg.ecs 7 w aE E) := hid (RowG.of_own Lg.ecs_len (by decide) hOE); have b1 : m ≤ 1099511627776 := by rw [hm]; exact hl
 rw [← hm]; have HM := hid hm; clear kb hOE hOV hl hm; go_enter Tryz.func24, Tryz.ntmps24
 go_wp2_with fail
 go_loopg [3, 4] m (fun g s3 s4 wr => ∃ (i : Nat) (a : Option Addr) (c : Nat), i ≤ m ∧ g = m - i ∧ s3 = .slice a i c ∧ s4 = .int .i64 i ∧ Hid (wr.ownsRow w.heap.size 104 7 (.slice a i c) i ((E.take i).flatMap Lg.ecs)) ∧ Hid (Below w.heap.size w wr))
 case atStart => exact ⟨0, none, 0, by omega, by omega, rfl, rfl, hid (World.ownsRow_nil _ _ _ _), hid (Below.refl _ _)⟩
 case round =>
  obtain ⟨i, a, c, hi1, rfl, rfl, rfl, HO, HB⟩ := hrel; clear c0; have c0 := blc HB.out hql C.out; by_cases hlt : i < m
  ·have hi2 : (i : Int) < (m : Int) := by omega
   have hiL : i < E.length := by rw [← HM.out]; exact hlt
   obtain ⟨x, hx⟩ : ∃ x, E[i]? = some x := ⟨_, List.getElem?_eq_getElem hiL⟩; obtain ⟨g, off, eg, hc⟩ := RR.out i x hx; rw [eg] at c0; have hgl : g < w.heap.size := World.block_lt_of_cell? _ _ (hc 0 _ rfl); have v0 : wr.cell? ⟨g, off + i * 7, none⟩ = some (.int .u32 x.id.1) := blc HB.out hgl (hc 0 _ rfl); have v1 : wr.cell? ⟨g, off + i * 7 + 1, none⟩ = some (.int .u32 x.id.2) := blc HB.out hgl (hc 1 _ rfl); have v2 : wr.cell? ⟨g, off + i * 7 + 2, none⟩ = some (.int .u32 x.home) := blc HB.out hgl (hc 2 _ rfl); have v3 : wr.cell? ⟨g, off + i * 7 + 3, none⟩ = some (.int .i64 x.oc) := blc HB.out hgl (hc 3 _ rfl); have v4 : wr.cell? ⟨g, off + i * 7 + 4, none⟩ = some (.int .u64 x.w) := blc HB.out hgl (hc 4 _ rfl); have v5 : wr.cell? ⟨g, off + i * 7 + 5, none⟩ = some (.int .u32 x.l) := blc HB.out hgl (hc 5 _ rfl)
   have v6 : wr.cell? ⟨g, off + i * 7 + 6, none⟩ = some (.int .u32 x.n) := blc HB.out hgl (hc 6 _ rfl); have hbA : Below wr.heap.size wr (wr.alloc (.cells #[.int .u32 x.id.1, .int .u32 x.id.2, .int .u32 x.home, .int .i64 x.oc, .int .u64 x.w, .int .u32 x.l, .int .u32 x.n] 104)) := Below.al (Below.refl _ _) _; have kA : (wr.alloc (.cells #[.int .u32 x.id.1, .int .u32 x.id.2, .int .u32 x.home, .int .i64 x.oc, .int .u64 x.w, .int .u32 x.l, .int .u32 x.n] 104)).heap[wr.heap.size]? = some (.cells #[.int .u32 x.id.1, .int .u32 x.id.2, .int .u32 x.home, .int .i64 x.oc, .int .u64 x.w, .int .u32 x.l, .int .u32 x.n] 104 (0, 0)) := World.alloc_heap_new _ _; have hoA := owk HO.out fun g hg => hbA.block g (HO.out.lt g hg).2
   have hBs : w.heap.size ≤ (wr.alloc (.cells #[.int .u32 x.id.1, .int .u32 x.id.2, .int .u32 x.home, .int .i64 x.oc, .int .u64 x.w, .int .u32 x.l, .int .u32 x.n] 104)).heap.size := Nat.le_trans HB.out.size hbA.size; obtain ⟨v2, wB, hr, hown, hgrow, -⟩ := run_append_own (P := Tryz.prog) (w := wr.alloc (.cells #[.int .u32 x.id.1, .int .u32 x.id.2, .int .u32 x.home, .int .i64 x.oc, .int .u64 x.w, .int .u32 x.l, .int .u32 x.n] 104)) w.heap.size 61 61 104 i0 _ 7 40 Tryz.underlying61 hi hz0 hz1 hz2 rfl (by decide) (.slice a i c) i ((E.take i).flatMap Lg.ecs) hoA ⟨wr.heap.size, 0, none⟩ 1 1 (Lg.ecs x) rfl (fun j u hj => (by rw [Addr.add_lit, Nat.zero_add]; exact Vs.cob kA (by simpa using hj))) (Lg.ecs_one x) (by unfold maxLen; omega) (by omega) hBs; obtain ⟨a2, c2, rfl⟩ := ows hown
   have HOB : Hid (wB.ownsRow w.heap.size 104 7 (.slice a2 (i + 1) c2) (i + 1) ((E.take (i + 1)).flatMap Lg.ecs)) := hid (by
    have : (E.take (i + 1)).flatMap Lg.ecs = (E.take i).flatMap Lg.ecs ++ Lg.ecs x := by
     rw [List.take_add_one, hx, List.flatMap_append]; simp
    rw [this]; exact hown)
   have HBB : Hid (Below w.heap.size w wB) := hid ((HB.out.trans (hbA.mono HB.out.size)).trans ((grown_onl hgrow).below (fun k hk => (hoA.lt k hk).1) hBs)); have HR := hid hr; obtain ⟨i1, hi1'⟩ : ∃ i1, i1 = i + 1 := ⟨_, rfl⟩; rw [← hi1'] at HOB HR; have HI1 := hid hi1'; have hi5 : (i : Int) + 1 = (i1 : Int) := by omega
   have hi6 : IntKind.i64.wrap ((i : Int) + 1) = (i1 : Int) := by rw [IntKind.wrap_i64]; omega
   clear hr hown hgrow hoA hbA kA hBs hc hx eg hi1'; go_wp2_with (first
    | (at_builtin; refine wpList_append_runR rfl (.tmp 14) (.tmp 22) 61 61 rfl _ _ rfl rfl HR.out ?_)
    | go_in)
   go_roundg (m - (i + 1))
   case measure => omega
   case rel => exact ⟨i1, a2, c2, by rw [HI1.out]; omega, by rw [HI1.out], rfl, by go_num, HOB, HBB⟩
  ·have hie : i = m := by omega
   have hni : ¬ ((i : Int) < (m : Int)) := by omega
   have HO2 : Hid (wr.ownsRow w.heap.size 104 7 (.slice a m c) m (E.flatMap Lg.ecs)) := hid (by
    have := HO.out; rw [hie] at this; rw [HM.out, List.take_of_length_le (Nat.le_refl _)] at this; rw [HM.out]; exact this)
   subst hie; clear hlt hi1; go_wp2_with fail
   go_ret
   exact ⟨a, c, rfl, HO2, HB⟩
set_option maxRecDepth 8000 in
theorem dversions_is {w : World} {B q : Nat} {n top : Int} {wm : Vs.Sp} {U : List Lk.Hv} {E : List Lg.En} {V : List Vs.Kv} (h : Dst w B q n top wm U E V) (hl : V.length ≤ 1099511627776) :
  Calls Tryz.prog 27 #[.pointer (some ⟨q, 0, none⟩)] w fun e w' => ∃ (a : Option Addr) (c : Nat), e = .returned (.slice a V.length c) ∧ Hid (w'.ownsRow w.heap.size 108 6 (.slice a V.length c) V.length (V.flatMap c6)) ∧ Hid (Below w.heap.size w w') := by
 obtain ⟨i0, hi, hz0, hz1, hz2⟩ := ifz infoT6; obtain ⟨⟨aH, aE, aV, cH, cE, cV, kb, -, hOE, hOV⟩, -, -⟩ := h; have hql := (Array.getElem?_eq_some_iff.1 kb).1; obtain ⟨m, hm⟩ : ∃ m, m = V.length := ⟨_, rfl⟩; have C := hid (show w.cell? ⟨q, 7, none⟩ = some (.slice aV m cV) from by rw [hm]; exact Vs.cob (o := 7) kb rfl); have c0 := C.out; have RR : Hid (RowG c6 6 w aV V) := hid (RowG.of_own c6_len (by decide) hOV); have b1 : m ≤ 1099511627776 := by rw [hm]; exact hl
 rw [← hm]; have HM := hid hm; clear kb hOE hOV hl hm; go_enter Tryz.func27, Tryz.ntmps27
 go_wp2_with fail
 go_loopg [3, 4] m (fun g s3 s4 wr => ∃ (i : Nat) (a : Option Addr) (c : Nat), i ≤ m ∧ g = m - i ∧ s3 = .slice a i c ∧ s4 = .int .i64 i ∧ Hid (wr.ownsRow w.heap.size 108 6 (.slice a i c) i ((V.take i).flatMap c6)) ∧ Hid (Below w.heap.size w wr))
 case atStart => exact ⟨0, none, 0, by omega, by omega, rfl, rfl, hid (World.ownsRow_nil _ _ _ _), hid (Below.refl _ _)⟩
 case round =>
  obtain ⟨i, a, c, hi1, rfl, rfl, rfl, HO, HB⟩ := hrel; clear c0; have c0 := blc HB.out hql C.out; by_cases hlt : i < m
  ·have hi2 : (i : Int) < (m : Int) := by omega
   have hiL : i < V.length := by rw [← HM.out]; exact hlt
   obtain ⟨x, hx⟩ : ∃ x, V[i]? = some x := ⟨_, List.getElem?_eq_getElem hiL⟩; obtain ⟨g, off, eg, hc⟩ := RR.out i x hx; rw [eg] at c0; have hgl : g < w.heap.size := World.block_lt_of_cell? _ _ (hc 0 _ rfl); have v0 : wr.cell? ⟨g, off + i * 6, none⟩ = some (.string x.1) := blc HB.out hgl (hc 0 _ rfl); have v1 : wr.cell? ⟨g, off + i * 6 + 1, none⟩ = some (.int .u64 x.2.s.a) := blc HB.out hgl (hc 1 _ rfl); have v2 : wr.cell? ⟨g, off + i * 6 + 2, none⟩ = some (.int .u32 x.2.s.b) := blc HB.out hgl (hc 2 _ rfl); have v3 : wr.cell? ⟨g, off + i * 6 + 3, none⟩ = some (.int .u32 x.2.s.c) := blc HB.out hgl (hc 3 _ rfl); have v4 : wr.cell? ⟨g, off + i * 6 + 4, none⟩ = some (.bool x.2.del) := blc HB.out hgl (hc 4 _ rfl); have v5 : wr.cell? ⟨g, off + i * 6 + 5, none⟩ = some (.string x.2.val) := blc HB.out hgl (hc 5 _ rfl)
   have hbA : Below wr.heap.size wr (wr.alloc (.cells #[.string x.1, .int .u64 x.2.s.a, .int .u32 x.2.s.b, .int .u32 x.2.s.c, .bool x.2.del, .string x.2.val] 108)) := Below.al (Below.refl _ _) _; have kA : (wr.alloc (.cells #[.string x.1, .int .u64 x.2.s.a, .int .u32 x.2.s.b, .int .u32 x.2.s.c, .bool x.2.del, .string x.2.val] 108)).heap[wr.heap.size]? = some (.cells #[.string x.1, .int .u64 x.2.s.a, .int .u32 x.2.s.b, .int .u32 x.2.s.c, .bool x.2.del, .string x.2.val] 108 (0, 0)) := World.alloc_heap_new _ _; have hoA := owk HO.out fun g hg => hbA.block g (HO.out.lt g hg).2
   have hBs : w.heap.size ≤ (wr.alloc (.cells #[.string x.1, .int .u64 x.2.s.a, .int .u32 x.2.s.b, .int .u32 x.2.s.c, .bool x.2.del, .string x.2.val] 108)).heap.size := Nat.le_trans HB.out.size hbA.size; obtain ⟨v2, wB, hr, hown, hgrow, -⟩ := run_append_own (P := Tryz.prog) (w := wr.alloc (.cells #[.string x.1, .int .u64 x.2.s.a, .int .u32 x.2.s.b, .int .u32 x.2.s.c, .bool x.2.del, .string x.2.val] 108)) w.heap.size 64 64 108 i0 _ 6 56 Tryz.underlying64 hi hz0 hz1 hz2 rfl (by decide) (.slice a i c) i ((V.take i).flatMap c6) hoA ⟨wr.heap.size, 0, none⟩ 1 1 (c6 x) rfl (fun j u hj => (by rw [Addr.add_lit, Nat.zero_add]; exact Vs.cob kA (by simpa using hj))) (c6_one x) (by unfold maxLen; omega) (by omega) hBs; obtain ⟨a2, c2, rfl⟩ := ows hown; have HOB : Hid (wB.ownsRow w.heap.size 108 6 (.slice a2 (i + 1) c2) (i + 1) ((V.take (i + 1)).flatMap c6)) := hid (by
    have : (V.take (i + 1)).flatMap c6 = (V.take i).flatMap c6 ++ c6 x := by
     rw [List.take_add_one, hx, List.flatMap_append]; simp
    rw [this]; exact hown)
   have HBB : Hid (Below w.heap.size w wB) := hid ((HB.out.trans (hbA.mono HB.out.size)).trans ((grown_onl hgrow).below (fun k hk => (hoA.lt k hk).1) hBs)); have HR := hid hr; obtain ⟨i1, hi1'⟩ : ∃ i1, i1 = i + 1 := ⟨_, rfl⟩; rw [← hi1'] at HOB HR; have HI1 := hid hi1'; have hi5 : (i : Int) + 1 = (i1 : Int) := by omega
   have hi6 : IntKind.i64.wrap ((i : Int) + 1) = (i1 : Int) := by rw [IntKind.wrap_i64]; omega
   clear hr hown hgrow hoA hbA kA hBs hc hx eg hi1'; go_wp2_with (first
    | (at_builtin; refine wpList_append_runR rfl (.tmp 14) (.tmp 22) 64 64 rfl _ _ rfl rfl HR.out ?_)
    | go_in)
   go_roundg (m - (i + 1))
   case measure => omega
   case rel => exact ⟨i1, a2, c2, by rw [HI1.out]; omega, by rw [HI1.out], rfl, by go_num, HOB, HBB⟩
  ·have hie : i = m := by omega
   have hni : ¬ ((i : Int) < (m : Int)) := by omega
   have HO2 : Hid (wr.ownsRow w.heap.size 108 6 (.slice a m c) m (V.flatMap c6)) := hid (by
    have := HO.out; rw [hie] at this; rw [HM.out, List.take_of_length_le (Nat.le_refl _)] at this; rw [HM.out]; exact this)
   subst hie; clear hlt hi1; go_wp2_with fail
   go_ret
   exact ⟨a, c, rfl, HO2, HB⟩
set_option maxRecDepth 8000 in
theorem dheldlist_is {w : World} {B q : Nat} {n top : Int} {wm : Vs.Sp} {U : List Lk.Hv} {E : List Lg.En} {V : List Vs.Kv} (h : Dst w B q n top wm U E V) (hl : U.length ≤ 1099511627776) (hr : ∀ u ∈ U, u.h.rs.length ≤ 1099511627776 ∧ u.h.ws.length ≤ 1099511627776) :
  Calls Tryz.prog 21 #[.pointer (some ⟨q, 0, none⟩)] w fun e w' => ∃ (Y : List Lk.Hv) (a : Option Addr) (c : Nat), e = .returned (.slice a Y.length c) ∧ Hid (Y.map Lk.Hv.h = U.map Lk.Hv.h) ∧ Hid (Lk.RowH w.heap.size w' a Y.length c Y) ∧ Hid (Below w.heap.size w w') := by
 obtain ⟨i0, hi, hz0, hz1, hz2⟩ := ifz infoT8; have hok : ∀ u ∈ U, u.ok w := fun u hu => (h.fr u hu).ok (by have := (hr u hu).1; omega) (by have := (hr u hu).2; omega)
 obtain ⟨⟨aH, aE, aV, cH, cE, cV, kb, hO, -, -⟩, -, -⟩ := h; have hql := (Array.getElem?_eq_some_iff.1 kb).1; obtain ⟨m, hm⟩ : ∃ m, m = U.length := ⟨_, rfl⟩; have C := hid (show w.cell? ⟨q, 5, none⟩ = some (.slice aH m cH) from by rw [hm]; exact Vs.cob (o := 5) kb rfl); have c0 := C.out; rw [← hm] at hO; have OH := hid hO; have HOK := hid hok; have b1 : m ≤ 1099511627776 := by rw [hm]; exact hl
 have HM := hid hm; clear kb hO hl hm hok hr; go_enter Tryz.func21, Tryz.ntmps21
 go_wp2_with fail
 go_loopg [3, 4] m (fun g s3 s4 wr => ∃ (i : Nat) (Y : List Lk.Hv) (a : Option Addr) (c : Nat), i ≤ m ∧ g = m - i ∧ s3 = .slice a i c ∧ s4 = .int .i64 i ∧ Hid (Y.map Lk.Hv.h = (U.take i).map Lk.Hv.h) ∧ Hid (Lk.RowH w.heap.size wr a i c Y) ∧ Hid (∀ y ∈ Y, y.fresh w.heap.size wr) ∧ Hid (Below w.heap.size w wr))
 case atStart => exact ⟨0, [], none, 0, by omega, by omega, rfl, rfl, hid rfl, hid ⟨World.ownsRow_nil _ _ _ _, rfl, fun u hu => (by cases hu)⟩, hid (fun u hu => by cases hu), hid (Below.refl _ _)⟩
 case round =>
  obtain ⟨i, Y, a, c, hi1, rfl, rfl, rfl, HY, HO, HF, HB⟩ := hrel; clear c0; have c0 := blc HB.out hql C.out; by_cases hlt : i < m
  ·have hi2 : (i : Int) < (m : Int) := by omega
   obtain ⟨g, eg, hc⟩ := Lk.ownH_at OH.out HM.out.symm hlt; obtain ⟨x, hx⟩ : ∃ x, x = Lk.nthH U i := ⟨_, rfl⟩; have hiU : i < U.length := by rw [← HM.out]; exact hlt
   have hxi : U[i]? = some x := by rw [hx, nthH_at hiU, List.getElem?_eq_getElem hiU]
   rw [← hx] at hc; rw [eg] at c0; have hgl : g < w.heap.size := World.block_lt_of_cell? _ _ (hc 0 _ rfl); have CP := hid (Lk.rcopied_is ((HOK.out x (List.mem_of_getElem? hxi)).later HB.out)); have v0 : wr.cell? ⟨g, i * 8, none⟩ = some (.int .u32 x.h.id.1) := blc HB.out hgl (hc 0 _ rfl); have v1 : wr.cell? ⟨g, i * 8 + 1, none⟩ = some (.int .u32 x.h.id.2) := blc HB.out hgl (hc 1 _ rfl); have v2 : wr.cell? ⟨g, i * 8 + 2, none⟩ = some (.int .u32 x.h.home) := blc HB.out hgl (hc 2 _ rfl); have v3 : wr.cell? ⟨g, i * 8 + 3, none⟩ = some (.int .u64 x.h.w) := blc HB.out hgl (hc 3 _ rfl); have v4 : wr.cell? ⟨g, i * 8 + 4, none⟩ = some (.int .u32 x.h.l) := blc HB.out hgl (hc 4 _ rfl); have v5 : wr.cell? ⟨g, i * 8 + 5, none⟩ = some (.int .u32 x.h.n) := blc HB.out hgl (hc 5 _ rfl)
   have v6 : wr.cell? ⟨g, i * 8 + 6, none⟩ = some (.slice x.ra x.h.rs.length x.rc) := blc HB.out hgl (hc 6 _ rfl); have v7 : wr.cell? ⟨g, i * 8 + 7, none⟩ = some (.slice x.wa x.h.ws.length x.wc) := blc HB.out hgl (hc 7 _ rfl); have HXI := hid hxi; clear hc hx eg hxi; go_wp2_with fail
   refine CP.out.mono ?_; rintro e w2 ⟨u, rfl, HUX, HUF, HUO, HB2⟩; clear CP v0 v1 v2 v3 v4 v5 v6 v7 c0; have hbA : Below w2.heap.size w2 (w2.alloc (.cells #[.int .u32 u.h.id.1, .int .u32 u.h.id.2, .int .u32 u.h.home, .int .u64 u.h.w, .int .u32 u.h.l, .int .u32 u.h.n, .slice u.ra u.h.rs.length u.rc, .slice u.wa u.h.ws.length u.wc] 100)) := Below.al (Below.refl _ _) _; have kA : (w2.alloc (.cells #[.int .u32 u.h.id.1, .int .u32 u.h.id.2, .int .u32 u.h.home, .int .u64 u.h.w, .int .u32 u.h.l, .int .u32 u.h.n, .slice u.ra u.h.rs.length u.rc, .slice u.wa u.h.ws.length u.wc] 100)).heap[w2.heap.size]? = some (.cells #[.int .u32 u.h.id.1, .int .u32 u.h.id.2, .int .u32 u.h.home, .int .u64 u.h.w, .int .u32 u.h.l, .int .u32 u.h.n, .slice u.ra u.h.rs.length u.rc, .slice u.wa u.h.ws.length u.wc] 100 (0, 0)) := World.alloc_heap_new _ _; have hbr := Below.on HB2.out hbA
   have hoA := owk HO.out.own fun g hg => hbr.block g (HO.out.own.lt g hg).2
   have hsr : w.heap.size ≤ wr.heap.size := HB.out.size; have hBs : w.heap.size ≤ (w2.alloc (.cells #[.int .u32 u.h.id.1, .int .u32 u.h.id.2, .int .u32 u.h.home, .int .u64 u.h.w, .int .u32 u.h.l, .int .u32 u.h.n, .slice u.ra u.h.rs.length u.rc, .slice u.wa u.h.ws.length u.wc] 100)).heap.size := Nat.le_trans hsr hbr.size; have hYl : Y.length = i := HO.out.len
   obtain ⟨v2, wB, hr, hown, hgrow, -⟩ := run_append_own (P := Tryz.prog) (w := w2.alloc (.cells #[.int .u32 u.h.id.1, .int .u32 u.h.id.2, .int .u32 u.h.home, .int .u64 u.h.w, .int .u32 u.h.l, .int .u32 u.h.n, .slice u.ra u.h.rs.length u.rc, .slice u.wa u.h.ws.length u.wc] 100)) w.heap.size 58 58 100 i0 _ 8 80 Tryz.underlying58 hi hz0 hz1 hz2 rfl (by decide) (.slice a i c) i (Y.flatMap Lk.hcs) hoA ⟨w2.heap.size, 0, none⟩ 1 1 (Lk.hcs u) rfl (fun j u hj => (by rw [Addr.add_lit, Nat.zero_add]; exact Vs.cob kA (by simpa using hj))) (Lk.hcs_one u) (by unfold maxLen; omega) (by omega) hBs; obtain ⟨a2, c2, rfl⟩ := ows hown; have HFB : Hid (∀ y ∈ Y ++ [u], y.fresh w.heap.size wB) := hid fun y hy => by
    rcases List.mem_append.1 hy with hy | hy
    ·exact fresh_other ((HF.out y hy).later hbr) hoA (by decide) (by decide) hgrow
    ·rw [List.mem_singleton] at hy; subst hy; exact fresh_other ((fresh_base HUF.out hsr).later hbA) hoA (by decide) (by decide) hgrow
   have HOB : Hid (Lk.RowH w.heap.size wB a2 (i + 1) c2 (Y ++ [u])) := hid ⟨by show World.ownsRow _ _ _ _ _ _ _; rw [List.flatMap_append]; simpa using hown, by rw [List.length_append, hYl]; rfl, fun y hy => by
    have hf := HFB.out y hy; rcases List.mem_append.1 hy with hy | hy
    ·exact hf.ok (HO.out.ok y hy).rl (HO.out.ok y hy).wl
    ·rw [List.mem_singleton] at hy; subst hy; exact hf.ok HUO.out.rl HUO.out.wl⟩
   have HYB : Hid ((Y ++ [u]).map Lk.Hv.h = (U.take (i + 1)).map Lk.Hv.h) := hid (by
    rw [List.map_append, HY.out, List.take_add_one, HXI.out, List.map_append, List.map_singleton, HUX.out]; rfl)
   have HBB : Hid (Below w.heap.size w wB) := hid ((HB.out.trans (hbr.mono hsr)).trans ((grown_onl hgrow).below (fun k hk => (hoA.lt k hk).1) hBs)); have HR := hid hr; obtain ⟨i1, hi1'⟩ : ∃ i1, i1 = i + 1 := ⟨_, rfl⟩; rw [← hi1'] at HOB HR HYB; have HI1 := hid hi1'; have hi5 : (i : Int) + 1 = (i1 : Int) := by omega
   have hi6 : IntKind.i64.wrap ((i : Int) + 1) = (i1 : Int) := by rw [IntKind.wrap_i64]; omega
   clear hr hown hgrow hoA hbA kA hBs hi1' hbr hsr hYl; go_wp2_with (first
    | (at_builtin; refine wpList_append_runR rfl (.tmp 14) (.tmp 23) 58 58 rfl _ _ rfl rfl HR.out ?_)
    | go_in)
   go_roundg (m - (i + 1))
   case measure => omega
   case rel => exact ⟨i1, Y ++ [u], a2, c2, by rw [HI1.out]; omega, by rw [HI1.out], rfl, by go_num, HYB, HOB, HFB, HBB⟩
  ·have hie : i = m := by omega
   have hni : ¬ ((i : Int) < (m : Int)) := by omega
   have HY2 : Hid (Y.map Lk.Hv.h = U.map Lk.Hv.h) := hid (by rw [HY.out, hie, HM.out, List.take_of_length_le (Nat.le_refl _)]); have HO2 : Hid (i = Y.length ∧ Lk.RowH w.heap.size wr a Y.length c Y) := hid ⟨HO.out.len.symm, by have := HO.out; rwa [← HO.out.len] at this⟩; clear hlt hi1 hie HY HO; have hiY := HO2.out.1; subst hiY; go_wp2_with fail
   go_ret
   exact ⟨Y, a, c, rfl, HY2, hid HO2.out.2, HB⟩
theorem ne_self_sameEntries (x : Lg.En) (W : World) : (binOp .neq 104 (.agg #[.int .u32 x.id.1, .int .u32 x.id.2, .int .u32 x.home, .int .i64 x.oc, .int .u64 x.w, .int .u32 x.l, .int .u32 x.n]) (.agg #[.int .u32 x.id.1, .int .u32 x.id.2, .int .u32 x.home, .int .i64 x.oc, .int .u64 x.w, .int .u32 x.l, .int .u32 x.n])).run Tryz.prog W = .ok (.bool false) W := by
 simp [go_sem, Tryz.underlying104, Tryz.underlying33, Tryz.underlying36]
theorem sameEntries_is {w : World} {a a' : Option Addr} {c c' : Nat} {L : List (Lg.En)} (h : RowG Lg.ecs 7 w a L) (h' : RowG Lg.ecs 7 w a' L) (hl : L.length ≤ 1099511627776) :
  Calls Tryz.prog 22 #[.slice a L.length c, .slice a' L.length c'] w fun e w' => e = .returned (.bool true) ∧ Below w.heap.size w w' := by
 have HR := hid h; have HR' := hid h'; obtain ⟨m, hm⟩ : ∃ m, m = L.length := ⟨_, rfl⟩; rw [← hm] at hl ⊢; have HM := hid hm; have h0 : ((m : Int) != (m : Int)) = false := by simp
 clear h h' hm; go_enter Tryz.func22, Tryz.ntmps22
 go_wp2_with fail
 go_loopg [5] m (fun g s5 wr => ∃ i : Nat, i ≤ m ∧ g = m - i ∧ s5 = .int .i64 i ∧ Hid (Below w.heap.size w wr))
 case atStart => exact ⟨0, by omega, by omega, rfl, hid (Below.refl _ _)⟩
 case round =>
  obtain ⟨i, hi1, rfl, rfl, HB⟩ := hrel; by_cases hlt : i < m
  ·have hi2 : (i : Int) < (m : Int) := by omega
   have hiL : i < L.length := by rw [← HM.out]; exact hlt
   obtain ⟨x, hx⟩ : ∃ x, L[i]? = some x := ⟨_, List.getElem?_eq_getElem hiL⟩; obtain ⟨g, off, eg, hc⟩ := (HR.out.later HB.out) i x hx; obtain ⟨g', off', eg', hc'⟩ := (HR'.out.later HB.out) i x hx; subst eg eg'; have qq := ne_self_sameEntries x; have s0 := cell_regrown (show wr.cell? ⟨g, off + i * 7, none⟩ = some (.int .u32 x.id.1) from hc 0 _ rfl); have t0 := cell_regrown (show wr.cell? ⟨g', off' + i * 7, none⟩ = some (.int .u32 x.id.1) from hc' 0 _ rfl); have s1 := cell_regrown (show wr.cell? ⟨g, off + i * 7 + 1, none⟩ = some (.int .u32 x.id.2) from hc 1 _ rfl); have t1 := cell_regrown (show wr.cell? ⟨g', off' + i * 7 + 1, none⟩ = some (.int .u32 x.id.2) from hc' 1 _ rfl); have s2 := cell_regrown (show wr.cell? ⟨g, off + i * 7 + 2, none⟩ = some (.int .u32 x.home) from hc 2 _ rfl)
   have t2 := cell_regrown (show wr.cell? ⟨g', off' + i * 7 + 2, none⟩ = some (.int .u32 x.home) from hc' 2 _ rfl); have s3 := cell_regrown (show wr.cell? ⟨g, off + i * 7 + 3, none⟩ = some (.int .i64 x.oc) from hc 3 _ rfl); have t3 := cell_regrown (show wr.cell? ⟨g', off' + i * 7 + 3, none⟩ = some (.int .i64 x.oc) from hc' 3 _ rfl); have s4 := cell_regrown (show wr.cell? ⟨g, off + i * 7 + 4, none⟩ = some (.int .u64 x.w) from hc 4 _ rfl); have t4 := cell_regrown (show wr.cell? ⟨g', off' + i * 7 + 4, none⟩ = some (.int .u64 x.w) from hc' 4 _ rfl); have s5 := cell_regrown (show wr.cell? ⟨g, off + i * 7 + 5, none⟩ = some (.int .u32 x.l) from hc 5 _ rfl); have t5 := cell_regrown (show wr.cell? ⟨g', off' + i * 7 + 5, none⟩ = some (.int .u32 x.l) from hc' 5 _ rfl); have s6 := cell_regrown (show wr.cell? ⟨g, off + i * 7 + 6, none⟩ = some (.int .u32 x.n) from hc 6 _ rfl)
   have t6 := cell_regrown (show wr.cell? ⟨g', off' + i * 7 + 6, none⟩ = some (.int .u32 x.n) from hc' 6 _ rfl); clear hc hc' hx; go_wp2_with fail
   refine wp_region_quiet_below (by kernel_rfl) (by kernel_rfl) ?_; repeat (go_big_quiet_step (fail))
   refine wpQuiet_nil ?_; intro wn hwn; replace hwn := bor hwn; have HN := hid (Below.on HB.out hwn); go_wp2_with fail
   go_roundg (m - (i + 1))
   case measure => omega
   case rel => exact ⟨i + 1, by omega, rfl, by go_num, HN⟩
  ·have hni : ¬ ((i : Int) < (m : Int)) := by omega
   clear hlt hi1; go_wp2_with fail
   go_ret
   exact ⟨rfl, HB.out⟩
theorem ne_self_sameVersions (x : Vs.Kv) (W : World) : (binOp .neq 108 (.agg #[.string x.1, .int .u64 x.2.s.a, .int .u32 x.2.s.b, .int .u32 x.2.s.c, .bool x.2.del, .string x.2.val]) (.agg #[.string x.1, .int .u64 x.2.s.a, .int .u32 x.2.s.b, .int .u32 x.2.s.c, .bool x.2.del, .string x.2.val])).run Tryz.prog W = .ok (.bool false) W := by
 simp [go_sem, Tryz.underlying108, Tryz.underlying36]
theorem sameVersions_is {w : World} {a a' : Option Addr} {c c' : Nat} {L : List (Vs.Kv)} (h : RowG c6 6 w a L) (h' : RowG c6 6 w a' L) (hl : L.length ≤ 1099511627776) :
  Calls Tryz.prog 25 #[.slice a L.length c, .slice a' L.length c'] w fun e w' => e = .returned (.bool true) ∧ Below w.heap.size w w' := by
 have HR := hid h; have HR' := hid h'; obtain ⟨m, hm⟩ : ∃ m, m = L.length := ⟨_, rfl⟩; rw [← hm] at hl ⊢; have HM := hid hm; have h0 : ((m : Int) != (m : Int)) = false := by simp
 clear h h' hm; go_enter Tryz.func25, Tryz.ntmps25
 go_wp2_with fail
 go_loopg [5] m (fun g s5 wr => ∃ i : Nat, i ≤ m ∧ g = m - i ∧ s5 = .int .i64 i ∧ Hid (Below w.heap.size w wr))
 case atStart => exact ⟨0, by omega, by omega, rfl, hid (Below.refl _ _)⟩
 case round =>
  obtain ⟨i, hi1, rfl, rfl, HB⟩ := hrel; by_cases hlt : i < m
  ·have hi2 : (i : Int) < (m : Int) := by omega
   have hiL : i < L.length := by rw [← HM.out]; exact hlt
   obtain ⟨x, hx⟩ : ∃ x, L[i]? = some x := ⟨_, List.getElem?_eq_getElem hiL⟩; obtain ⟨g, off, eg, hc⟩ := (HR.out.later HB.out) i x hx; obtain ⟨g', off', eg', hc'⟩ := (HR'.out.later HB.out) i x hx; subst eg eg'; have qq := ne_self_sameVersions x; have s0 := cell_regrown (show wr.cell? ⟨g, off + i * 6, none⟩ = some (.string x.1) from hc 0 _ rfl); have t0 := cell_regrown (show wr.cell? ⟨g', off' + i * 6, none⟩ = some (.string x.1) from hc' 0 _ rfl); have s1 := cell_regrown (show wr.cell? ⟨g, off + i * 6 + 1, none⟩ = some (.int .u64 x.2.s.a) from hc 1 _ rfl); have t1 := cell_regrown (show wr.cell? ⟨g', off' + i * 6 + 1, none⟩ = some (.int .u64 x.2.s.a) from hc' 1 _ rfl); have s2 := cell_regrown (show wr.cell? ⟨g, off + i * 6 + 2, none⟩ = some (.int .u32 x.2.s.b) from hc 2 _ rfl)
   have t2 := cell_regrown (show wr.cell? ⟨g', off' + i * 6 + 2, none⟩ = some (.int .u32 x.2.s.b) from hc' 2 _ rfl); have s3 := cell_regrown (show wr.cell? ⟨g, off + i * 6 + 3, none⟩ = some (.int .u32 x.2.s.c) from hc 3 _ rfl); have t3 := cell_regrown (show wr.cell? ⟨g', off' + i * 6 + 3, none⟩ = some (.int .u32 x.2.s.c) from hc' 3 _ rfl); have s4 := cell_regrown (show wr.cell? ⟨g, off + i * 6 + 4, none⟩ = some (.bool x.2.del) from hc 4 _ rfl); have t4 := cell_regrown (show wr.cell? ⟨g', off' + i * 6 + 4, none⟩ = some (.bool x.2.del) from hc' 4 _ rfl); have s5 := cell_regrown (show wr.cell? ⟨g, off + i * 6 + 5, none⟩ = some (.string x.2.val) from hc 5 _ rfl); have t5 := cell_regrown (show wr.cell? ⟨g', off' + i * 6 + 5, none⟩ = some (.string x.2.val) from hc' 5 _ rfl); clear hc hc' hx; go_wp2_with fail
   refine wp_region_quiet_below (by kernel_rfl) (by kernel_rfl) ?_; repeat (go_big_quiet_step (fail))
   refine wpQuiet_nil ?_; intro wn hwn; replace hwn := bor hwn; have HN := hid (Below.on HB.out hwn); go_wp2_with fail
   go_roundg (m - (i + 1))
   case measure => omega
   case rel => exact ⟨i + 1, by omega, rfl, by go_num, HN⟩
  ·have hni : ¬ ((i : Int) < (m : Int)) := by omega
   clear hlt hi1; go_wp2_with fail
   go_ret
   exact ⟨rfl, HB.out⟩
end Ig
namespace Lk
open Go.RowKit Go.Sort
def sameW (a b : Wr) : Bool := decide (a.key = b.key) && (a.del == b.del) && decide (a.val = b.val)
theorem sameW_eq {a b : Wr} : sameW a b = true ↔ a = b := by
 obtain ⟨a1, a2, a3⟩ := a; obtain ⟨b1, b2, b3⟩ := b; simp [sameW, and_assoc]
theorem run_neSt (a b c x y z : Int) (w : World) : (binOp .neq 36 (.agg #[.int .u64 a, .int .u32 b, .int .u32 c]) (.agg #[.int .u64 x, .int .u32 y, .int .u32 z])).run Tryz.prog w = .ok (.bool (!decide (a = x ∧ b = y ∧ c = z))) w := by
 by_cases h1 : a = x <;> by_cases h2 : b = y <;> by_cases h3 : c = z <;> simp [h1, h2, h3, go_sem, Tryz.underlying36]
theorem beq_bytes (a b : ByteArray) : (a.toList == b.toList) = decide (a = b) := by
 rw [Bool.eq_iff_iff]; simp only [beq_iff_eq, decide_eq_true_eq]
 exact ⟨bytes_inj, fun e => by rw [e]⟩
theorem run_neSp (a b : T2) (w : World) : (binOp .neq 126 (.agg #[.string a.1, .string a.2]) (.agg #[.string b.1, .string b.2])).run Tryz.prog w = .ok (.bool (!decide (a = b))) w := by
 obtain ⟨a1, a2⟩ := a; obtain ⟨b1, b2⟩ := b; by_cases h1 : a1 = b1 <;> by_cases h2 : a2 = b2 <;> simp [h1, h2, beq_bytes, go_sem, Tryz.underlying126]
theorem run_neWr (a b : Wr) (w : World) : (binOp .neq 117 (.agg #[.string a.key, .bool a.del, .string a.val]) (.agg #[.string b.key, .bool b.del, .string b.val])).run Tryz.prog w = .ok (.bool (!sameW a b)) w := by
 obtain ⟨a1, a2, a3⟩ := a; obtain ⟨b1, b2, b3⟩ := b; by_cases h1 : a1 = b1 <;> by_cases h2 : a2 = b2 <;> by_cases h3 : a3 = b3 <;> simp [h1, h2, h3, sameW, beq_bytes, go_sem, Tryz.underlying117]
end Lk
end Go.Proofs.YtofpaldolcnmiaaGreat
