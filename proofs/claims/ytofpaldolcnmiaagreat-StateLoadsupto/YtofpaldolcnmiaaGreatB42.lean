import Derived.Test.YtofpaldolcnmiaaGreatB41
set_option linter.unusedVariables false
set_option maxHeartbeats 8000000
namespace Go.Proofs.YtofpaldolcnmiaaGreat.Ig
open Go.RowKit Go.Sort
set_option maxRecDepth 100000 in
theorem dheld_is {w : World} {p : Nat} {S l r : List Nat} {x : Lk.Hd} (h : Vw w p S l) (hv : dHeld (.at l) = (x, .at r)) :
  Calls Tryz.prog 99 #[.pointer (some ⟨p, 0, none⟩)] w fun e w' => ∃ v : Lk.Hv, e = .returned v.val ∧ Hid (v.h = x) ∧ Hid (v.fresh w.heap.size w') ∧ Vw w' p S r ∧ Onl (fun k => k = p) w w' := by
 obtain ⟨i2, hi2, hz20, hz21, hz22⟩ := ifz infoT2; obtain ⟨i3, hi3, hz30, hz31, hz32⟩ := ifz infoT3; have hpl := h.lt; have hln := h.bl.2; obtain ⟨x0, l0, e0⟩ : ∃ y t, dTxn (.at l) = (y, .at t) := ⟨_, _, rfl⟩; obtain ⟨x1, hx1⟩ : ∃ y, y = vStamp l0 := ⟨_, rfl⟩; obtain ⟨n2, hn2⟩ : ∃ y, y = vNum x1.2 := ⟨_, rfl⟩; obtain ⟨x2, l2, e2⟩ : ∃ y t, tN dSpan n2.1 (.at n2.2) = (y, .at t) := tN_at (fun l => ⟨_, _, at_span l⟩) _ _; obtain ⟨n3, hn3⟩ : ∃ y, y = vNum l2 := ⟨_, rfl⟩; obtain ⟨x3, l3, e3⟩ : ∃ y t, tN dWrite n3.1 (.at n3.2) = (y, .at t) := tN_at (fun l => ⟨_, _, at_write l⟩) _ _; have hE : dHeld (.at l) = (⟨x0.1, x0.2, x1.1.w, x1.1.l, x1.1.n, x2, x3⟩, .at l3) := by
  have q1 : dS (.at l0) = (⟨x1.1.w, x1.1.l, x1.1.n⟩, .at x1.2) := by rw [hx1]; rfl
  have q2 : dL dSpan (.at x1.2) = (x2, .at l2) := by
   have : dVar (.at x1.2) = (n2.1, .at n2.2) := by rw [hn2]; rfl
   unfold dL; rw [this, e2]
  have q3 : dL dWrite (.at l2) = (x3, .at l3) := by
   have : dVar (.at l2) = (n3.1, .at n3.2) := by rw [hn3]; rfl
   unfold dL; rw [this, e3]
  simp only [dHeld, tP, tM, e0, q1, q2, q3]
 rw [hv] at hE; simp only [Prod.mk.injEq, Ds.at.injEq] at hE; obtain ⟨hx, rfl⟩ := hE; have HX := hid hx; have hn2l : n2.1 < 18446744073709551616 := by rw [hn2]; exact vNum_lt _
 have hn3l : n3.1 < 18446744073709551616 := by rw [hn3]; exact vNum_lt _
 clear hx hv; have E0 := hid e0; have HX1 := hid hx1; have HN2 := hid hn2; have E2 := hid e2; have HN3 := hid hn3; have E3 := hid e3; obtain ⟨n2, l1⟩ := n2; obtain ⟨n3, l4⟩ := n3; obtain ⟨x1, m1⟩ := x1; simp only at hn2l hn3l; clear e0 hx1 hn2 e2 hn3 e3; obtain ⟨wa, hwa⟩ : ∃ wa, wa = w.alloc (.cells #[.int .u32 0, .int .u32 0, .int .u32 0, .int .u64 0, .int .u32 0, .int .u32 0, .slice none 0 0, .slice none 0 0] 100) := ⟨_, rfl⟩; have hba : Below w.heap.size w wa := by rw [hwa]; exact Below.al (Below.refl _ _) _
 have kx : wa.heap[w.heap.size]? = some (.cells #[.int .u32 0, .int .u32 0, .int .u32 0, .int .u64 0, .int .u32 0, .int .u32 0, .slice none 0 0, .slice none 0 0] 100 (0, 0)) := by rw [hwa]; exact World.alloc_heap_new _ _
 have C0 := hid (vid_is (h.later hba) E0.out); have HO0 : Hid (Onl (fun k => k = p) w wa) := hid (Onl.of_below hba); have HK := hid kx; clear h hba kx; go_enter Tryz.func99, Tryz.ntmps99
 go_upto_region 1 with fail
 rw [← hwa]; clear hwa; go_wp2_with fail
 refine C0.out.mono ?_; rintro e w1 ⟨rfl, hv1, ho1⟩; have HV1 := hid hv1; have HK1 := hid (blk_onl ho1 (fun e => by omega) HK.out); have HO1 := hid (HO0.out.trans ho1); clear hv1 ho1 C0 HK HO0; obtain ⟨⟨x01, x02⟩, x03⟩ := x0; simp only; obtain ⟨w2, hw2⟩ : ∃ w2, w2 = (w1.alloc (.cells #[.int .u32 x01, .int .u32 x02] 33)).alloc (.cells #[.int .u32 x01, .int .u32 x02, .int .u32 x03, .int .u64 0, .int .u32 0, .int .u32 0, .slice none 0 0, .slice none 0 0] 100) := ⟨_, rfl⟩; have hb2 : Below w1.heap.size w1 w2 := by rw [hw2]; exact Below.al (Below.al (Below.refl _ _) _) _
 have kq : w2.heap[w1.heap.size + 1]? = some (.cells #[.int .u32 x01, .int .u32 x02, .int .u32 x03, .int .u64 0, .int .u32 0, .int .u32 0, .slice none 0 0, .slice none 0 0] 100 (0, 0)) := by
  rw [hw2]; have := World.alloc_heap_new (w1.alloc (.cells #[.int .u32 x01, .int .u32 x02] 33)) (.cells #[.int .u32 x01, .int .u32 x02, .int .u32 x03, .int .u64 0, .int .u32 0, .int .u32 0, .slice none 0 0, .slice none 0 0] 100); simpa using this
 have hlt1 : w.heap.size < w1.heap.size := (Array.getElem?_eq_some_iff.1 HK1.out).1; have hqw : w.heap.size < (w1.heap.size + 1) := by omega
 have hpq : p < (w1.heap.size + 1) := by omega
 have H2 : Hid (Hq w w2 p S l0 (w1.heap.size + 1) w.heap.size 100 #[.int .u32 x01, .int .u32 x02, .int .u32 x03, .int .u64 0, .int .u32 0, .int .u32 0, .slice none 0 0, .slice none 0 0] 100 #[.int .u32 0, .int .u32 0, .int .u32 0, .int .u64 0, .int .u32 0, .int .u32 0, .slice none 0 0, .slice none 0 0]) := hid ⟨HV1.out.later hb2, kq, blk_onl (Onl.of_below (F := fun _ => False) hb2) (fun e => e) HK1.out, HO1.out.on hb2⟩; clear hb2 kq HK1 HV1 HO1; go_upto_region 3 with fail
 rw [← hw2]; clear hw2 hlt1; have CS := hid (vstamp_is H2.out.vw); rw [← HX1.out] at CS; go_wp2_with fail
 refine CS.out.mono ?_; rintro e w3 ⟨rfl, hv3, ho3⟩; have H3 := hid (H2.out.step hv3 ho3 (by omega) (by omega)); clear hv3 ho3 CS H2; have z3 : w3.cell? ⟨w1.heap.size + 1, 3, none⟩ = some (.int .u64 0) := by rw [Lib.cell_of_heap H3.out.box]; rfl
 have z4 : w3.cell? ⟨w1.heap.size + 1, 4, none⟩ = some (.int .u32 0) := by rw [Lib.cell_of_heap H3.out.box]; rfl
 have z5 : w3.cell? ⟨w1.heap.size + 1, 5, none⟩ = some (.int .u32 0) := by rw [Lib.cell_of_heap H3.out.box]; rfl
 have zf : ∀ j, w3.frozen? ⟨w1.heap.size + 1, j, none⟩ = false := fun j => Lib.frozen_of_heap H3.out.box j
 have hq0 : w.heap.size ≤ (w1.heap.size + 1) := Nat.le_of_lt hqw; have H4 : Hid (Hq w (((w3.setCell ⟨w1.heap.size + 1, 3, none⟩ (.int .u64 x1.w)).setCell ⟨w1.heap.size + 1, 4, none⟩ (.int .u32 x1.l)).setCell ⟨w1.heap.size + 1, 5, none⟩ (.int .u32 x1.n)) p S m1 (w1.heap.size + 1) w.heap.size 100 #[.int .u32 x01, .int .u32 x02, .int .u32 x03, .int .u64 x1.w, .int .u32 x1.l, .int .u32 x1.n, .slice none 0 0, .slice none 0 0] 100 #[.int .u32 0, .int .u32 0, .int .u32 0, .int .u64 0, .int .u32 0, .int .u32 0, .slice none 0 0, .slice none 0 0]) :=
  hid (((H3.out.put (by omega) (by omega) hq0 3 _).put (by omega) (by omega) hq0 4 _).put (by omega) (by omega) hq0 5 _)
 clear H3; go_upto_region 4 with fail
 generalize (((w3.setCell ⟨w1.heap.size + 1, 3, none⟩ (.int .u64 x1.w)).setCell ⟨w1.heap.size + 1, 4, none⟩ (.int .u32 x1.l)).setCell ⟨w1.heap.size + 1, 5, none⟩ (.int .u32 x1.n)) = w4 at H4 ⊢
 clear z3 z4 z5 zf; have CN := hid (vnum_is H4.out.vw); rw [← HN2.out] at CN; go_wp2_with fail
 refine CN.out.mono ?_; rintro e w5 ⟨rfl, hv5, ho5⟩; have H5 := hid (H4.out.step hv5 ho5 (by omega) (by omega)); have hl1 : l1.length ≤ 1099511627776 := hv5.bl.2; clear hv5 ho5 CN H4; go_wp2_with fail
 go_loopg [7] n2 (fun g s7 wr => ∃ (i : Nat) (ys : List T2) (l' : List Nat) (a : Option Addr) (c : Nat), i ≤ n2 ∧ g = n2 - i ∧ s7 = .int .u64 (i : Int) ∧ Hid (Hq w wr p S l' (w1.heap.size + 1) w.heap.size 100 #[.int .u32 x01, .int .u32 x02, .int .u32 x03, .int .u64 x1.w, .int .u32 x1.l, .int .u32 x1.n, .slice a ys.length c, .slice none 0 0] 100 #[.int .u32 0, .int .u32 0, .int .u32 0, .int .u64 0, .int .u32 0, .int .u32 0, .slice none 0 0, .slice none 0 0]) ∧ Hid (wr.ownsRow ((w1.heap.size + 1) + 1) 126 2 (.slice a ys.length c) ys.length (ys.flatMap c2)) ∧ Hid ((x2, Ds.at l2) = (ys ++ (tN dSpan (n2 - i) (.at l')).1, (tN dSpan (n2 - i) (.at l')).2)) ∧ Hid (ys.length + l'.length ≤ l1.length))
 case atStart => exact ⟨0, [], l1, none, 0, by omega, by omega, rfl, H5, World.ownsRow_nil _ _ _ _, hid (by rw [Nat.sub_zero, E2.out]; rfl), hid (by simp)⟩
 case round =>
  clear H5; obtain ⟨i, ys, l', a, c, hi, rfl, rfl, HQ, HO, HT, HY⟩ := hrel; have HL := hid (vleft_is HQ.out.vw); obtain ⟨u, hu⟩ : ∃ u : Bool, u = decide (i < n2 ∧ l' ≠ []) := ⟨_, rfl⟩; have HU := hid hu; clear hu; go_upto_region 6 with fail
  go_cut [33] (fun s33 wz => s33 = .bool u ∧ Hid (Hq w wz p S l' (w1.heap.size + 1) w.heap.size 100 #[.int .u32 x01, .int .u32 x02, .int .u32 x03, .int .u64 x1.w, .int .u32 x1.l, .int .u32 x1.n, .slice a ys.length c, .slice none 0 0] 100 #[.int .u32 0, .int .u32 0, .int .u32 0, .int .u64 0, .int .u32 0, .int .u32 0, .slice none 0 0, .slice none 0 0]) ∧ Hid (wz.ownsRow ((w1.heap.size + 1) + 1) 126 2 (.slice a ys.length c) ys.length (ys.flatMap c2)))
  case first =>
   by_cases hlt : i < n2
   ·have d1 : decide ((i : Int) < (n2 : Int)) = true := by simp; omega
    go_wp2_with fail
    refine HL.out.mono ?_; rintro e w6 ⟨rfl, rfl⟩; go_wp2_with fail
    go_meet
    exact ⟨by rw [HU.out]; simp [hlt], hid HQ.out.drew, HO⟩
   ·have d1 : decide ((i : Int) < (n2 : Int)) = false := by simp; omega
    go_wp2_with fail
    go_meet
    exact ⟨by rw [HU.out]; simp [hlt], HQ, HO⟩
  case rest =>
   clear HQ HO HL; obtain ⟨rfl, HQ, HO⟩ := hcut; cases u with
   | true =>
    have hgo : i < n2 ∧ l' ≠ [] := of_decide_eq_true HU.out.symm; have hN : n2 - i = (n2 - (i + 1)) + 1 := by omega
    have HG := hid hgo; obtain ⟨u1, hu1⟩ : ∃ y, y = vText l' := ⟨_, rfl⟩; obtain ⟨u2, hu2⟩ : ∃ y, y = vText u1.2 := ⟨_, rfl⟩; obtain ⟨x, hx⟩ : ∃ x : T2, x = (ofNats u1.1, ofNats u2.1) := ⟨_, rfl⟩; have HE : Hid ((tN dSpan (n2 - i) (.at l')).1 = x :: (tN dSpan (n2 - (i + 1)) (.at u2.2)).1 ∧ (tN dSpan (n2 - i) (.at l')).2 = (tN dSpan (n2 - (i + 1)) (.at u2.2)).2) := hid (by
     have h1 := tN_more (t := dSpan) (m := n2 - (i + 1)) (d := .at l') (d1 := .at u2.2) (x := x) (by intro h0; exact hgo.2 (List.eq_nil_of_length_eq_zero h0)) (by rw [at_span, ← hu1, ← hu2, hx]); rw [← hN] at h1; rw [h1]; exact ⟨rfl, rfl⟩)
    have hy : u2.2.length < l'.length := by
     have h1 := vtext_eat hgo.2; have h2 := vtext_drops u1.2; rw [← hu1] at h1; rw [← hu2] at h2; omega
    have e1 : ofNats u1.1 = x.1 := by rw [hx]
    have e2 : ofNats u2.1 = x.2 := by rw [hx]
    have CT1 := hid (vtext_is HQ.out.vw); rw [← hu1, e1] at CT1; have HU2 := hid hu2; have E2X := hid e2; clear hu1 hu2 hx e1 e2 hgo; go_wp2_with fail
    refine CT1.out.mono ?_; rintro e w7 ⟨rfl, hv7, ho7⟩; have HQ7 := hid (HQ.out.step hv7 ho7 (by omega) (by omega)); have HO7 := hid (own_hq HO.out ho7 (by omega)); have CT2 := hid (vtext_is HQ7.out.vw); rw [← HU2.out, E2X.out] at CT2; clear hv7 ho7 CT1 HQ HO HU2 E2X; go_wp2_with fail
    refine CT2.out.mono ?_; rintro e w8 ⟨rfl, hv8, ho8⟩; have HQ8 := hid (HQ7.out.step hv8 ho8 (by omega) (by omega)); have HO8 := hid (own_hq HO7.out ho8 (by omega)); clear hv8 ho8 CT2 HQ7 HO7; obtain ⟨wA, hwA⟩ : ∃ wA, wA = w8.alloc (.cells #[.string x.1, .string x.2] 126) := ⟨_, rfl⟩; have kA : wA.heap[w8.heap.size]? = some (.cells #[.string x.1, .string x.2] 126 (0, 0)) := by rw [hwA]; exact World.alloc_heap_new _ _
    have HCL : Hid (∀ j u, (c2 x)[j]? = some u → wA.cell? ((⟨w8.heap.size, 0, none⟩ : Addr).add j) = some u) := hid fun j u hj => by
     rw [Addr.add_lit, Nat.zero_add]; exact Vs.cob kA (by simpa using hj)
    have hbA : Below w8.heap.size w8 wA := by rw [hwA]; exact Below.al (Below.refl _ _) _
    have HQA := hid (HQ8.out.later hbA); have HOA : Hid (wA.ownsRow ((w1.heap.size + 1) + 1) 126 2 (.slice a ys.length c) ys.length (ys.flatMap c2)) := hid (by rw [hwA]; exact own_al HO8.out _); have qlt : (w1.heap.size + 1) + 1 ≤ wA.heap.size := (Array.getElem?_eq_some_iff.1 HQA.out.box).1; have z6 : w8.cell? ⟨w1.heap.size + 1, 6, none⟩ = some (.slice a ys.length c) := by rw [Lib.cell_of_heap HQ8.out.box]; rfl
    have hyl : ys.length + 1 ≤ 1099511627776 := by have := HY.out; omega
    clear kA hbA HQ8 HO8; go_wp2_with (at_builtin; refine wpList_append_own _ rfl _ _ 37 rfl ((w1.heap.size + 1) + 1) 126 i2 (.agg #[.string ⟨#[]⟩, .string ⟨#[]⟩]) 2 32 Tryz.underlying37 hi2 hz20 hz21 hz22 rfl (by decide) (.slice a ys.length c) ys.length (ys.flatMap c2) rfl (by rw [← hwA]; exact HOA.out) ⟨w8.heap.size, 0, none⟩ 1 1 (c2 x) rfl rfl (by rw [← hwA]; exact HCL.out) (c2_one x) (by unfold maxLen; omega) (by omega) (by rw [← hwA]; exact qlt) ?_)
    intro v2 wB hown hgrow hnil; rw [← hwA] at hgrow; obtain ⟨a2, cc2, rfl⟩ := ows hown; have HQB := hid (HQA.out.grown hgrow (fun g hg => (HOA.out.lt g hg).1) hpq hqw hq0); have HOB : Hid (wB.ownsRow ((w1.heap.size + 1) + 1) 126 2 (.slice a2 (ys ++ [x]).length cc2) (ys ++ [x]).length ((ys ++ [x]).flatMap c2)) := by
     show World.ownsRow _ _ _ _ _ _ _
     rw [List.flatMap_append, List.length_append]; simpa using hown
    have zB : wB.cell? ⟨w1.heap.size + 1, 6, none⟩ = some (.slice a ys.length c) := by rw [Lib.cell_of_heap HQB.out.box]; rfl
    have fB : wB.frozen? ⟨w1.heap.size + 1, 6, none⟩ = false := Lib.frozen_of_heap HQB.out.box 6; have hlen : (ys ++ [x]).length = ys.length + 1 := by simp
    have HQC : Hid (Hq w (wB.setCell ⟨w1.heap.size + 1, 6, none⟩ (.slice a2 (ys.length + 1) cc2)) p S u2.2 (w1.heap.size + 1) w.heap.size 100 #[.int .u32 x01, .int .u32 x02, .int .u32 x03, .int .u64 x1.w, .int .u32 x1.l, .int .u32 x1.n, .slice a2 (ys ++ [x]).length cc2, .slice none 0 0] 100 #[.int .u32 0, .int .u32 0, .int .u32 0, .int .u64 0, .int .u32 0, .int .u32 0, .slice none 0 0, .slice none 0 0]) := hid (by rw [hlen]; exact HQB.out.put (by omega) (by omega) hq0 6 _); have HOC := hid (own_set (j := 6) (u := .slice a2 (ys.length + 1) cc2) HOB.out (q := (w1.heap.size + 1)) (by omega)); have HTC : Hid ((x2, Ds.at l2) = ((ys ++ [x]) ++ (tN dSpan (n2 - (i + 1)) (.at u2.2)).1, (tN dSpan (n2 - (i + 1)) (.at u2.2)).2)) := hid (by rw [HT.out, HE.out.1, HE.out.2]; simp); have kw : IntKind.u64.wrap ((i : Int) + 1) = ((i + 1 : Nat) : Int) := by have := HG.out.1; rw [IntKind.wrap_u64]; omega
    clear hown hgrow hnil hwA HQA HOA HCL HQB HOB HE HT; go_wp2_with fail
    go_roundg (n2 - (i + 1))
    case measure => have := HG.out.1; omega
    case rel => exact ⟨i + 1, ys ++ [x], u2.2, a2, cc2, by have := HG.out.1; omega, rfl, rfl, HQC, HOC, HTC, hid (by rw [hlen]; have := HY.out; omega)⟩
   | false =>
    have hgo : ¬ (i < n2 ∧ l' ≠ []) := of_decide_eq_false HU.out.symm; clear HU; have HF : Hid (x2 = ys ∧ l2 = l') := hid (by
     have h1 := HT.out; have h2 : tN dSpan (n2 - i) (.at l') = ([], .at l') := by
      by_cases h0 : l' = []
      ·exact tN_zero _ _ (by rw [h0]; rfl)
      ·have : n2 - i = 0 := by
        have : ¬ i < n2 := fun h => hgo ⟨h, h0⟩
        omega
       rw [this]; rfl
     rw [h2] at h1; simpa using h1)
    clear hgo HT HY; obtain ⟨rfl, rfl⟩ := HF.out; clear HF; have CN3 := hid (vnum_is HQ.out.vw); rw [← HN3.out] at CN3; generalize a = a1 at *
    generalize c = ca1 at *
    clear E2; go_wp2_with fail
    refine CN3.out.mono ?_; rintro e wd ⟨rfl, hvd, hod⟩; have HD := hid (HQ.out.step hvd hod (by omega) (by omega)); have HOS := hid (own_hq HO.out hod (by omega)); have hl4 : l4.length ≤ 1099511627776 := hvd.bl.2; clear hvd hod CN3 HQ HO HN3; go_wp2_with fail
    go_loopg [10] n3 (fun g s7 wr => ∃ (i : Nat) (ys : List Wr) (l' : List Nat) (a : Option Addr) (c : Nat), i ≤ n3 ∧ g = n3 - i ∧ s7 = .int .u64 (i : Int) ∧ Hid (Hq w wr p S l' (w1.heap.size + 1) w.heap.size 100 #[.int .u32 x01, .int .u32 x02, .int .u32 x03, .int .u64 x1.w, .int .u32 x1.l, .int .u32 x1.n, .slice a1 x2.length ca1, .slice a ys.length c] 100 #[.int .u32 0, .int .u32 0, .int .u32 0, .int .u64 0, .int .u32 0, .int .u32 0, .slice none 0 0, .slice none 0 0]) ∧ Hid (wr.ownsRow ((w1.heap.size + 1) + 1) 117 3 (.slice a ys.length c) ys.length (ys.flatMap c3)) ∧ Hid ((x3, Ds.at r) = (ys ++ (tN dWrite (n3 - i) (.at l')).1, (tN dWrite (n3 - i) (.at l')).2)) ∧ Hid (ys.length + l'.length ≤ l4.length) ∧ Hid (wr.ownsRow ((w1.heap.size + 1) + 1) 126 2 (.slice a1 x2.length ca1) x2.length (x2.flatMap c2)))
    case atStart => exact ⟨0, [], l4, none, 0, by omega, by omega, rfl, HD, World.ownsRow_nil _ _ _ _, hid (by rw [Nat.sub_zero, E3.out]; rfl), hid (by simp), HOS⟩
    case round =>
     clear HD HOS; obtain ⟨i, ys, l', a, c, hi, rfl, rfl, HQ, HO, HT, HY, HOS⟩ := hrel; have HL := hid (vleft_is HQ.out.vw); obtain ⟨u, hu⟩ : ∃ u : Bool, u = decide (i < n3 ∧ l' ≠ []) := ⟨_, rfl⟩; have HU := hid hu; clear hu; go_upto_region 13 with fail
     go_cut [56] (fun s33 wz => s33 = .bool u ∧ Hid (Hq w wz p S l' (w1.heap.size + 1) w.heap.size 100 #[.int .u32 x01, .int .u32 x02, .int .u32 x03, .int .u64 x1.w, .int .u32 x1.l, .int .u32 x1.n, .slice a1 x2.length ca1, .slice a ys.length c] 100 #[.int .u32 0, .int .u32 0, .int .u32 0, .int .u64 0, .int .u32 0, .int .u32 0, .slice none 0 0, .slice none 0 0]) ∧ Hid (wz.ownsRow ((w1.heap.size + 1) + 1) 117 3 (.slice a ys.length c) ys.length (ys.flatMap c3)) ∧ Hid (wz.ownsRow ((w1.heap.size + 1) + 1) 126 2 (.slice a1 x2.length ca1) x2.length (x2.flatMap c2)))
     case first =>
      by_cases hlt : i < n3
      ·have d1 : decide ((i : Int) < (n3 : Int)) = true := by simp; omega
       go_wp2_with fail
       refine HL.out.mono ?_; rintro e w6 ⟨rfl, rfl⟩; go_wp2_with fail
       go_meet
       exact ⟨by rw [HU.out]; simp [hlt], hid HQ.out.drew, HO, HOS⟩
      ·have d1 : decide ((i : Int) < (n3 : Int)) = false := by simp; omega
       go_wp2_with fail
       go_meet
       exact ⟨by rw [HU.out]; simp [hlt], HQ, HO, HOS⟩
     case rest =>
      clear HQ HO HL HOS; obtain ⟨rfl, HQ, HO, HOS⟩ := hcut; cases u with
      | true =>
       have hgo : i < n3 ∧ l' ≠ [] := of_decide_eq_true HU.out.symm; have hN : n3 - i = (n3 - (i + 1)) + 1 := by omega
       have HG := hid hgo; obtain ⟨u1, hu1⟩ : ∃ y, y = vText l' := ⟨_, rfl⟩; obtain ⟨u2, hu2⟩ : ∃ y, y = vOne u1.2 := ⟨_, rfl⟩; obtain ⟨u3, hu3⟩ : ∃ y, y = vText u2.2 := ⟨_, rfl⟩; obtain ⟨x, hx⟩ : ∃ x : Wr, x = ⟨ofNats u1.1, decide (u2.1 = 1), ofNats u3.1⟩ := ⟨_, rfl⟩; have HE : Hid ((tN dWrite (n3 - i) (.at l')).1 = x :: (tN dWrite (n3 - (i + 1)) (.at u3.2)).1 ∧ (tN dWrite (n3 - i) (.at l')).2 = (tN dWrite (n3 - (i + 1)) (.at u3.2)).2) := hid (by
        have h1 := tN_more (t := dWrite) (m := n3 - (i + 1)) (d := .at l') (d1 := .at u3.2) (x := x) (by intro h0; exact hgo.2 (List.eq_nil_of_length_eq_zero h0)) (by rw [at_write, ← hu1, ← hu2, ← hu3, hx]); rw [← hN] at h1; rw [h1]; exact ⟨rfl, rfl⟩)
       have hy : u3.2.length < l'.length := by
        have h1 := vtext_eat hgo.2; have h2 := one_drops u1.2; have h3 := vtext_drops u2.2; rw [← hu1] at h1; rw [← hu2] at h2; rw [← hu3] at h3; omega
       have e1 : ofNats u1.1 = x.key := by rw [hx]
       have e2 : ((u2.1 : Int) == 1) = x.del := by rw [hx, Bool.eq_iff_iff]; simp; omega
       have e3 : ofNats u3.1 = x.val := by rw [hx]
       have CT1 := hid (vtext_is HQ.out.vw); rw [← hu1, e1] at CT1; have HU2 := hid hu2; have HU3 := hid hu3; have E3X := hid e3; clear hu1 hu2 hu3 hx e1 e3 hgo; go_wp2_with fail
       refine CT1.out.mono ?_; rintro e w7 ⟨rfl, hv7, ho7⟩; have HQ7 := hid (HQ.out.step hv7 ho7 (by omega) (by omega)); have HO7 := hid (own_hq HO.out ho7 (by omega)); have HOS7 := hid (own_hq HOS.out ho7 (by omega)); have CT2 := hid (vone_is HQ7.out.vw); rw [← HU2.out] at CT2; clear hv7 ho7 CT1 HQ HO HU2; go_wp2_with fail
       refine CT2.out.mono ?_; rintro e w9 ⟨rfl, hv9, ho9⟩; have HQ9 := hid (HQ7.out.step hv9 ho9 (by omega) (by omega)); have HO9 := hid (own_hq HO7.out ho9 (by omega)); have HOS9 := hid (own_hq HOS7.out ho9 (by omega)); have CT3 := hid (vtext_is HQ9.out.vw); rw [← HU3.out, E3X.out] at CT3; clear hv9 ho9 CT2 HQ7 HO7 HU3 E3X; go_wp2_with fail
       refine CT3.out.mono ?_; rintro e w8 ⟨rfl, hv8, ho8⟩; have HQ8 := hid (HQ9.out.step hv8 ho8 (by omega) (by omega)); have HO8 := hid (own_hq HO9.out ho8 (by omega)); have HOS8 := hid (own_hq HOS9.out ho8 (by omega)); clear hv8 ho8 CT3 HQ9 HO9; obtain ⟨wA, hwA⟩ : ∃ wA, wA = w8.alloc (.cells #[.string x.key, .bool x.del, .string x.val] 117) := ⟨_, rfl⟩; have kA : wA.heap[w8.heap.size]? = some (.cells #[.string x.key, .bool x.del, .string x.val] 117 (0, 0)) := by rw [hwA]; exact World.alloc_heap_new _ _
       have HCL : Hid (∀ j u, (c3 x)[j]? = some u → wA.cell? ((⟨w8.heap.size, 0, none⟩ : Addr).add j) = some u) := hid fun j u hj => by
        rw [Addr.add_lit, Nat.zero_add]; exact Vs.cob kA (by simpa using hj)
       have hbA : Below w8.heap.size w8 wA := by rw [hwA]; exact Below.al (Below.refl _ _) _
       have HQA := hid (HQ8.out.later hbA); have HOA : Hid (wA.ownsRow ((w1.heap.size + 1) + 1) 117 3 (.slice a ys.length c) ys.length (ys.flatMap c3)) := hid (by rw [hwA]; exact own_al HO8.out _); have HOSA : Hid (wA.ownsRow ((w1.heap.size + 1) + 1) 126 2 (.slice a1 x2.length ca1) x2.length (x2.flatMap c2)) := hid (by rw [hwA]; exact own_al HOS8.out _); have qlt : (w1.heap.size + 1) + 1 ≤ wA.heap.size := (Array.getElem?_eq_some_iff.1 HQA.out.box).1; have z6 : w8.cell? ⟨w1.heap.size + 1, 7, none⟩ = some (.slice a ys.length c) := by rw [Lib.cell_of_heap HQ8.out.box]; rfl
       have hyl : ys.length + 1 ≤ 1099511627776 := by have := HY.out; omega
       clear kA hbA HQ8 HO8 HOS7 HOS9 HOS8; go_wp2_with (at_builtin; refine wpList_append_own _ rfl _ _ 38 rfl ((w1.heap.size + 1) + 1) 117 i3 (.agg #[.string ⟨#[]⟩, .bool false, .string ⟨#[]⟩]) 3 40 Tryz.underlying38 hi3 hz30 hz31 hz32 rfl (by decide) (.slice a ys.length c) ys.length (ys.flatMap c3) rfl (by rw [← hwA]; exact HOA.out) ⟨w8.heap.size, 0, none⟩ 1 1 (c3 x) rfl rfl (by rw [← hwA]; exact HCL.out) (c3_one x) (by unfold maxLen; omega) (by omega) (by rw [← hwA]; exact qlt) ?_)
       intro v2 wB hown hgrow hnil; rw [← hwA] at hgrow; obtain ⟨a2, cc2, rfl⟩ := ows hown; have HQB := hid (HQA.out.grown hgrow (fun g hg => (HOA.out.lt g hg).1) hpq hqw hq0); have HOB : Hid (wB.ownsRow ((w1.heap.size + 1) + 1) 117 3 (.slice a2 (ys ++ [x]).length cc2) (ys ++ [x]).length ((ys ++ [x]).flatMap c3)) := by
        show World.ownsRow _ _ _ _ _ _ _
        rw [List.flatMap_append, List.length_append]; simpa using hown
       have HOSB : Hid (wB.ownsRow ((w1.heap.size + 1) + 1) 126 2 (.slice a1 x2.length ca1) x2.length (x2.flatMap c2)) := hid (own_other HOSA.out HOA.out (by decide) hgrow); have zB : wB.cell? ⟨w1.heap.size + 1, 7, none⟩ = some (.slice a ys.length c) := by rw [Lib.cell_of_heap HQB.out.box]; rfl
       have fB : wB.frozen? ⟨w1.heap.size + 1, 7, none⟩ = false := Lib.frozen_of_heap HQB.out.box 7; have hlen : (ys ++ [x]).length = ys.length + 1 := by simp
       have HQC : Hid (Hq w (wB.setCell ⟨w1.heap.size + 1, 7, none⟩ (.slice a2 (ys.length + 1) cc2)) p S u3.2 (w1.heap.size + 1) w.heap.size 100 #[.int .u32 x01, .int .u32 x02, .int .u32 x03, .int .u64 x1.w, .int .u32 x1.l, .int .u32 x1.n, .slice a1 x2.length ca1, .slice a2 (ys ++ [x]).length cc2] 100 #[.int .u32 0, .int .u32 0, .int .u32 0, .int .u64 0, .int .u32 0, .int .u32 0, .slice none 0 0, .slice none 0 0]) := hid (by rw [hlen]; exact HQB.out.put (by omega) (by omega) hq0 7 _); have HOC := hid (own_set (j := 7) (u := .slice a2 (ys.length + 1) cc2) HOB.out (q := (w1.heap.size + 1)) (by omega)); have HOSC := hid (own_set (j := 7) (u := .slice a2 (ys.length + 1) cc2) HOSB.out (q := (w1.heap.size + 1)) (by omega))
       have HTC : Hid ((x3, Ds.at r) = ((ys ++ [x]) ++ (tN dWrite (n3 - (i + 1)) (.at u3.2)).1, (tN dWrite (n3 - (i + 1)) (.at u3.2)).2)) := hid (by rw [HT.out, HE.out.1, HE.out.2]; simp); have kw : IntKind.u64.wrap ((i : Int) + 1) = ((i + 1 : Nat) : Int) := by have := HG.out.1; rw [IntKind.wrap_u64]; omega
       clear hown hgrow hnil hwA HQA HOA HCL HQB HOB HE HT HOSA HOSB; go_wp2_with fail
       go_roundg (n3 - (i + 1))
       case measure => have := HG.out.1; omega
       case rel => exact ⟨i + 1, ys ++ [x], u3.2, a2, cc2, by have := HG.out.1; omega, rfl, rfl, HQC, HOC, HTC, hid (by rw [hlen]; have := HY.out; omega), HOSC⟩
      | false =>
       have hgo : ¬ (i < n3 ∧ l' ≠ []) := of_decide_eq_false HU.out.symm; clear HU; have HF : Hid (x3 = ys ∧ r = l') := hid (by
        have h1 := HT.out; have h2 : tN dWrite (n3 - i) (.at l') = ([], .at l') := by
         by_cases h0 : l' = []
         ·exact tN_zero _ _ (by rw [h0]; rfl)
         ·have : n3 - i = 0 := by
           have : ¬ i < n3 := fun h => hgo ⟨h, h0⟩
           omega
          rw [this]; rfl
        rw [h2] at h1; simpa using h1)
       clear hgo HT HY; obtain ⟨rfl, rfl⟩ := HF.out; clear HF; have KR := hid HQ.out.res; have KQ := hid HQ.out.box; have RZ : Hid ((wc.setRow w.heap.size #[.int .u32 x01, .int .u32 x02, .int .u32 x03, .int .u64 x1.w, .int .u32 x1.l, .int .u32 x1.n, .slice a1 x2.length ca1, .slice a x3.length c]).heap[w.heap.size]? = some (.cells #[.int .u32 x01, .int .u32 x02, .int .u32 x03, .int .u64 x1.w, .int .u32 x1.l, .int .u32 x1.n, .slice a1 x2.length ca1, .slice a x3.length c] 100 (0, 0))) := hid (setRow_heap _ _ _ _ _ _ KR.out); have HVZ := hid (vw_row (cs := #[.int .u32 x01, .int .u32 x02, .int .u32 x03, .int .u64 x1.w, .int .u32 x1.l, .int .u32 x1.n, .slice a1 x2.length ca1, .slice a x3.length c]) HQ.out.vw (show p ≠ w.heap.size by omega))
       have HOZ := hid (onl_row (cs := #[.int .u32 x01, .int .u32 x02, .int .u32 x03, .int .u64 x1.w, .int .u32 x1.l, .int .u32 x1.n, .slice a1 x2.length ca1, .slice a x3.length c]) HQ.out.onl (Nat.le_refl w.heap.size)); have HRZ : Hid (Lk.Hv.fresh w.heap.size (wc.setRow w.heap.size #[.int .u32 x01, .int .u32 x02, .int .u32 x03, .int .u64 x1.w, .int .u32 x1.l, .int .u32 x1.n, .slice a1 x2.length ca1, .slice a x3.length c]) ⟨⟨(x01, x02), x03, x1.w, x1.l, x1.n, x2, x3⟩, a1, ca1, a, c⟩) := hid ⟨Lk.owb (own_rowI HOS.out (by omega)) (by omega), Lk.owb (own_rowI HO.out (by omega)) (by omega)⟩; clear HQ HOS HO
       go_wp2_with (first | (refine Gt.wpList_load_at (by rfl) 100 _ (by rfl) ⟨w1.heap.size + 1, 0, none⟩ (by rfl) [.int .u32 x01, .int .u32 x02, .int .u32 x03, .int .u64 x1.w, .int .u32 x1.l, .int .u32 x1.n, .slice a1 x2.length ca1, .slice a x3.length c] _ (cells_atI KQ.out) Tryz.underlying100 (by rfl) infoHd8 ?_) | (refine wpList_store_row (by rfl) 100 _ _ (by rfl) w.heap.size #[.int .u32 x01, .int .u32 x02, .int .u32 x03, .int .u64 x1.w, .int .u32 x1.l, .int .u32 x1.n, .slice a1 x2.length ca1, .slice a x3.length c] (by rfl) (by rfl) _ _ KR.out infoHd8 rfl (one8I _ _ _ _ _ _ _ _ _ _ _ _) ?_) | fail)
       have LZ := hid (Gt.run_loadVar_at (P := Tryz.prog) _ ⟨w.heap.size, 0, none⟩ 100 [.int .u32 x01, .int .u32 x02, .int .u32 x03, .int .u64 x1.w, .int .u32 x1.l, .int .u32 x1.n, .slice a1 x2.length ca1, .slice a x3.length c] _ (cells_atI RZ.out) Tryz.underlying100 (by rfl) infoHd8); refine bodyPost_ret (v := .agg #[.int .u32 x01, .int .u32 x02, .int .u32 x03, .int .u64 x1.w, .int .u32 x1.l, .int .u32 x1.n, .slice a1 x2.length ca1, .slice a x3.length c]) (results_cell Tryz.results99 rfl LZ.out) rfl ⟨⟨⟨(x01, x02), x03, x1.w, x1.l, x1.n, x2, x3⟩, a1, ca1, a, c⟩, rfl, hid HX.out.symm, HRZ, HVZ.out, HOZ.out⟩
structure Hr (w0 w : World) (p : Nat) (S l : List Nat) (q : Nat) (T : TypeId) (cs : Array Value) : Prop where
 vw : Vw w p S l
 box : w.heap[q]? = some (.cells cs T (0, 0))
 bel : Below w0.heap.size w0 w
section
variable {w0 w w' : World} {p q : Nat} {S l l' : List Nat} {T : TypeId} {cs : Array Value}
theorem Hr.drew (h : Hr w0 w p S l q T cs) : Hr w0 w.drew p S l q T cs := ⟨h.vw.drew, h.box, h.bel.drew⟩
theorem Hr.step (h : Hr w0 w p S l q T cs) (hv : Vw w' p S l') (ho : Onl (fun k => k = p) w w') (h1 : q ≠ p) (hp : w0.heap.size ≤ p) : Hr w0 w' p S l' q T cs :=
 ⟨hv, blk_onl ho h1 h.box, h.bel.trans (ho.below (fun k hk => by omega) h.bel.size)⟩
theorem Hr.later (h : Hr w0 w p S l q T cs) (hb : Below w.heap.size w w') : Hr w0 w' p S l q T cs :=
 ⟨h.vw.later hb, blk_onl (Onl.of_below (F := fun _ => False) hb) (fun e => e) h.box, Below.on h.bel hb⟩
theorem Hr.put (h : Hr w0 w p S l q T cs) (h1 : q ≠ p) (hq : w0.heap.size ≤ q) (i : Nat) (v : Value) : Hr w0 (w.setCell ⟨q, i, none⟩ v) p S l q T (cs.setIfInBounds i v) :=
 ⟨h.vw.set h1 _ _, heap_setCell_same _ _ _ _ _ _ h.box, h.bel.setCell hq _⟩
theorem Hr.grown {ob : Option Nat} (h : Hr w0 w p S l q T cs) (hg : w.grownBy w' ob) (ho : ∀ g, ob = some g → q + 1 ≤ g) (hp : p < q) (hw : w0.heap.size ≤ q) : Hr w0 w' p S l q T cs := by
 have hb : ∀ k, k ≤ q → k < w.heap.size → w'.heap[k]? = w.heap[k]? := fun k hk hs => hg.block k hs (fun e => by have := ho k e.symm; omega)
 have hql := (Array.getElem?_eq_some_iff.1 h.box).1; obtain ⟨a, h0, h1, h2⟩ := h.vw.box; exact ⟨⟨⟨a, by rw [hb p (by omega) (by omega)]; exact h0, h1, h2⟩, h.vw.b8, h.vw.len⟩, by rw [hb q (by omega) hql]; exact h.box,
  h.bel.grown hg h.bel.size (fun k hk => by have := ho k hk; omega)⟩
end
theorem fresh_onl {w w' : World} {p B : Nat} {v : Lk.Hv} (h : v.fresh B w) (ho : Onl (fun k => k = p) w w') (hB : p < B) : v.fresh B w' := ⟨own_hq h.r ho hB, own_hq h.w ho hB⟩
theorem fresh_set {w : World} {q j B : Nat} {u : Value} {v : Lk.Hv} (h : v.fresh B w) (hq : q < B) : v.fresh B (w.setCell ⟨q, j, none⟩ u) := ⟨own_set h.r hq, own_set h.w hq⟩
theorem fresh_other {w w' : World} {b2 n2 s2 B : Nat} {e2 : TypeId} {v2 : Value} {ys : List Value} {v : Lk.Hv} (h : v.fresh B w) (h2 : w.ownsRow b2 e2 s2 v2 n2 ys) (h3 : 126 ≠ e2) (h4 : 117 ≠ e2) (hg : w.grownBy w' v2.ownBlock) : v.fresh B w' := ⟨own_other h.r h2 h3 hg, own_other h.w h2 h4 hg⟩
theorem at_txn (l : List Nat) : ∃ x r, dTxn (.at l) = (x, .at r) := ⟨_, _, rfl⟩
theorem vtxn_eat {l r : List Nat} {x : Lk.Ix × Int} (h : dTxn (.at l) = (x, .at r)) (hl : l ≠ []) : r.length < l.length := by
 have e : (dTxn (.at l)).2 = .at (vNum (vNum (vNum l).2).2).2 := rfl; rw [h] at e; simp only [Ds.at.injEq] at e; have h1 := num_eat hl; have h2 : (vNum (vNum l).2).2.length ≤ (vNum l).2.length := numK_drops _ _ _ _; have h3 : (vNum (vNum (vNum l).2).2).2.length ≤ (vNum (vNum l).2).2.length := numK_drops _ _ _ _; rw [e]; omega
theorem num_b8 {l : List Nat} (h : B8 l) : B8 (vNum l).2 := by
 unfold vNum; suffices H : ∀ (k n s : Nat) (l : List Nat), B8 l → B8 (vNumK k n s l).2 from H _ _ _ _ h
 intro k; induction k with
 | zero => intro n s l h; exact h
 | succ k ih =>
  intro n s l h; have h1 : B8 (vOne l).2 := by
   cases l with
   | nil => exact h
   | cons b l => exact fun x hx => h x (List.mem_cons_of_mem _ hx)
  rw [vNumK]; split
  ·exact h1
  ·exact ih _ _ _ h1
theorem at_b8 {w : World} {p : Nat} {S l r : List Nat} {x : Lk.Ix × Int} (h : Vw w p S l) (hv : dTxn (.at l) = (x, .at r)) : B8 r := by
 have e : (dTxn (.at l)).2 = .at (vNum (vNum (vNum l).2).2).2 := rfl; rw [hv] at e; simp only [Ds.at.injEq] at e; rw [e]; exact num_b8 (num_b8 (num_b8 h.bl.1))
theorem stamp_drops (l : List Nat) : (vStamp l).2.length ≤ l.length := by
 unfold vStamp; simp only [List.length_drop]; omega
theorem tN_drops {α : Type} {t : Ds → α × Ds} (h : ∀ l, ∃ x r, t (.at l) = (x, .at r) ∧ r.length ≤ l.length) : ∀ (n : Nat) (l : List Nat), ∃ xs r, tN t n (.at l) = (xs, .at r) ∧ r.length ≤ l.length
 | 0, l => ⟨[], l, rfl, Nat.le_refl _⟩
 | n + 1, l => by
  rw [tN]; split
  ·exact ⟨[], l, rfl, Nat.le_refl _⟩
  ·obtain ⟨x, r, hx, h1⟩ := h l; obtain ⟨xs, r', hxs, h2⟩ := tN_drops h n r; exact ⟨x :: xs, r', by rw [hx]; simp only; rw [hxs], by omega⟩
theorem span_drops (l : List Nat) : ∃ x r, dSpan (.at l) = (x, .at r) ∧ r.length ≤ l.length := ⟨_, _, at_span l, Nat.le_trans (vtext_drops _) (vtext_drops _)⟩
theorem write_drops (l : List Nat) : ∃ x r, dWrite (.at l) = (x, .at r) ∧ r.length ≤ l.length := ⟨_, _, at_write l, Nat.le_trans (vtext_drops _) (Nat.le_trans (one_drops _) (vtext_drops _))⟩
theorem dL_drops {α : Type} {t : Ds → α × Ds} (h : ∀ l, ∃ x r, t (.at l) = (x, .at r) ∧ r.length ≤ l.length) (l : List Nat) : ∃ xs r, dL t (.at l) = (xs, .at r) ∧ r.length ≤ l.length := by
 obtain ⟨xs, r, h1, h2⟩ := tN_drops h (vNum l).1 (vNum l).2; have h3 : (vNum l).2.length ≤ l.length := numK_drops _ _ _ _; exact ⟨xs, r, h1, by omega⟩
theorem held_takes (l : List Nat) : ∃ x r, dHeld (.at l) = (x, .at r) ∧ (l ≠ [] → r.length < l.length) := by
 obtain ⟨x0, l0, e0⟩ := at_txn l; have e1 : dS (.at l0) = (⟨(vStamp l0).1.w, (vStamp l0).1.l, (vStamp l0).1.n⟩, .at (vStamp l0).2) := rfl; obtain ⟨x2, l2, e2, h2⟩ := dL_drops span_drops (vStamp l0).2; obtain ⟨x3, l3, e3, h3⟩ := dL_drops write_drops l2; refine ⟨⟨x0.1, x0.2, (vStamp l0).1.w, (vStamp l0).1.l, (vStamp l0).1.n, x2, x3⟩, l3, by simp only [dHeld, tP, tM, e0, e1, e2, e3], fun hl => ?_⟩; have h4 := vtxn_eat e0 hl; have h5 := stamp_drops l0; omega
theorem entry_takes {l l0 : List Nat} {x0 : Lk.Ix × Int} (e0 : dTxn (.at l) = (x0, .at l0)) : dEntry (.at l) = (⟨x0.1, x0.2, ((vOne l0).1 : Int), (vStamp (vOne l0).2).1.w, (vStamp (vOne l0).2).1.l, (vStamp (vOne l0).2).1.n⟩, .at (vStamp (vOne l0).2).2) := by
 have e1 : dB (.at l0) = (((vOne l0).1 : Int), .at (vOne l0).2) := rfl; have e2 : dS (.at (vOne l0).2) = (⟨(vStamp (vOne l0).2).1.w, (vStamp (vOne l0).2).1.l, (vStamp (vOne l0).2).1.n⟩, .at (vStamp (vOne l0).2).2) := rfl; simp only [dEntry, tP, tM, e0, e1, e2]
theorem version_takes (l : List Nat) : dVersion (.at l) = ((ofNats (vText l).1, ⟨⟨(vStamp (vText l).2).1.w, (vStamp (vText l).2).1.l, (vStamp (vText l).2).1.n⟩, decide ((vOne (vStamp (vText l).2).2).1 = 1), ofNats (vText (vOne (vStamp (vText l).2).2).2).1⟩), .at (vText (vOne (vStamp (vText l).2).2).2).2) := rfl
theorem step_append_runR {P : Program} {ops : Array Oper} {o : Oper} {a : Act} {w : World} {K : Act → World → Prop} {Q : Exit → Act → World → Prop} {E : Prop}
  (hg : o.guard = none) (s x : Operand) (dT sT : TypeId) (hop : o.op = Op.call { callee := Callee.builtin Builtin.append, args := #[s, x], argTypes := #[dT, sT] })
  (v u : Value) (hd : a.eval s = v) (hx : a.eval x = u) {v' : Value} {w' : World} (hr : (Builtin.append_ #[dT, sT] o.type #[v, u]).run P w = .ok v' w') (hK : K (a.put o.dst v') w') :
  if Region.wanted o (yielded ops a.tmps) = true then Oper.wp P o a w K Q else E := by
 have hw : Region.wanted o (yielded ops a.tmps) = true := by simp [Region.wanted, hg]
 rw [if_pos hw]; unfold Oper.wp; simp [execOp, hop, resolve, invoke, builtin, hd, hx, hr, Result.andThen]; exact hK
structure Dst (w : World) (B q : Nat) (n top : Int) (wm : Vs.Sp) (U : List Lk.Hv) (E : List Lg.En) (V : List Vs.Kv) : Prop where
 box : ∃ (aH aE aV : Option Addr) (cH cE cV : Nat), w.heap[q]? = some (.cells #[.int .u32 n, .int .u64 top, .int .u64 wm.a, .int .u32 wm.b, .int .u32 wm.c, .slice aH U.length cH, .slice aE E.length cE, .slice aV V.length cV] 112 (0, 0)) ∧
  Lk.OwnH B w (.slice aH U.length cH) U.length U ∧ w.ownsRow B 104 7 (.slice aE E.length cE) E.length (E.flatMap Lg.ecs) ∧ w.ownsRow B 108 6 (.slice aV V.length cV) V.length (V.flatMap c6)
 fr : ∀ u ∈ U, u.fresh B w
 lo : q < B
end Go.Proofs.YtofpaldolcnmiaaGreat.Ig
