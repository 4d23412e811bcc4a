import Derived.Test.YthenfioddnkjbaaGreatDoorRzTx0
/- texts: a configuration is read. -/
namespace Go.Proofs.YthenfioddnkjbaaGreatDoor.Bg
open Go.RowKit Go.Sort Go.Stop Go.Proofs.YthenfioddnkjbaaGreatDoor Go.Proofs.YthenfioddnkjbaaGreatDoor.Rt
set_option linter.unusedVariables false

theorem RowF.low {α : Type} {E : El α} {w : World} {B B' : Nat} {v : Value} {xs : List α} (h : RowF E w B v xs) (hB : B' ≤ B) : RowF E w B' v xs := by
  rcases h with h | ⟨g, off, c, e, hg, hr⟩
  · exact .inl h
  · exact .inr ⟨g, off, c, e, Nat.le_trans hB hg, hr⟩
set_option maxRecDepth 16000 in
set_option maxHeartbeats 8000000 in
theorem texts_parse {W w : World} {x : Sx} {c : Nat → Nat} {b m : Nat} {y : B4v} {ea eb ex ey : Addr} (hG : Gx W ea eb ex ey) (hx : x.Ok W) (h : B4 W w c b y m) (hk : x.kd = 1) (hm : m + 2 ≤ 1073741824) :
    Calls Tryz.prog 6 #[.agg x.cells, .pointer (some ⟨b, 0, none⟩)] w (After W b (m + 2)) := by
  have hGw := hG.later h.bl
  obtain ⟨kd, t, ⟨sh, cl, a, cp, ss, ca, pk, wi⟩, ⟨lo, hi⟩, ra, rc, rs, wa, wc, ws⟩ := x
  have hk : kd = 1 := hk
  subst hk
  obtain ⟨⟨csh, ccl, ca0, cp0, css, cca, cpk, cwi⟩, E, hcl, P1, P2⟩ := parse_both t hx.tz
  have hcl : css.length ≤ 1000 := hcl
  have HLC : Hid (css.length ≤ 1073741824) := hid (by omega)
  obtain ⟨wA, hwA⟩ : ∃ wA, wA = w.alloc (.cells #[.int .i64 1, .string t, .int .i64 sh, .int .i64 cl, .slice a ss.length cp, .int .i64 ca, .int .i64 pk, .int .u64 wi, .string lo, .string hi, .slice ra rs.length rc, .slice wa ws.length wc] 53) := ⟨_, rfl⟩
  have hbA : Below w.heap.size w wA := by rw [hwA]; (repeat (first | with_reducible exact Below.refl _ _ | with_reducible assumption | with_reducible refine Below.drew ?_ | with_reducible refine Below.al ?_ _ | with_reducible refine Below.setCell ?_ (by first | exact Nat.le_refl _ | (simp; omega) | (simp; done)) _ | with_reducible refine Below.on ?_ (by assumption)))
  have s1 : wA.cell? ⟨w.heap.size, 1, none⟩ = some (.string t) := by rw [hwA]; simp [go_sem]
  have P1A := hid (P1 wA (hGw.later hbA))
  have HP1 : Hid (∀ z, Below w.heap.size w z → Calls Tryz.prog 4 #[.string t] z (PA ⟨csh, ccl, ca0, cp0, css, cca, cpk, cwi⟩ E z)) := hid (fun z hb => P1 z (hGw.later hb))
  have HP2 := hid P2
  have HB := hid h; have HBA := hid hbA; have HS1 := hid s1
  clear hx h hG hGw hbA P1 P2 s1
  go_enter Tryz.func6, Tryz.ntmps6
  go_wp2_with fail
  rw [← hwA]
  clear hwA
  refine P1A.out.mono ?_
  rintro e w1 ⟨a1, k1, rfl, HR1, hb1⟩
  obtain ⟨wB, hwB⟩ : ∃ wB, wB = w1.alloc (.cells #[.int .i64 csh, .int .i64 ccl, .slice a1 css.length k1, .int .i64 cca, .int .i64 cpk, .int .u64 cwi] 26) := ⟨_, rfl⟩
  have hbB : Below w1.heap.size w1 wB := by rw [hwB]; (repeat (first | with_reducible exact Below.refl _ _ | with_reducible assumption | with_reducible refine Below.drew ?_ | with_reducible refine Below.al ?_ _ | with_reducible refine Below.setCell ?_ (by first | exact Nat.le_refl _ | (simp; omega) | (simp; done)) _ | with_reducible refine Below.on ?_ (by assumption)))
  have HC1 : Hid (BoxC wB w1.heap.size ⟨csh, ccl, a1, k1, css, cca, cpk, cwi⟩) := hid (by rw [hwB]; exact BoxC.new w1 ⟨csh, ccl, a1, k1, css, cca, cpk, cwi⟩ _)
  have HS2 := hid (cell_later hbB (cell_later hb1 HS1.out))
  have s2 := HS2.out
  rw [hwB] at s2
  have HB1 := hid hb1; have HBB := hid hbB
  have P2B := hid (HP2.out wB)
  clear hb1 hbB P1A
  go_wp2_with fail
  rw [← hwB]
  clear hwB s2
  refine P2B.out.mono ?_
  rintro e w2 ⟨a2, k2, rfl, HR2, hb2⟩
  obtain ⟨wC, hwC⟩ : ∃ wC, wC = w2.alloc (.cells #[.int .i64 csh, .int .i64 ccl, .slice a2 css.length k2, .int .i64 cca, .int .i64 cpk, .int .u64 cwi] 26) := ⟨_, rfl⟩
  have hbC : Below w2.heap.size w2 wC := by rw [hwC]; (repeat (first | with_reducible exact Below.refl _ _ | with_reducible assumption | with_reducible refine Below.drew ?_ | with_reducible refine Below.al ?_ _ | with_reducible refine Below.setCell ?_ (by first | exact Nat.le_refl _ | (simp; omega) | (simp; done)) _ | with_reducible refine Below.on ?_ (by assumption)))
  have HD2 : Hid (BoxC wC w2.heap.size ⟨csh, ccl, a2, k2, css, cca, cpk, cwi⟩) := hid (by rw [hwC]; exact BoxC.new w2 ⟨csh, ccl, a2, k2, css, cca, cpk, cwi⟩ _)
  have HBC : Hid (Below wB.heap.size wB wC) := hid (Below.on hb2 hbC)
  have H1C : Hid (Below w1.heap.size w1 wC) := hid (Below.on HBB.out HBC.out)
  have HR2C := hid (HR2.out.later hbC)
  have HS3 := hid (cell_later HBC.out HS2.out)
  have HRS1 : Hid (RowS wC a1 css) := hid (rowT_of ((HR1.out.rd.later H1C.out)))
  have SC : Hid (Calls Tryz.prog 15 #[.agg #[.int .i64 csh, .int .i64 ccl, .slice a1 css.length k1, .int .i64 cca, .int .i64 cpk, .int .u64 cwi], .agg #[.int .i64 csh, .int .i64 ccl, .slice a2 css.length k2, .int .i64 cca, .int .i64 cpk, .int .u64 cwi]] wC fun e w' => e = .returned (.bool true) ∧ Below wC.heap.size wC w') := hid (sameC_is (c := ⟨csh, ccl, a2, k2, css, cca, cpk, cwi⟩) HR2C.out HRS1.out (by show css.length ≤ _; exact HLC.out))
  obtain ⟨c0, c1, c2, c3, c4, c5⟩ := HC1.out.later HBC.out
  simp only at c0 c1 c2 c3 c4 c5
  rw [hwC] at c0 c1 c2 c3 c4 c5
  clear hb2 hbC P2B
  go_wp2_with fail
  rw [← hwC]
  clear hwC c0 c1 c2 c3 c4 c5
  refine SC.out.mono ?_
  rintro e w3 ⟨rfl, hb3⟩
  have s3 := cell_later hb3 HS3.out
  have HW3 : Hid (Below w.heap.size w w3) := hid (Below.on (Below.on (Below.on HBA.out HB1.out) H1C.out) hb3)
  have P13 := hid (HP1.out w3 HW3.out)
  have HB3 := hid hb3
  clear hb3 SC
  go_wp2_with fail
  refine P13.out.mono ?_
  rintro e w4 ⟨a3, k3, rfl, HR3, hb4⟩
  obtain ⟨wD, hwD⟩ : ∃ wD, wD = w4.alloc (.cells #[.int .i64 csh, .int .i64 ccl, .slice a3 css.length k3, .int .i64 cca, .int .i64 cpk, .int .u64 cwi] 26) := ⟨_, rfl⟩
  have hbD : Below w4.heap.size w4 wD := by rw [hwD]; (repeat (first | with_reducible exact Below.refl _ _ | with_reducible assumption | with_reducible refine Below.drew ?_ | with_reducible refine Below.al ?_ _ | with_reducible refine Below.setCell ?_ (by first | exact Nat.le_refl _ | (simp; omega) | (simp; done)) _ | with_reducible refine Below.on ?_ (by assumption)))
  have HA4 : Hid (BoxC wD w4.heap.size ⟨csh, ccl, a3, k3, css, cca, cpk, cwi⟩) := hid (by rw [hwD]; exact BoxC.new w4 ⟨csh, ccl, a3, k3, css, cca, cpk, cwi⟩ _)
  have H3D : Hid (Below w3.heap.size w3 wD) := hid (Below.on hb4 hbD)
  have HCD : Hid (Below wC.heap.size wC wD) := hid (Below.on HB3.out H3D.out)
  have SD : Hid (Calls Tryz.prog 15 #[.agg #[.int .i64 csh, .int .i64 ccl, .slice a3 css.length k3, .int .i64 cca, .int .i64 cpk, .int .u64 cwi], .agg #[.int .i64 csh, .int .i64 ccl, .slice a2 css.length k2, .int .i64 cca, .int .i64 cpk, .int .u64 cwi]] wD fun e w' => e = .returned (.bool true) ∧ Below wD.heap.size wD w') := hid (sameC_is (c := ⟨csh, ccl, a2, k2, css, cca, cpk, cwi⟩) (HR2C.out.later HCD.out) (rowT_of (HR3.out.rd.later hbD)) (by show css.length ≤ _; exact HLC.out))
  obtain ⟨d0, d1, d2, d3, d4, d5⟩ := HD2.out.later HCD.out
  simp only at d0 d1 d2 d3 d4 d5
  rw [hwD] at d0 d1 d2 d3 d4 d5
  have HB4 := hid hb4; have HBD := hid hbD
  clear hb4 hbD P13 s3
  go_wp2_with fail
  rw [← hwD]
  clear hwD d0 d1 d2 d3 d4 d5
  refine SD.out.mono ?_
  rintro e w5 ⟨rfl, hb5⟩
  have H15 : Hid (Below w1.heap.size w1 w5.drew) := hid (Below.drew (Below.on (Below.on H1C.out HCD.out) hb5))
  have H45 : Hid (Below w4.heap.size w4 w5.drew) := hid (Below.drew (Below.on HBD.out hb5))
  have HW5 : Hid (Below w.heap.size w w5.drew) := hid (Below.on (Below.on HBA.out HB1.out) H15.out)
  have z1 := H15.out.size
  have hr1 := HR1.out.later H15.out
  have hr3 := HR3.out.later H45.out
  have hz13 : w1.heap.size ≤ w3.heap.size := Nat.le_trans H1C.out.size HB3.out.size
  have hz34 : w3.heap.size ≤ w4.heap.size := HB4.out.size
  have hzw : w.heap.size ≤ wA.heap.size := HBA.out.size
  have hzA1 : wA.heap.size ≤ w1.heap.size := HB1.out.size
  obtain ⟨c9, hc9⟩ : ∃ c9, c9 = hand w.heap.size c (.slice a1 css.length k1) (.slice a3 css.length k3) := ⟨_, rfl⟩
  have hB9 : B4 W w5.drew c9 b y m := HB.out.later HW5.out (fun k hk => by rw [hc9]; exact hand_old hk)
  have hl1 : ∀ g, (Value.slice a1 css.length k1).ownBlock = some g → wA.heap.size ≤ g ∧ g < w1.heap.size := fun g hg => HR1.out.lt g hg
  have hl3 : ∀ g, (Value.slice a3 css.length k3).ownBlock = some g → w3.heap.size ≤ g ∧ g < w4.heap.size := fun g hg => HR3.out.lt g hg
  have hw1 : RwC elT w5.drew W.heap.size c9 32 (.slice a1 css.length k1) css := ⟨hr1.low (Nat.le_trans HB.out.bl.size hzw), fun g hg => by
    have := hl1 g hg
    rw [hc9]; unfold hand; rw [if_neg (by omega), if_pos hg]⟩
  have hw3 : RwC elT w5.drew W.heap.size c9 36 (.slice a3 css.length k3) css := ⟨hr3.low (Nat.le_trans HB.out.bl.size HW3.out.size), fun g hg => by
    have h3 := hl3 g hg
    rw [hc9]; unfold hand; rw [if_neg (by omega), if_neg (fun h => by have h1 := hl1 g h; omega), if_pos hg]⟩
  have hcb1 : c9 w1.heap.size = 0 := by rw [hc9]; exact hand_box (by omega) (fun h => by have h1 := hl1 _ h; omega) (fun h => by have h1 := hl3 _ h; have h2 := HBC.out.size; have h3 : w1.heap.size < wB.heap.size := World.block_lt_of_cell? _ _ HC1.out.c0; have h4 := HB3.out.size; omega)
  have hcb4 : c9 w4.heap.size = 0 := by rw [hc9]; exact hand_box (by omega) (fun h => by have h1 := hl1 _ h; omega) (fun h => by have h1 := hl3 _ h; omega)
  have K1 := hid (hB9.keepT hw1 (by decide) (by omega) HLC.out)
  have HW3R := hid hw3; have HCB1 := hid hcb1; have HCB4 := hid hcb4
  have y1 : w5.drew.cell? ⟨w1.heap.size, 2, none⟩ = some (.slice a1 css.length k1) := cell_later (Below.on HBC.out (Below.on HCD.out (Below.drew hb5))) HC1.out.c2
  have Y4 : Hid (w5.drew.cell? ⟨w4.heap.size, 2, none⟩ = some (.slice a3 css.length k3)) := hid (cell_later (Below.drew hb5) HA4.out.c2)
  have HL4 : Hid (w4.heap.size < w5.drew.heap.size) := hid (World.block_lt_of_cell? _ _ Y4.out)
  clear hb5 hr1 hr3 hl1 hl3 hw1 hw3 hcb1 hcb4 hc9 hB9 z1 hz13 hz34 hzw hzA1
  go_upto_region 10 with fail
  go_region_held3 (fun z => z.cell? ⟨w1.heap.size, 2, none⟩ = some (.slice a1 css.length k1))
    ((first | exact y1 | exact y6))
    ((go_at_call 16; refine K1.out.mono ?_; rintro e w6 ⟨rfl, HK⟩; have y6 : w6.cell? ⟨w1.heap.size, 2, none⟩ = some (.slice a1 css.length k1) := (by obtain ⟨c6, x6, hb6, hk6⟩ := HK.out; exact hk6.cell (by rw [HCB1.out]; decide) y1)))
  have HST : Hid (∃ c6 x6, B4 W w6.drew c6 b x6 (m + 1) ∧ RwC elT w6.drew W.heap.size c6 36 (.slice a3 css.length k3) css ∧ c6 w4.heap.size = 0 ∧ w6.drew.cell? ⟨w4.heap.size, 2, none⟩ = some (.slice a3 css.length k3)) := hid (by
    obtain ⟨c6, x6, hb6, hk6⟩ := HK.out
    have hd : Below w6.heap.size w6 w6.drew := Below.drew (Below.refl _ _)
    have hr := hk6.row HW3R.out (by decide) (by decide)
    exact ⟨c6, x6, hb6.later hd (fun _ _ => rfl), hr.onl (S := fun _ => False) (Onl.of_below hd) (fun h => h) (fun _ _ e => e), by rw [hk6.col _ HL4.out (by rw [HCB4.out]; decide)]; exact HCB4.out, cell_later hd (hk6.cell (by rw [HCB4.out]; decide) Y4.out)⟩)
  obtain ⟨c6, x6, hb6, hr6, hz6, y4⟩ := HST.out
  have K2 := hid (hb6.keepT hr6 (by decide) (by omega) HLC.out)
  have HZ6 := hid hz6
  clear hb6 hr6 hz6 y1 y6 K1
  go_upto_region 11 with fail
  go_region_held3 (fun z => z.cell? ⟨w4.heap.size, 2, none⟩ = some (.slice a3 css.length k3))
    ((first | exact y4 | exact y7))
    ((go_at_call 16; refine K2.out.mono ?_; rintro e w7 ⟨rfl, HK7⟩; have y7 : w7.cell? ⟨w4.heap.size, 2, none⟩ = some (.slice a3 css.length k3) := (by obtain ⟨c7, x7, hb7, hk7⟩ := HK7.out; exact hk7.cell (by rw [HZ6.out]; decide) y4)))
  have HE : Hid (∃ c' x', B4 W w7 c' b x' (m + 2)) := hid (by
    obtain ⟨c7, x7, hb7, hk7⟩ := HK7.out
    exact ⟨c7, x7, hb7⟩)
  clear y4 y7
  go_wp2_with fail
  go_ret
  exact ⟨rfl, HE⟩
end Go.Proofs.YthenfioddnkjbaaGreatDoor.Bg
/- texts: one kind of call. -/
namespace Go.Proofs.YthenfioddnkjbaaGreatDoor.Bg
open Go.RowKit Go.Sort Go.Stop Go.Proofs.YthenfioddnkjbaaGreatDoor Go.Proofs.YthenfioddnkjbaaGreatDoor.Rt
set_option linter.unusedVariables false

set_option maxRecDepth 16000 in
set_option maxHeartbeats 8000000 in
theorem texts_text {W w : World} {x : Sx} {c : Nat → Nat} {b m : Nat} {y : B4v} (hP : PowTab W) (hx : x.Ok W) (h : B4 W w c b y m) (hk : x.kd = 2) :
    Calls Tryz.prog 6 #[.agg x.cells, .pointer (some ⟨b, 0, none⟩)] w (After W b (m + 2)) := by
  have hxw := hx.later h.bl
  have hPw := hP.later h.bl
  obtain ⟨kd, t, ⟨sh, cl, a, cp, ss, ca, pk, wi⟩, ⟨lo, hi⟩, ra, rc, rs, wa, wc, ws⟩ := x
  have hk : kd = 2 := hk
  subst hk
  have hsl : ss.length ≤ 1048576 := hx.cl
  obtain ⟨wA, hwA⟩ : ∃ wA, wA = w.alloc (.cells #[.int .i64 2, .string t, .int .i64 sh, .int .i64 cl, .slice a ss.length cp, .int .i64 ca, .int .i64 pk, .int .u64 wi, .string lo, .string hi, .slice ra rs.length rc, .slice wa ws.length wc] 53) := ⟨_, rfl⟩
  have hbA : Below w.heap.size w wA := by rw [hwA]; (repeat (first | with_reducible exact Below.refl _ _ | with_reducible assumption | with_reducible refine Below.drew ?_ | with_reducible refine Below.al ?_ _ | with_reducible refine Below.setCell ?_ (by first | exact Nat.le_refl _ | (simp; omega) | (simp; done)) _ | with_reducible refine Below.on ?_ (by assumption)))
  have HS0 : BoxX wA w.heap.size ⟨2, t, ⟨sh, cl, a, cp, ss, ca, pk, wi⟩, ⟨lo, hi⟩, ra, rc, rs, wa, wc, ws⟩ := by rw [hwA]; exact BoxX.new w ⟨2, t, ⟨sh, cl, a, cp, ss, ca, pk, wi⟩, ⟨lo, hi⟩, ra, rc, rs, wa, wc, ws⟩ _
  have TW := hid (twinX_is (hxw.c.later hbA) (show ss.length ≤ 8796093022208 by omega) (hPw.later hbA))
  obtain ⟨tx, er, hsd⟩ := said_two ⟨sh, cl, a, cp, ss, ca, pk, wi⟩
  have HX := hid hxw; have HP := hid hPw; have HB := hid h; have HBA := hid hbA; have HS0 := hid HS0; have HSD := hid hsd
  clear hx h hP hxw hPw hbA hsd
  go_enter Tryz.func6, Tryz.ntmps6
  go_wp2_with fail
  rw [← hwA]
  clear hwA
  refine TW.out.mono ?_
  rintro e w1 ⟨g, rfl, hrm, hg, hb1⟩
  obtain ⟨wB, hwB⟩ : ∃ wB, wB = w1.alloc (.cells #[.int .i64 sh, .int .i64 cl, .slice (some ⟨g, 0, none⟩) ss.length (ss.length + 2), .int .i64 ca, .int .i64 pk, .int .u64 wi] 26) := ⟨_, rfl⟩
  have hbB : Below w1.heap.size w1 wB := by rw [hwB]; (repeat (first | with_reducible exact Below.refl _ _ | with_reducible assumption | with_reducible refine Below.drew ?_ | with_reducible refine Below.al ?_ _ | with_reducible refine Below.setCell ?_ (by first | exact Nat.le_refl _ | (simp; omega) | (simp; done)) _ | with_reducible refine Below.on ?_ (by assumption)))
  have HC1 : Hid (BoxC wB w1.heap.size ⟨sh, cl, some ⟨g, 0, none⟩, ss.length + 2, ss, ca, pk, wi⟩) := hid (by rw [hwB]; exact BoxC.new w1 ⟨sh, cl, some ⟨g, 0, none⟩, ss.length + 2, ss, ca, pk, wi⟩ _)
  have HRM := hid (hrm.later hbB)
  have HWB : Hid (Below w.heap.size w wB) := hid (Below.on (Below.on HBA.out hb1) hbB)
  have HG : Hid (w.heap.size ≤ g) := hid (Nat.le_trans HBA.out.size hg)
  have HSB := hid ((HS0.out.later hb1).later hbB)
  have hok : Cf.Ok ⟨sh, cl, some ⟨g, 0, none⟩, ss.length + 2, ss, ca, pk, wi⟩ wB := ⟨HRM.out.row (xs := ss) (fun i hi => by unfold roomS; rw [if_pos hi]) (by omega), by simp; omega, HX.out.c.sh⟩
  have CT := Text_is hok HX.out.wi (HP.out.later HWB.out)
  have e1 : Cf.said ⟨sh, cl, some ⟨g, 0, none⟩, ss.length + 2, ss, ca, pk, wi⟩ = .tuple #[.string tx, .int .i64 er] := HSD.out
  rw [e1] at CT
  have CT := hid CT
  have CR : Hid (∀ z, Below wB.heap.size wB z → Calls Tryz.prog 19 #[.agg #[.int .i64 sh, .int .i64 cl, .slice a ss.length cp, .int .i64 ca, .int .i64 pk, .int .u64 wi]] z fun e w' => e = .returned (.tuple #[.string tx, .int .i64 er]) ∧ Below z.heap.size z w') := hid (fun z hb => by
    have := rTextX_is (HX.out.c.later (Below.on HWB.out hb)) HX.out.wi (HP.out.later (Below.on HWB.out hb))
    rw [HSD.out] at this
    exact this)
  have TC : Hid (∀ z, Below wB.heap.size wB z → Calls Tryz.prog 20 #[.agg #[.int .i64 sh, .int .i64 cl, .slice (some ⟨g, 0, none⟩) ss.length (ss.length + 2), .int .i64 ca, .int .i64 pk, .int .u64 wi], .agg #[.int .i64 2, .string t, .int .i64 sh, .int .i64 cl, .slice a ss.length cp, .int .i64 ca, .int .i64 pk, .int .u64 wi, .string lo, .string hi, .slice ra rs.length rc, .slice wa ws.length wc]] z fun e w' => e = .returned (.bool true) ∧ Below z.heap.size z w') := hid (fun z hb => by
    have := turnedC_is HX.out (Below.on HWB.out hb) HP.out (HRM.out.later hb) HG.out
    simp only [Cf.val, Sx.cells] at this
    exact this)
  have UC : Hid (∀ z, Below wB.heap.size wB z → Calls Tryz.prog 21 #[.agg #[.int .i64 sh, .int .i64 cl, .slice (some ⟨g, 0, none⟩) ss.length (ss.length + 2), .int .i64 ca, .int .i64 pk, .int .u64 wi], .agg #[.int .i64 sh, .int .i64 cl, .slice a ss.length cp, .int .i64 ca, .int .i64 pk, .int .u64 wi]] z fun e w' => e = .returned (.bool true) ∧ Below z.heap.size z w') := hid (fun z hb => by
    have := untC_is (c := ⟨sh, cl, a, cp, ss, ca, pk, wi⟩) (HRM.out.later hb) (HX.out.c.later (Below.on HWB.out hb)) (by show ss.length ≤ _; omega) (HP.out.later (Below.on HWB.out hb))
    simp only [Cf.val] at this
    exact this)
  clear hrm hg hb1 hbB hok e1 TW
  go_wp2_with fail
  rw [← hwB]
  clear hwB
  refine CT.out.mono ?_
  rintro e w2 ⟨rfl, hb2⟩
  obtain ⟨s0, s1, s2, s3, s4, s5, s6, s7, s8, s9, s10, s11⟩ := HSB.out.later hb2
  simp only at s0 s1 s2 s3 s4 s5 s6 s7 s8 s9 s10 s11
  have CR2 := hid (CR.out w2 hb2)
  have HB2 := hid hb2
  clear hb2 CR CT
  go_wp2_with fail
  refine CR2.out.mono ?_
  rintro e w3 ⟨rfl, hb3⟩
  have HB3 := hid (Below.on HB2.out hb3)
  have TC3 := hid (TC.out w3 HB3.out)
  obtain ⟨c0, c1, c2, c3, c4, c5⟩ := HC1.out.later HB3.out
  replace s0 := cell_later hb3 s0; replace s1 := cell_later hb3 s1; replace s2 := cell_later hb3 s2; replace s3 := cell_later hb3 s3; replace s4 := cell_later hb3 s4; replace s5 := cell_later hb3 s5; replace s6 := cell_later hb3 s6; replace s7 := cell_later hb3 s7; replace s8 := cell_later hb3 s8; replace s9 := cell_later hb3 s9; replace s10 := cell_later hb3 s10; replace s11 := cell_later hb3 s11
  simp only at c0 c1 c2 c3 c4 c5
  clear hb3 CR2
  go_wp2_with (go_at_call 20; refine TC3.out.mono ?_; rintro e w4 ⟨rfl, hb4⟩; have HB4 := hid (Below.on HB3.out hb4); have UC4 := hid (UC.out w4 HB4.out); replace c0 := cell_later hb4 c0; replace c1 := cell_later hb4 c1; replace c2 := cell_later hb4 c2; replace c3 := cell_later hb4 c3; replace c4 := cell_later hb4 c4; replace c5 := cell_later hb4 c5; replace s2 := cell_later hb4 s2; replace s3 := cell_later hb4 s3; replace s4 := cell_later hb4 s4; replace s5 := cell_later hb4 s5; replace s6 := cell_later hb4 s6; replace s7 := cell_later hb4 s7; clear hb4)
  refine UC4.out.mono ?_
  rintro e w5 ⟨rfl, hb5⟩
  have HE := hid (HB.out.still (n := m + 2) (Below.on HWB.out (Below.on HB4.out hb5)) (by omega))
  clear hb5 c0 c1 c2 c3 c4 c5 s0 s1 s2 s3 s4 s5 s6 s7 s8 s9 s10 s11
  go_wp2_with fail
  go_ret
  exact ⟨rfl, HE⟩
end Go.Proofs.YthenfioddnkjbaaGreatDoor.Bg
/- texts: one kind of call. -/
namespace Go.Proofs.YthenfioddnkjbaaGreatDoor.Bg
open Go.RowKit Go.Sort Go.Stop Go.Proofs.YthenfioddnkjbaaGreatDoor Go.Proofs.YthenfioddnkjbaaGreatDoor.Rt
set_option linter.unusedVariables false

set_option maxRecDepth 16000 in
set_option maxHeartbeats 8000000 in
theorem texts_word {W w : World} {x : Sx} {c : Nat → Nat} {b m : Nat} {y : B4v} (hx : x.Ok W) (h : B4 W w c b y m) (hk : x.kd = 3) :
    Calls Tryz.prog 6 #[.agg x.cells, .pointer (some ⟨b, 0, none⟩)] w (After W b (m + 2)) := by
  obtain ⟨kd, t, ⟨sh, cl, a, cp, ss, ca, pk, wi⟩, ⟨lo, hi⟩, ra, rc, rs, wa, wc, ws⟩ := x
  have hk : kd = 3 := hk
  subst hk
  have ht : t.size ≤ 1048576 := hx.tz
  obtain ⟨wA, hwA⟩ : ∃ wA, wA = w.alloc (.cells #[.int .i64 3, .string t, .int .i64 sh, .int .i64 cl, .slice a ss.length cp, .int .i64 ca, .int .i64 pk, .int .u64 wi, .string lo, .string hi, .slice ra rs.length rc, .slice wa ws.length wc] 53) := ⟨_, rfl⟩
  have hbA : Below w.heap.size w wA := by rw [hwA]; (repeat (first | with_reducible exact Below.refl _ _ | with_reducible assumption | with_reducible refine Below.drew ?_ | with_reducible refine Below.al ?_ _ | with_reducible refine Below.setCell ?_ (by first | exact Nat.le_refl _ | (simp; omega) | (simp; done)) _ | with_reducible refine Below.on ?_ (by assumption)))
  have s1 : wA.cell? ⟨w.heap.size, 1, none⟩ = some (.string t) := by rw [hwA]; simp [go_sem]
  have C1 : Hid (∀ z, Calls Tryz.prog 22 #[.string t] z fun e w' => e = .returned (.string (ofNats (wordL (nums t)))) ∧ Below z.heap.size z w') := hid (fun z => by
    have := word_is (l := nums t) (nums_b8 t) (by rw [nums_length]; omega) z
    rw [ofNats_nums] at this; exact this)
  have C2 : Hid (∀ z, Calls Tryz.prog 23 #[.string t] z fun e w' => e = .returned (.string (ofNats (wordL (nums t)))) ∧ Below z.heap.size z w') := hid (fun z => by
    have := rword_is (l := nums t) (nums_b8 t) (by rw [nums_length]; omega) z
    rw [ofNats_nums] at this; exact this)
  generalize ofNats (wordL (nums t)) = wd at C1 C2
  have HB := hid h; have HBA := hid hbA
  clear hx h ht hbA
  go_enter Tryz.func6, Tryz.ntmps6
  go_upto_region 18 with fail
  rw [← hwA]
  clear hwA
  have r1 := cell_regrown s1
  refine wp_region_quiet_below (by kernel_rfl) (by kernel_rfl) ?_
  repeat (go_big_quiet_step (first | (go_at_call 22; exact Calls.regrown_of (C1.out _)) | (go_at_call 23; exact Calls.regrown_of (C2.out _))))
  refine wpQuiet_nil ?_
  intro wq hq
  replace hq := below_of_regrown hq
  have HE := hid (HB.out.still (n := m + 2) (Below.on HBA.out hq) (by omega))
  clear hq s1 r1
  go_wp2_with fail
  go_ret
  exact ⟨rfl, HE⟩
end Go.Proofs.YthenfioddnkjbaaGreatDoor.Bg
/- texts: one kind of call. -/
namespace Go.Proofs.YthenfioddnkjbaaGreatDoor.Bg
open Go.RowKit Go.Sort Go.Stop Go.Proofs.YthenfioddnkjbaaGreatDoor Go.Proofs.YthenfioddnkjbaaGreatDoor.Rt
set_option linter.unusedVariables false

set_option maxRecDepth 16000 in
set_option maxHeartbeats 8000000 in
theorem texts_unword {W w : World} {x : Sx} {c : Nat → Nat} {b m : Nat} {y : B4v} (hx : x.Ok W) (h : B4 W w c b y m) (hk : x.kd = 4) :
    Calls Tryz.prog 6 #[.agg x.cells, .pointer (some ⟨b, 0, none⟩)] w (After W b (m + 2)) := by
  obtain ⟨kd, t, ⟨sh, cl, a, cp, ss, ca, pk, wi⟩, ⟨lo, hi⟩, ra, rc, rs, wa, wc, ws⟩ := x
  have hk : kd = 4 := hk
  subst hk
  have ht : t.size ≤ 1048576 := hx.tz
  obtain ⟨wA, hwA⟩ : ∃ wA, wA = w.alloc (.cells #[.int .i64 4, .string t, .int .i64 sh, .int .i64 cl, .slice a ss.length cp, .int .i64 ca, .int .i64 pk, .int .u64 wi, .string lo, .string hi, .slice ra rs.length rc, .slice wa ws.length wc] 53) := ⟨_, rfl⟩
  have hbA : Below w.heap.size w wA := by rw [hwA]; (repeat (first | with_reducible exact Below.refl _ _ | with_reducible assumption | with_reducible refine Below.drew ?_ | with_reducible refine Below.al ?_ _ | with_reducible refine Below.setCell ?_ (by first | exact Nat.le_refl _ | (simp; omega) | (simp; done)) _ | with_reducible refine Below.on ?_ (by assumption)))
  have s1 : wA.cell? ⟨w.heap.size, 1, none⟩ = some (.string t) := by rw [hwA]; simp [go_sem]
  have C1 : Hid (∀ z, Calls Tryz.prog 24 #[.string t] z fun e w' => e = .returned (.tuple #[.string (ofNats (unA (nums t)).1), .int .i64 (unA (nums t)).2]) ∧ Below z.heap.size z w') := hid (fun z => by
    have := unword_is (l := nums t) (nums_b8 t) (by rw [nums_length]; omega) z
    rw [ofNats_nums] at this; exact this)
  have C2 : Hid (∀ z, Calls Tryz.prog 25 #[.string t] z fun e w' => e = .returned (.tuple #[.string (ofNats (unA (nums t)).1), .int .i64 (unA (nums t)).2]) ∧ Below z.heap.size z w') := hid (fun z => by
    have := runword_is (l := nums t) (nums_b8 t) (by rw [nums_length]; omega) z
    rw [ofNats_nums] at this; exact this)
  generalize ofNats (unA (nums t)).1 = wd at C1 C2
  generalize (unA (nums t)).2 = er at C1 C2
  have HB := hid h; have HBA := hid hbA
  have HS1 := hid s1
  clear hx h ht hbA s1
  go_enter Tryz.func6, Tryz.ntmps6
  go_wp2_with fail
  rw [← hwA]
  clear hwA
  refine (C1.out _).mono ?_
  rintro e w1 ⟨rfl, hb1⟩
  have s2 := cell_later hb1 HS1.out
  have HB1 := hid hb1
  clear hb1
  go_wp2_with fail
  refine (C2.out _).mono ?_
  rintro e w2 ⟨rfl, hb2⟩
  have HE := hid (HB.out.still (n := m + 2) (Below.on (Below.on HBA.out HB1.out) hb2) (by omega))
  clear hb2 s2
  go_wp2_with fail
  go_ret
  exact ⟨rfl, HE⟩
end Go.Proofs.YthenfioddnkjbaaGreatDoor.Bg
/- texts: one kind of call. -/
namespace Go.Proofs.YthenfioddnkjbaaGreatDoor.Bg
open Go.RowKit Go.Sort Go.Stop Go.Proofs.YthenfioddnkjbaaGreatDoor Go.Proofs.YthenfioddnkjbaaGreatDoor.Rt
set_option linter.unusedVariables false

set_option maxRecDepth 16000 in
set_option maxHeartbeats 8000000 in
theorem texts_none {W w : World} {x : Sx} {c : Nat → Nat} {b m : Nat} {y : B4v} (h : B4 W w c b y m) (hk : x.kd ≠ 1 ∧ x.kd ≠ 2 ∧ x.kd ≠ 3 ∧ x.kd ≠ 4) :
    Calls Tryz.prog 6 #[.agg x.cells, .pointer (some ⟨b, 0, none⟩)] w (After W b (m + 2)) := by
  obtain ⟨kd, t, ⟨sh, cl, a, cp, ss, ca, pk, wi⟩, ⟨lo, hi⟩, ra, rc, rs, wa, wc, ws⟩ := x
  obtain ⟨k1, k2, k3, k4⟩ := hk
  have e1 : (kd == 1) = false := beq_eq_false_iff_ne.2 k1
  have e2 : (kd == 2) = false := beq_eq_false_iff_ne.2 k2
  have e3 : (kd == 3) = false := beq_eq_false_iff_ne.2 k3
  have e4 : (kd == 4) = false := beq_eq_false_iff_ne.2 k4
  have f1 : decide (kd = 1) = false := decide_eq_false k1
  have f2 : decide (kd = 2) = false := decide_eq_false k2
  have f3 : decide (kd = 3) = false := decide_eq_false k3
  have f4 : decide (kd = 4) = false := decide_eq_false k4
  obtain ⟨wA, hwA⟩ : ∃ wA, wA = w.alloc (.cells #[.int .i64 kd, .string t, .int .i64 sh, .int .i64 cl, .slice a ss.length cp, .int .i64 ca, .int .i64 pk, .int .u64 wi, .string lo, .string hi, .slice ra rs.length rc, .slice wa ws.length wc] 53) := ⟨_, rfl⟩
  have hbA : Below w.heap.size w wA := by rw [hwA]; (repeat (first | with_reducible exact Below.refl _ _ | with_reducible assumption | with_reducible refine Below.drew ?_ | with_reducible refine Below.al ?_ _ | with_reducible refine Below.setCell ?_ (by first | exact Nat.le_refl _ | (simp; omega) | (simp; done)) _ | with_reducible refine Below.on ?_ (by assumption)))
  have HE := hid (h.still (n := m + 2) hbA (by omega))
  clear h hbA k1 k2 k3 k4
  go_enter Tryz.func6, Tryz.ntmps6
  go_wp2_with fail
  rw [← hwA]
  go_ret
  exact ⟨rfl, HE⟩
end Go.Proofs.YthenfioddnkjbaaGreatDoor.Bg
