import Derived.Test.YthenfioddnkjbaaGreatDoorRzTx0
import Derived.Test.YthenfioddnkjbaaGreatDoorRzTnS
/- shards: one kind of call. -/
namespace Go.Proofs.YthenfioddnkjbaaGreatDoor.Bg
open Go.RowKit Go.Sort Go.Stop Go.Proofs.YthenfioddnkjbaaGreatDoor Go.Proofs.YthenfioddnkjbaaGreatDoor.Rt
set_option linter.unusedVariables false

set_option maxRecDepth 16000 in
set_option maxHeartbeats 8000000 in
theorem shards_home {W w : World} {x : Sx} {c : Nat → Nat} {b m : Nat} {y : B4v} (hP : PowTab W) (hx : x.Ok W) (h : B4 W w c b y m) (hk : x.kd = 8) (hm : m + 24 ≤ 1073741824) :
    Calls Tryz.prog 7 #[.agg x.cells, .pointer (some ⟨b, 0, none⟩)] w (After W b (m + 24)) := by
  have hxw := hx.later h.bl
  have hPw := hP.later h.bl
  obtain ⟨kd, t, ⟨sh, cl, a, cp, ss, ca, pk, wi⟩, ⟨lo, hi⟩, ra, rc, rs, wa, wc, ws⟩ := x
  have hk : kd = 8 := hk
  subst hk
  have hsl : ss.length ≤ 1048576 := hx.cl
  have hrl : rs.length ≤ 1048576 := hx.rl
  have hwl : ws.length ≤ 1048576 := hx.wl
  obtain ⟨wA, hwA⟩ : ∃ wA, wA = w.alloc (.cells #[.int .i64 8, .string t, .int .i64 sh, .int .i64 cl, .slice a ss.length cp, .int .i64 ca, .int .i64 pk, .int .u64 wi, .string lo, .string hi, .slice ra rs.length rc, .slice wa ws.length wc] 53) := ⟨_, rfl⟩
  have hbA : Below w.heap.size w wA := by rw [hwA]; (repeat (first | with_reducible exact Below.refl _ _ | with_reducible assumption | with_reducible refine Below.drew ?_ | with_reducible refine Below.al ?_ _ | with_reducible refine Below.setCell ?_ (by first | exact Nat.le_refl _ | (simp; omega) | (simp; done)) _ | with_reducible refine Below.on ?_ (by assumption)))
  have HS0 : BoxX wA w.heap.size ⟨8, t, ⟨sh, cl, a, cp, ss, ca, pk, wi⟩, ⟨lo, hi⟩, ra, rc, rs, wa, wc, ws⟩ := by rw [hwA]; exact BoxX.new w ⟨8, t, ⟨sh, cl, a, cp, ss, ca, pk, wi⟩, ⟨lo, hi⟩, ra, rc, rs, wa, wc, ws⟩ _
  have TW := hid (twinX_is (hxw.c.later hbA) (show ss.length ≤ 8796093022208 by omega) (hPw.later hbA))
  have HX := hid hxw; have HP := hid hPw; have HB := hid h; have HBA := hid hbA; have HS0 := hid HS0
  clear hx h hP hxw hPw hbA
  go_enter Tryz.func7, Tryz.ntmps7
  go_wp2_with fail
  rw [← hwA]
  clear hwA
  refine TW.out.mono ?_
  rintro e w1 ⟨g, rfl, hrm, hg, hb1⟩
  obtain ⟨wB, hwB⟩ : ∃ wB, wB = w1.alloc (.cells #[.int .i64 sh, .int .i64 cl, .slice (some ⟨g, 0, none⟩) ss.length (ss.length + 2), .int .i64 ca, .int .i64 pk, .int .u64 wi] 26) := ⟨_, rfl⟩
  have hbB : Below w1.heap.size w1 wB := by rw [hwB]; (repeat (first | with_reducible exact Below.refl _ _ | with_reducible assumption | with_reducible refine Below.drew ?_ | with_reducible refine Below.al ?_ _ | with_reducible refine Below.setCell ?_ (by first | exact Nat.le_refl _ | (simp; omega) | (simp; done)) _ | with_reducible refine Below.on ?_ (by assumption)))
  have HC1 : Hid (BoxC wB w1.heap.size ⟨sh, cl, some ⟨g, 0, none⟩, ss.length + 2, ss, ca, pk, wi⟩) := hid (by rw [hwB]; exact BoxC.new w1 ⟨sh, cl, some ⟨g, 0, none⟩, ss.length + 2, ss, ca, pk, wi⟩ _)
  have HRM := hid (hrm.later hbB)
  have HWB : Hid (Below w.heap.size w wB) := hid (Below.on (Below.on HBA.out hb1) hbB)
  have HG : Hid (w.heap.size ≤ g) := hid (Nat.le_trans HBA.out.size hg)
  have HSB := hid ((HS0.out.later hb1).later hbB)
  have HOK : Hid (Cf.Ok ⟨sh, cl, some ⟨g, 0, none⟩, ss.length + 2, ss, ca, pk, wi⟩ wB) := hid ⟨HRM.out.row (xs := ss) (fun i hi => by unfold roomS; rw [if_pos hi]) (by omega), by simp; omega, HX.out.c.sh⟩
  have TC : Hid (∀ z, Below wB.heap.size wB z → Calls Tryz.prog 20 #[.agg #[.int .i64 sh, .int .i64 cl, .slice (some ⟨g, 0, none⟩) ss.length (ss.length + 2), .int .i64 ca, .int .i64 pk, .int .u64 wi], .agg #[.int .i64 8, .string t, .int .i64 sh, .int .i64 cl, .slice a ss.length cp, .int .i64 ca, .int .i64 pk, .int .u64 wi, .string lo, .string hi, .slice ra rs.length rc, .slice wa ws.length wc]] z fun e w' => e = .returned (.bool true) ∧ Below z.heap.size z w') := hid (fun z hb => by
    have := turnedC_is HX.out (Below.on HWB.out hb) HP.out (HRM.out.later hb) HG.out
    simp only [Cf.val, Sx.cells] at this
    exact this)
  have UC : Hid (∀ z, Below wB.heap.size wB z → Calls Tryz.prog 21 #[.agg #[.int .i64 sh, .int .i64 cl, .slice (some ⟨g, 0, none⟩) ss.length (ss.length + 2), .int .i64 ca, .int .i64 pk, .int .u64 wi], .agg #[.int .i64 sh, .int .i64 cl, .slice a ss.length cp, .int .i64 ca, .int .i64 pk, .int .u64 wi]] z fun e w' => e = .returned (.bool true) ∧ Below z.heap.size z w') := hid (fun z hb => by
    have := untC_is (c := ⟨sh, cl, a, cp, ss, ca, pk, wi⟩) (HRM.out.later hb) (HX.out.c.later (Below.on HWB.out hb)) (by show ss.length ≤ _; omega) (HP.out.later (Below.on HWB.out hb))
    simp only [Cf.val] at this
    exact this)
  clear hrm hg hb1 hbB TW
  have RW := hid (roomXW_is (c := wc) (HX.out.wr.later HWB.out) (show ws.length + 3 ≤ 7036874417766 by omega) (HP.out.later HWB.out))
  have H1 : Hid (∀ z gw vs, vs.length = ws.length → Below wB.heap.size wB z → RowW z (some ⟨gw, 0, none⟩) vs → Calls Tryz.prog 41 #[.agg #[.int .i64 sh, .int .i64 cl, .slice (some ⟨g, 0, none⟩) ss.length (ss.length + 2), .int .i64 ca, .int .i64 pk, .int .u64 wi], .slice (some ⟨gw, 0, none⟩) ws.length (ws.length + 3)] z fun e w' => e = .returned (.tuple #[.int .u32 ((Cf.home ⟨sh, cl, a, cp, ss, ca, pk, wi⟩ vs).1 : Int), .bool (Cf.home ⟨sh, cl, a, cp, ss, ca, pk, wi⟩ vs).2]) ∧ Below z.heap.size z w') := hid (fun z gw vs hv hb hr => by
    have := Home_is (c := ⟨sh, cl, some ⟨g, 0, none⟩, ss.length + 2, ss, ca, pk, wi⟩) (cp := ws.length + 3) (HOK.out.later hb) hr (by omega) (by omega)
    rw [hv] at this
    exact this)
  have H2 : Hid (∀ z aw kw vs, vs.length = ws.length → Below wB.heap.size wB z → RowW z aw vs → Calls Tryz.prog 42 #[.agg #[.int .i64 sh, .int .i64 cl, .slice a ss.length cp, .int .i64 ca, .int .i64 pk, .int .u64 wi], .slice aw ws.length kw] z fun e w' => e = .returned (.tuple #[.int .u32 ((Cf.home ⟨sh, cl, a, cp, ss, ca, pk, wi⟩ vs).1 : Int), .bool (Cf.home ⟨sh, cl, a, cp, ss, ca, pk, wi⟩ vs).2]) ∧ Below z.heap.size z w') := hid (fun z aw kw vs hv hb hr => by
    have := rHome_is (c := ⟨sh, cl, a, cp, ss, ca, pk, wi⟩) (wc := kw) (HX.out.c.later (Below.on HWB.out hb)) hr (by omega)
    rw [hv] at this
    exact this)
  have UW : Hid (∀ z gw, Below wB.heap.size wB z → RmW z gw (roomW ws) (ws.length + 3) → Calls Tryz.prog 37 #[.slice (some ⟨gw, 0, none⟩) ws.length (ws.length + 3), .slice wa ws.length wc] z fun e w' => e = .returned (.bool true) ∧ Below z.heap.size z w') := hid (fun z gw hb hr => untW_is (c := wc) hr (HX.out.wr.later (Below.on HWB.out hb)) (show ws.length ≤ 1073741824 by omega) (HP.out.later (Below.on HWB.out hb)))
  obtain ⟨⟨n1, u1⟩, hh1⟩ : ∃ p, p = Cf.home ⟨sh, cl, a, cp, ss, ca, pk, wi⟩ ws := ⟨_, rfl⟩
  obtain ⟨⟨n2, u2⟩, hh2⟩ : ∃ p, p = Cf.home ⟨sh, cl, a, cp, ss, ca, pk, wi⟩ ws.reverse := ⟨_, rfl⟩
  have HH1 := hid hh1; have HH2 := hid hh2
  clear hh1 hh2
  obtain ⟨c0, c1, c2, c3, c4, c5⟩ := HC1.out
  obtain ⟨s0, s1, s2, s3, s4, s5, s6, s7, s8, s9, s10, s11⟩ := HSB.out
  simp only at c0 c1 c2 c3 c4 c5 s0 s1 s2 s3 s4 s5 s6 s7 s8 s9 s10 s11
  have HLT : Hid (w1.heap.size < wB.heap.size) := hid (World.block_lt_of_cell? _ _ c0)
  have HL0 : Hid (w.heap.size < wB.heap.size) := hid (World.block_lt_of_cell? _ _ s0)
  rw [hwB] at s0 s11
  go_wp2_with fail
  rw [← hwB] at s0 s11 ⊢
  clear hwB
  refine RW.out.mono ?_
  rintro e w2 ⟨gw, rfl, hr2, hgw, hb2⟩
  have hne1 : ¬ (w1.heap.size = gw) := by have := HLT.out; omega
  have hne0 : ¬ (w.heap.size = gw) := by have := HL0.out; omega
  replace c0 := cell_later hb2 c0; replace c1 := cell_later hb2 c1; replace c2 := cell_later hb2 c2; replace c3 := cell_later hb2 c3; replace c4 := cell_later hb2 c4; replace c5 := cell_later hb2 c5; replace s0 := cell_later hb2 s0; replace s1 := cell_later hb2 s1; replace s2 := cell_later hb2 s2; replace s3 := cell_later hb2 s3; replace s4 := cell_later hb2 s4; replace s5 := cell_later hb2 s5; replace s6 := cell_later hb2 s6; replace s7 := cell_later hb2 s7; replace s8 := cell_later hb2 s8; replace s9 := cell_later hb2 s9; replace s10 := cell_later hb2 s10; replace s11 := cell_later hb2 s11
  have C12 := H1.out w2 gw ws rfl hb2 (hr2.row (xs := ws) (fun i hi => by unfold roomW; rw [if_pos hi]) (by omega))
  rw [← HH1.out] at C12
  have C12 := hid C12; have HR2 := hid hr2; have HB2 := hid hb2; have HGW := hid hgw
  clear hr2 hb2 hgw RW
  go_wp2_with fail
  refine C12.out.mono ?_
  rintro e w3 ⟨rfl, hb3⟩
  replace c0 := cell_later hb3 c0; replace c1 := cell_later hb3 c1; replace c2 := cell_later hb3 c2; replace c3 := cell_later hb3 c3; replace c4 := cell_later hb3 c4; replace c5 := cell_later hb3 c5; replace s0 := cell_later hb3 s0; replace s1 := cell_later hb3 s1; replace s2 := cell_later hb3 s2; replace s3 := cell_later hb3 s3; replace s4 := cell_later hb3 s4; replace s5 := cell_later hb3 s5; replace s6 := cell_later hb3 s6; replace s7 := cell_later hb3 s7; replace s8 := cell_later hb3 s8; replace s9 := cell_later hb3 s9; replace s10 := cell_later hb3 s10; replace s11 := cell_later hb3 s11
  have HB3 := hid (Below.on HB2.out hb3)
  have C23 := H2.out w3 wa wc ws rfl HB3.out (HX.out.wr.later (Below.on HWB.out HB3.out))
  rw [← HH1.out] at C23
  have C23 := hid C23; have HR3 := hid (HR2.out.later hb3)
  clear hb3 C12
  go_wp2_with fail
  refine C23.out.mono ?_
  rintro e w4 ⟨rfl, hb4⟩
  replace c0 := cell_later hb4 c0; replace c1 := cell_later hb4 c1; replace c2 := cell_later hb4 c2; replace c3 := cell_later hb4 c3; replace c4 := cell_later hb4 c4; replace c5 := cell_later hb4 c5; replace s0 := cell_later hb4 s0; replace s1 := cell_later hb4 s1; replace s2 := cell_later hb4 s2; replace s3 := cell_later hb4 s3; replace s4 := cell_later hb4 s4; replace s5 := cell_later hb4 s5; replace s6 := cell_later hb4 s6; replace s7 := cell_later hb4 s7; replace s8 := cell_later hb4 s8; replace s9 := cell_later hb4 s9; replace s10 := cell_later hb4 s10; replace s11 := cell_later hb4 s11
  have HB4 := hid (Below.on HB3.out hb4)
  have HR4 := hid (HR3.out.later hb4)
  have T4 := hid (turnW_is (cp := ws.length + 3) HR4.out (by omega))
  clear hb4 C23
  go_wp2_with fail
  refine T4.out.mono ?_
  rintro e w5 ⟨rfl, hr5, ho5⟩
  replace c0 := ho5.cell hne1 c0; replace c1 := ho5.cell hne1 c1; replace c2 := ho5.cell hne1 c2; replace c3 := ho5.cell hne1 c3; replace c4 := ho5.cell hne1 c4; replace c5 := ho5.cell hne1 c5
  replace s0 := ho5.cell hne0 s0; replace s1 := ho5.cell hne0 s1; replace s2 := ho5.cell hne0 s2; replace s3 := ho5.cell hne0 s3; replace s4 := ho5.cell hne0 s4; replace s5 := ho5.cell hne0 s5; replace s6 := ho5.cell hne0 s6; replace s7 := ho5.cell hne0 s7; replace s8 := ho5.cell hne0 s8; replace s9 := ho5.cell hne0 s9; replace s10 := ho5.cell hne0 s10; replace s11 := ho5.cell hne0 s11
  have HB5 : Hid (Below wB.heap.size wB w5) := hid (HB4.out.trans (ho5.below (fun k e => by rw [e]; exact HGW.out) HB4.out.size))
  have HR5 := hid hr5
  have hrow5 : RowW w5 (some ⟨gw, 0, none⟩) ws.reverse := hr5.row (xs := ws.reverse) (fun i hi => by unfold roomW; rw [if_pos hi]) (by simp)
  have C15 := H1.out w5 gw ws.reverse (by simp) HB5.out hrow5
  rw [← HH2.out] at C15
  have C15 := hid C15; have HRW5 := hid hrow5
  clear hr5 ho5 T4 hrow5
  go_wp2_with fail
  refine C15.out.mono ?_
  rintro e w6 ⟨rfl, hb6⟩
  replace c0 := cell_later hb6 c0; replace c1 := cell_later hb6 c1; replace c2 := cell_later hb6 c2; replace c3 := cell_later hb6 c3; replace c4 := cell_later hb6 c4; replace c5 := cell_later hb6 c5; replace s0 := cell_later hb6 s0; replace s1 := cell_later hb6 s1; replace s2 := cell_later hb6 s2; replace s3 := cell_later hb6 s3; replace s4 := cell_later hb6 s4; replace s5 := cell_later hb6 s5; replace s6 := cell_later hb6 s6; replace s7 := cell_later hb6 s7; replace s8 := cell_later hb6 s8; replace s9 := cell_later hb6 s9; replace s10 := cell_later hb6 s10; replace s11 := cell_later hb6 s11
  have HB6 := hid (Below.on HB5.out hb6)
  obtain ⟨a7, k7, w7, r7, hrd7, hb7, -⟩ := run_copyE okW (rdW_of (ws.length + 3) ((HRW5.out.later hb6).later (w' := w6.drew) (by (repeat (first | with_reducible exact Below.refl _ _ | with_reducible assumption | with_reducible refine Below.drew ?_ | with_reducible refine Below.al ?_ _ | with_reducible refine Below.setCell ?_ (by first | exact Nat.le_refl _ | (simp; omega) | (simp; done)) _ | with_reducible refine Below.on ?_ (by assumption)))))) (by simp; omega)
  rw [List.length_reverse] at r7 hrd7
  dsimp only [elW] at r7
  have pB7 : Below w6.heap.size w6 w7 := Below.on (Below.drew (Below.refl _ _)) hb7
  have C27 := H2.out w7 a7 k7 ws.reverse (by simp) (Below.on HB6.out pB7) (rowW_of hrd7)
  rw [← HH2.out] at C27
  have C27 := hid C27; have R7 := hid r7
  have HR6 := hid (HR5.out.later hb6)
  clear hb6 C15 r7 hrd7 hb7
  go_upto_region 39 with fail
  go_cut [16, 17] (fun s16 s17 wx => s16 = .int .u32 (n2 : Int) ∧ s17 = .bool u2 ∧ Below w6.heap.size w6 wx)
  case first =>
    go_region_held3 (fun z => z.cell? ⟨w.heap.size, 2, none⟩ = some (.int .i64 sh) ∧ z.cell? ⟨w.heap.size, 3, none⟩ = some (.int .i64 cl) ∧ z.cell? ⟨w.heap.size, 4, none⟩ = some (.slice a ss.length cp) ∧ z.cell? ⟨w.heap.size, 5, none⟩ = some (.int .i64 ca) ∧ z.cell? ⟨w.heap.size, 6, none⟩ = some (.int .i64 pk) ∧ z.cell? ⟨w.heap.size, 7, none⟩ = some (.int .u64 wi) ∧ Below w6.heap.size w6 z)
      ((refine (fun (hB : Below w6.heap.size w6 _) => ⟨cell_later hB s2, cell_later hB s3, cell_later hB s4, cell_later hB s5, cell_later hB s6, cell_later hB s7, hB⟩) ?_; (repeat (first | with_reducible exact Below.refl _ _ | with_reducible assumption | with_reducible refine Below.drew ?_ | with_reducible refine Below.al ?_ _ | with_reducible refine Below.setCell ?_ (by first | exact Nat.le_refl _ | (simp; omega) | (simp; done)) _ | with_reducible refine Below.on ?_ (by assumption)))))
      (first | refine step_append_runB rfl (.const (.slice none 0 0)) (.tmp 240) 51 51 rfl (.slice none 0 0) (.slice (some ⟨gw, 0, none⟩) ws.length (ws.length + 3)) (by simp [Act.eval]) (by simp [Act.eval]) R7.out ?_ | (go_at_call 42; refine C27.out.mono ?_; rintro e w8 ⟨rfl, hb8⟩))
    all_goals (try go_wp2_with fail)
    all_goals go_meet
    all_goals (exact ⟨by simp, by simp, by (repeat (first | with_reducible exact Below.refl _ _ | with_reducible assumption | with_reducible refine Below.drew ?_ | with_reducible refine Below.al ?_ _ | with_reducible refine Below.setCell ?_ (by first | exact Nat.le_refl _ | (simp; omega) | (simp; done)) _ | with_reducible refine Below.on ?_ (by assumption)))⟩)
  case rest =>
    rename World => wy
    obtain ⟨rfl, rfl, hbx⟩ := hcut
    replace c0 := cell_later hbx c0; replace c1 := cell_later hbx c1; replace c2 := cell_later hbx c2; replace c3 := cell_later hbx c3; replace c4 := cell_later hbx c4; replace c5 := cell_later hbx c5; replace s0 := cell_later hbx s0; replace s1 := cell_later hbx s1; replace s2 := cell_later hbx s2; replace s3 := cell_later hbx s3; replace s4 := cell_later hbx s4; replace s5 := cell_later hbx s5; replace s6 := cell_later hbx s6; replace s7 := cell_later hbx s7; replace s8 := cell_later hbx s8; replace s9 := cell_later hbx s9; replace s10 := cell_later hbx s10; replace s11 := cell_later hbx s11
    have HBY := hid (Below.on HB6.out hbx)
    have T9 := turnW_is (cp := ws.length + 3) (xs := ws.reverse) (w := wy) (g := gw) (by rw [List.length_reverse]; exact HR6.out.later hbx) (by rw [List.length_reverse]; omega)
    rw [List.length_reverse, List.reverse_reverse] at T9
    have T9 := hid T9
    clear hbx C27 pB7
    go_wp2_with fail
    refine T9.out.mono ?_
    rintro e wz ⟨rfl, hrz, hoz⟩
    replace c0 := hoz.cell hne1 c0; replace c1 := hoz.cell hne1 c1; replace c2 := hoz.cell hne1 c2; replace c3 := hoz.cell hne1 c3; replace c4 := hoz.cell hne1 c4; replace c5 := hoz.cell hne1 c5
    replace s0 := hoz.cell hne0 s0; replace s1 := hoz.cell hne0 s1; replace s2 := hoz.cell hne0 s2; replace s3 := hoz.cell hne0 s3; replace s4 := hoz.cell hne0 s4; replace s5 := hoz.cell hne0 s5; replace s6 := hoz.cell hne0 s6; replace s7 := hoz.cell hne0 s7; replace s8 := hoz.cell hne0 s8; replace s9 := hoz.cell hne0 s9; replace s10 := hoz.cell hne0 s10; replace s11 := hoz.cell hne0 s11
    have HBZ : Hid (Below wB.heap.size wB wz) := hid (HBY.out.trans (hoz.below (fun k e => by rw [e]; exact HGW.out) HBY.out.size))
    have HRZ := hid hrz
    have UCZ := hid (UC.out wz HBZ.out)
    clear hrz hoz T9
    go_wp2_with (go_at_call 21; refine UCZ.out.mono ?_; rintro e wu ⟨rfl, hbu⟩; replace c0 := cell_later hbu c0; replace c1 := cell_later hbu c1; replace c2 := cell_later hbu c2; replace c3 := cell_later hbu c3; replace c4 := cell_later hbu c4; replace c5 := cell_later hbu c5; replace s0 := cell_later hbu s0; replace s1 := cell_later hbu s1; replace s2 := cell_later hbu s2; replace s3 := cell_later hbu s3; replace s4 := cell_later hbu s4; replace s5 := cell_later hbu s5; replace s6 := cell_later hbu s6; replace s7 := cell_later hbu s7; replace s8 := cell_later hbu s8; replace s9 := cell_later hbu s9; replace s10 := cell_later hbu s10; replace s11 := cell_later hbu s11; have HBU := hid (Below.on HBZ.out hbu); have UWU := hid (UW.out wu gw HBU.out (HRZ.out.later hbu)); clear hbu)
    refine UWU.out.mono ?_
    rintro e wv ⟨rfl, hbv⟩
    have HE := hid (HB.out.still (n := m + 24) (Below.on HWB.out (Below.on HBU.out hbv)) (by omega))
    clear hbv c0 c1 c2 c3 c4 c5 s0 s1 s2 s3 s4 s5 s6 s7 s8 s9 s10 s11
    go_wp2_with fail
    go_ret
    exact ⟨rfl, HE⟩
end Go.Proofs.YthenfioddnkjbaaGreatDoor.Bg
