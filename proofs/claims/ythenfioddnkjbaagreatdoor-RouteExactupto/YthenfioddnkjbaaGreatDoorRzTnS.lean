import Derived.Test.YthenfioddnkjbaaGreatDoorRzShA
import Derived.Deep.RegionHeld3
/- turnedShares: asked again with the lists the other way round. -/
namespace Go.Proofs.YthenfioddnkjbaaGreatDoor.Bg
open Go.RowKit Go.Sort Go.Proofs.YthenfioddnkjbaaGreatDoor Go.Proofs.YthenfioddnkjbaaGreatDoor.Rt
set_option linter.unusedVariables false

set_option maxRecDepth 16000 in
set_option maxHeartbeats 8000000 in
theorem turnedS_is {W0 w : World} {x : Sx} {g gr gw : Nat} (hx : x.Ok W0) (hb : Below W0.heap.size W0 w) (hg : RmS w g (roomS x.c.ss) (x.c.ss.length + 2)) (hr : Rm2 w gr (room2 x.rs) (x.rs.length + 3)) (hw : RmW w gw (roomW x.ws) (x.ws.length + 3)) (hr0 : W0.heap.size ≤ gr) (hw0 : W0.heap.size ≤ gw) :
    Calls Tryz.prog 38 #[(x.c.at (some ⟨g, 0, none⟩) (x.c.ss.length + 2)).val, .slice (some ⟨gr, 0, none⟩) x.rs.length (x.rs.length + 3), .slice (some ⟨gw, 0, none⟩) x.ws.length (x.ws.length + 3), .agg x.cells] w fun e w' => e = .returned (.bool true) ∧ Below w.heap.size w w' := by
  obtain ⟨kd, t, ⟨sh, cl, a, cp, ss, ca, pk, wi⟩, ⟨lo, hi⟩, ra, rc, rs, wa, wc, ws⟩ := x
  simp only at hg hr hw
  have hgl := hg.blk.lt
  have hrl := hr.blk.lt
  have hwl := hw.blk.lt
  have hrw : gr ≠ gw := blk_ne hr.blk hw.blk (by decide)
  have hrg : g ≠ gr := blk_ne hg.blk hr.blk (by decide)
  have hwg : g ≠ gw := blk_ne hg.blk hw.blk (by decide)
  have hsl : ss.length ≤ 1048576 := hx.cl
  have hnr : rs.length ≤ 1048576 := hx.rl
  have hnw : ws.length ≤ 1048576 := hx.wl
  obtain ⟨wA, hwA⟩ : ∃ wA, wA = (w.alloc (.cells #[.int .i64 sh, .int .i64 cl, .slice (some ⟨g, 0, none⟩) ss.length (ss.length + 2), .int .i64 ca, .int .i64 pk, .int .u64 wi] 26)).alloc (.cells #[.int .i64 kd, .string t, .int .i64 sh, .int .i64 cl, .slice a ss.length cp, .int .i64 ca, .int .i64 pk, .int .u64 wi, .string lo, .string hi, .slice ra rs.length rc, .slice wa ws.length wc] 53) := ⟨_, rfl⟩
  have hbA : Below w.heap.size w wA := by rw [hwA]; (repeat (first | with_reducible exact Below.refl _ _ | with_reducible assumption | with_reducible refine Below.drew ?_ | with_reducible refine Below.al ?_ _ | with_reducible refine Below.setCell ?_ (by first | exact Nat.le_refl _ | (simp; omega) | (simp; done)) _ | with_reducible refine Below.on ?_ (by assumption)))
  have hsA : wA.heap.size = w.heap.size + 1 + 1 := by rw [hwA]; simp
  have HC0 : BoxC wA w.heap.size ⟨sh, cl, some ⟨g, 0, none⟩, ss.length + 2, ss, ca, pk, wi⟩ := by rw [hwA]; exact (BoxC.new w ⟨sh, cl, some ⟨g, 0, none⟩, ss.length + 2, ss, ca, pk, wi⟩ _).later (Below.al (Below.refl _ _) _)
  have HS0 : BoxX wA (w.heap.size + 1) ⟨kd, t, ⟨sh, cl, a, cp, ss, ca, pk, wi⟩, ⟨lo, hi⟩, ra, rc, rs, wa, wc, ws⟩ := by
    rw [hwA]
    have := BoxX.new (w.alloc (.cells #[.int .i64 sh, .int .i64 cl, .slice (some ⟨g, 0, none⟩) ss.length (ss.length + 2), .int .i64 ca, .int .i64 pk, .int .u64 wi] 26)) ⟨kd, t, ⟨sh, cl, a, cp, ss, ca, pk, wi⟩, ⟨lo, hi⟩, ra, rc, rs, wa, wc, ws⟩ 53
    rw [World.size_alloc] at this
    exact this
  have T1 := hid (turn2_is (cp := rs.length + 3) (hr.later hbA) (by omega))
  have HRM := hid hr; have HWM := hid hw; have HGM := hid hg
  have HX := hid hx; have HB := hid hb; have HR0 := hid hr0; have HW0 := hid hw0; have HGL := hid hgl; have HRL := hid hrl; have HWL := hid hwl
  have HNE := hid hrw; have HRG := hid hrg; have HWG := hid hwg
  have HC0 := hid HC0; have HS0 := hid HS0; have HBA := hid hbA; have HSA := hid hsA
  clear hx hb hr0 hw0 hgl hrl hwl hg hr hw hbA hsA hrw hrg hwg
  go_enter Tryz.func38, Tryz.ntmps38
  go_wp2_with fail
  rw [← hwA]
  clear hwA
  refine T1.out.mono ?_
  rintro e w1 ⟨rfl, hr1, ho1⟩
  have hW1 : RmW w1 gw (roomW ws) (ws.length + 3) := (HWM.out.later HBA.out).keep (ho1.block gw (HWM.out.later HBA.out).blk.lt (fun e => HNE.out e.symm))
  have T2 := hid (turnW_is (cp := ws.length + 3) hW1 (by omega))
  have HR1 := hid hr1; have HO1 := hid ho1
  clear hr1 ho1 hW1
  go_wp2_with fail
  refine T2.out.mono ?_
  rintro e w2 ⟨rfl, hw2, ho2⟩
  have HO2 : Hid (Onl (fun k => k = gr ∨ k = gw) wA w2) := hid ((HO1.out.mono fun k e => .inl e).trans (ho2.mono fun k e => .inr e))
  have HR2 : Hid (Rm2 w2 gr (room2 rs.reverse) (rs.length + 3)) := hid (HR1.out.keep (ho2.block gr HR1.out.blk.lt HNE.out))
  have HW2 := hid hw2
  have hz := HGL.out; have hz2 := HRL.out; have hz3 := HWL.out
  have HC2 := hid (boxC_onl HC0.out HO2.out (by omega))
  have HS2 := hid (HS0.out.onl HO2.out (by omega))
  have hG2 : RmS w2 g (roomS ss) (ss.length + 2) := by
    have h0 := HGM.out.later HBA.out
    have hbk := HO2.out.block g h0.blk.lt (fun e => e.elim HRG.out HWG.out)
    exact ⟨fun i hi => (World.cell?_of_block (a := ⟨g, i, none⟩) hbk).trans (h0.at_ i hi), by obtain ⟨cur, h1, h2⟩ := h0.blk; exact ⟨cur, hbk.trans h1, h2⟩⟩
  have hW2 : Below W0.heap.size W0 w2 := (Below.on HB.out HBA.out).trans (HO2.out.below (fun k e => e.elim (fun e => by rw [e]; exact HR0.out) (fun e => by rw [e]; exact HW0.out)) (Nat.le_trans HB.out.size HBA.out.size))
  have hok : Cf.Ok ⟨sh, cl, some ⟨g, 0, none⟩, ss.length + 2, ss, ca, pk, wi⟩ w2 := ⟨hG2.row (xs := ss) (fun i hi => by unfold roomS; rw [if_pos hi]) (by omega), by simp; omega, HX.out.c.sh⟩
  have hRr : Row2 w2 (some ⟨gr, 0, none⟩) rs.reverse := HR2.out.row (fun i hi => by unfold room2; rw [if_pos hi]) (by simp)
  have hRw : RowW w2 (some ⟨gw, 0, none⟩) ws.reverse := HW2.out.row (fun i hi => by unfold roomW; rw [if_pos hi]) (by simp)
  obtain ⟨L, hL⟩ : ∃ L, L = Cf.shA ⟨sh, cl, a, cp, ss, ca, pk, wi⟩ rs.reverse ws.reverse := ⟨_, rfl⟩
  have CS := Shares_any (rc := rs.length + 3) (wc := ws.length + 3) hok hRr hRw (by simp; omega) (by simp; omega)
  have hL2 : Cf.shA ⟨sh, cl, some ⟨g, 0, none⟩, ss.length + 2, ss, ca, pk, wi⟩ rs.reverse ws.reverse = L := by rw [hL]; rfl
  rw [hL2] at CS
  simp only [Cf.val, List.length_reverse] at CS
  have CS := hid CS
  have RS : Hid (∀ z (a4 a5 : Option Addr) (k4 k5 : Nat), Below w2.heap.size w2 z → Row2 z a4 rs.reverse → RowW z a5 ws.reverse → Calls Tryz.prog 35 #[.agg #[.int .i64 sh, .int .i64 cl, .slice a ss.length cp, .int .i64 ca, .int .i64 pk, .int .u64 wi], .slice a4 rs.length k4, .slice a5 ws.length k5] z fun e w' => ∃ b k, e = .returned (.slice b L.length k) ∧ Hid (RowSh w' b L) ∧ Below z.heap.size z w') := hid (fun z a4 a5 k4 k5 hb h4 h5 => by
    have := rShares_any (rc := k4) (wc := k5) (HX.out.c.later (Below.on hW2 hb)) h4 h5 (by simp; omega) (by simp; omega)
    simp only [Cf.val, List.length_reverse] at this
    refine this.mono ?_
    rintro e w' ⟨⟨b, k, rfl, hr⟩, hb⟩
    exact ⟨b, k, by rw [hL], hid (by rw [hL]; exact hr), hb⟩)
  have SM : Hid (∀ z (b1 b2 : Option Addr) (k1 k2 : Nat), RowSh z b1 L → RowSh z b2 L → Calls Tryz.prog 34 #[.slice b1 L.length k1, .slice b2 L.length k2] z fun e w' => e = .returned (.bool true) ∧ Below z.heap.size z w') := hid (fun z b1 b2 k1 k2 h1 h2 => by
    rw [hL] at h1 h2 ⊢
    exact sameShA h1 h2 (by simp; omega) (by simp; omega))
  obtain ⟨c0, c1, c2, c3, c4, c5⟩ := HC2.out
  simp only at c0 c1 c2 c3 c4 c5
  have HRr := hid hRr; have HRw := hid hRw; have HW2b := hid hW2
  clear hw2 ho2 hG2 hok hRr hRw hL hL2 hW2
  go_wp2_with fail
  refine CS.out.mono ?_
  rintro e w3 ⟨a3, k3, rfl, HSH, hb3⟩
  have HSH3 : Hid (RowSh w3 a3 L) := hid (by obtain ⟨vr, vw, h⟩ := HSH.out; exact h.row)
  obtain ⟨-, -, s2, s3, s4, s5, s6, s7, -, -, -, -⟩ := HS2.out.later hb3
  simp only at s2 s3 s4 s5 s6 s7
  obtain ⟨a4, k4, w4, r4, hrd4, hb4, _⟩ := run_copyE okS (rdS_of (rs.length + 3) ((HRr.out.later hb3).later (w' := w3.drew) (by (repeat (first | with_reducible exact Below.refl _ _ | with_reducible assumption | with_reducible refine Below.drew ?_ | with_reducible refine Below.al ?_ _ | with_reducible refine Below.setCell ?_ (by first | exact Nat.le_refl _ | (simp; omega) | (simp; done)) _ | with_reducible refine Below.on ?_ (by assumption)))))) (by simp; omega)
  obtain ⟨a5, k5, w5, r5, hrd5, hb5, _⟩ := run_copyE okW (rdW_of (ws.length + 3) (((HRw.out.later hb3).later (w' := w3.drew) (by (repeat (first | with_reducible exact Below.refl _ _ | with_reducible assumption | with_reducible refine Below.drew ?_ | with_reducible refine Below.al ?_ _ | with_reducible refine Below.setCell ?_ (by first | exact Nat.le_refl _ | (simp; omega) | (simp; done)) _ | with_reducible refine Below.on ?_ (by assumption))))).later hb4)) (by simp; omega)
  rw [List.length_reverse] at r4 r5 hrd4 hrd5
  dsimp only [elS, elW] at r4 r5
  have HB4 : Hid (Below w3.heap.size w3 w4) := hid (Below.on (Below.drew (Below.refl _ _)) hb4)
  have HB5 : Hid (Below w3.heap.size w3 w5) := hid (Below.on HB4.out hb5)
  have HR4 := hid ((rowS_of hrd4).later hb5); have HR5 := hid (rowW_of hrd5)
  have R4 := hid r4; have R5 := hid r5; have HB3 := hid hb3
  have pB4 := HB4.out; have pB5 := HB5.out
  clear CS HSH hb3 r4 r5 hrd4 hrd5 hb4 hb5 c0 c1 c2 c3 c4 c5
  go_upto_region 4 with fail
  go_cut [10] (fun s10 wx => s10 = .bool true ∧ Below w3.heap.size w3 wx)
  case first =>
    go_region_held3 (fun z => z.cell? ⟨w.heap.size + 1, 2, none⟩ = some (.int .i64 sh) ∧ z.cell? ⟨w.heap.size + 1, 3, none⟩ = some (.int .i64 cl) ∧ z.cell? ⟨w.heap.size + 1, 4, none⟩ = some (.slice a ss.length cp) ∧ z.cell? ⟨w.heap.size + 1, 5, none⟩ = some (.int .i64 ca) ∧ z.cell? ⟨w.heap.size + 1, 6, none⟩ = some (.int .i64 pk) ∧ z.cell? ⟨w.heap.size + 1, 7, none⟩ = some (.int .u64 wi) ∧ Below w3.heap.size w3 z)
      ((refine (fun (hB : Below w3.heap.size w3 _) => ⟨cell_later hB s2, cell_later hB s3, cell_later hB s4, cell_later hB s5, cell_later hB s6, cell_later hB s7, hB⟩) ?_; first | exact HB4.out | exact HB5.out | ((repeat (first | with_reducible exact Below.refl _ _ | with_reducible assumption | with_reducible refine Below.drew ?_ | with_reducible refine Below.al ?_ _ | with_reducible refine Below.setCell ?_ (by first | exact Nat.le_refl _ | (simp; omega) | (simp; done)) _ | with_reducible refine Below.on ?_ (by assumption))))))
      (first | refine step_append_runB rfl (.const (.slice none 0 0)) (.tmp 22) 50 50 rfl (.slice none 0 0) (.slice (some ⟨gr, 0, none⟩) rs.length (rs.length + 3)) (by simp [Act.eval]) (by simp [Act.eval]) R4.out ?_ | refine step_append_runB rfl (.const (.slice none 0 0)) (.tmp 24) 51 51 rfl (.slice none 0 0) (.slice (some ⟨gw, 0, none⟩) ws.length (ws.length + 3)) (by simp [Act.eval]) (by simp [Act.eval]) R5.out ?_ | (go_at_call 35; refine (RS.out w5 a4 a5 k4 k5 (Below.on HB3.out HB5.out) HR4.out HR5.out).mono ?_; rintro e w6 ⟨b6, k6, rfl, HR6, hb6⟩; have HB6 : Hid (Below w3.heap.size w3 w6) := hid (Below.on HB5.out hb6)) | (go_at_call 34; refine (SM.out _ _ _ _ _ (HSH3.out.later HB6.out) HR6.out).mono ?_; rintro e w7 ⟨rfl, hb7⟩; have HB7 : Hid (Below w3.heap.size w3 w7) := hid (Below.on HB6.out hb7)))
    all_goals (try go_wp2_with fail)
    all_goals go_meet
    all_goals (exact ⟨by simp, by first | exact HB7.out | ((repeat (first | with_reducible exact Below.refl _ _ | with_reducible assumption | with_reducible refine Below.drew ?_ | with_reducible refine Below.al ?_ _ | with_reducible refine Below.setCell ?_ (by first | exact Nat.le_refl _ | (simp; omega) | (simp; done)) _ | with_reducible refine Below.on ?_ (by assumption))))⟩)
  case rest =>
    rename World => wy
    obtain ⟨rfl, hbx⟩ := hcut
    have hb2y : Below w2.heap.size w2 wy := Below.on HB3.out hbx
    have T3 := turn2_is (cp := rs.length + 3) (xs := rs.reverse) (w := wy) (g := gr) (by rw [List.length_reverse]; exact HR2.out.later hb2y) (by rw [List.length_reverse]; omega)
    rw [List.length_reverse, List.reverse_reverse] at T3
    have T3 := hid T3
    have H2Y := hid hb2y
    clear hbx hb2y s2 s3 s4 s5 s6 s7 RS SM
    go_wp2_with fail
    refine T3.out.mono ?_
    rintro e wz ⟨rfl, hrz, hoz⟩
    have T4 := turnW_is (cp := ws.length + 3) (xs := ws.reverse) (w := wz) (g := gw) (by rw [List.length_reverse]; have h0 := HW2.out.later H2Y.out; exact h0.keep (hoz.block gw h0.blk.lt (fun e => HNE.out e.symm))) (by rw [List.length_reverse]; omega)
    rw [List.length_reverse, List.reverse_reverse] at T4
    have T4 := hid T4
    have HRZ := hid hrz; have HOZ := hid hoz
    clear hrz hoz
    go_wp2_with fail
    refine T4.out.mono ?_
    rintro e wu ⟨rfl, hwu, hou⟩
    have HE : Hid (Below w.heap.size w wu) := hid (by
      have ho : Onl (fun k => k = gr ∨ k = gw) w wu := ((((Onl.of_below HBA.out).trans HO2.out).on H2Y.out).trans (HOZ.out.mono fun k e => .inl e)).trans (hou.mono fun k e => .inr e)
      have hru : Rm2 wu gr (room2 rs) (rs.length + 3) := HRZ.out.keep (hou.block gr HRZ.out.blk.lt HNE.out)
      refine ⟨ho.os, ho.tape, ho.output, ho.size, fun k hk => ?_⟩
      by_cases e : k = gr
      · subst e; exact HRM.out.same hru
      · by_cases e2 : k = gw
        · subst e2; exact HWM.out.same hwu
        · exact ho.block k hk (fun h => h.elim e e2))
    clear hwu hou
    go_wp2_with fail
    go_ret
    exact ⟨rfl, HE.out⟩
end Go.Proofs.YthenfioddnkjbaaGreatDoor.Bg
