import Derived.Test.YthenfioddnkjbaaGreatDoorRzStep
import Derived.Test.YthenfioddnkjbaaGreatDoorRzText
import Derived.Test.YthenfioddnkjbaaGreatDoorRxCut
import Derived.Lib.AppendZeros
/- turnedConfig: asked again with the keys the other way round. -/
namespace Go.Proofs.YthenfioddnkjbaaGreatDoor.Bg
open Go.RowKit Go.Sort Go.Proofs.YthenfioddnkjbaaGreatDoor Go.Proofs.YthenfioddnkjbaaGreatDoor.Rt
set_option linter.unusedVariables false

theorem cutA_len (c : Cf) (s : T2) (h : c.ss.length ≤ 1048576) : (c.cutA s).length ≤ 1073741824 := by
  unfold Cf.cutA
  split
  · have := cutL_len c.ss s; omega
  · simp
set_option maxRecDepth 16000 in
set_option maxHeartbeats 8000000 in
theorem turnedC_is {W0 w : World} {x : Sx} {g : Nat} (hx : x.Ok W0) (hb : Below W0.heap.size W0 w) (hP : PowTab W0) (hg : RmS w g (roomS x.c.ss) (x.c.ss.length + 2)) (hg0 : W0.heap.size ≤ g) :
    Calls Tryz.prog 20 #[(x.c.at (some ⟨g, 0, none⟩) (x.c.ss.length + 2)).val, .agg x.cells] w fun e w' => e = .returned (.bool true) ∧ Below w.heap.size w w' := by
  obtain ⟨kd, t, ⟨sh, cl, a, cp, ss, ca, pk, wi⟩, ⟨lo, hi⟩, ra, rc, rs, wa, wc, ws⟩ := x
  simp only at hg
  have hgl := hg.blk.lt
  have hsl : ss.length ≤ 1048576 := hx.cl
  obtain ⟨wA, hwA⟩ : ∃ wA, wA = (w.alloc (.cells #[.int .i64 sh, .int .i64 cl, .slice (some ⟨g, 0, none⟩) ss.length (ss.length + 2), .int .i64 ca, .int .i64 pk, .int .u64 wi] 26)).alloc (.cells #[.int .i64 kd, .string t, .int .i64 sh, .int .i64 cl, .slice a ss.length cp, .int .i64 ca, .int .i64 pk, .int .u64 wi, .string lo, .string hi, .slice ra rs.length rc, .slice wa ws.length wc] 53) := ⟨_, rfl⟩
  have hbA : Below w.heap.size w wA := by rw [hwA]; (repeat (first | with_reducible exact Below.refl _ _ | with_reducible assumption | with_reducible refine Below.drew ?_ | with_reducible refine Below.al ?_ _ | with_reducible refine Below.setCell ?_ (by first | exact Nat.le_refl _ | (simp; omega) | (simp; done)) _ | with_reducible refine Below.on ?_ (by assumption)))
  have hsA : wA.heap.size = w.heap.size + 1 + 1 := by rw [hwA]; simp
  have HC0 : BoxC wA w.heap.size ⟨sh, cl, some ⟨g, 0, none⟩, ss.length + 2, ss, ca, pk, wi⟩ := by rw [hwA]; exact (BoxC.new w ⟨sh, cl, some ⟨g, 0, none⟩, ss.length + 2, ss, ca, pk, wi⟩ _).later (Below.al (Below.refl _ _) _)
  have HS0 : BoxX wA (w.heap.size + 1) ⟨kd, t, ⟨sh, cl, a, cp, ss, ca, pk, wi⟩, ⟨lo, hi⟩, ra, rc, rs, wa, wc, ws⟩ := by
    rw [hwA]
    have := BoxX.new (w.alloc (.cells #[.int .i64 sh, .int .i64 cl, .slice (some ⟨g, 0, none⟩) ss.length (ss.length + 2), .int .i64 ca, .int .i64 pk, .int .u64 wi] 26)) ⟨kd, t, ⟨sh, cl, a, cp, ss, ca, pk, wi⟩, ⟨lo, hi⟩, ra, rc, rs, wa, wc, ws⟩ 53
    rw [World.size_alloc] at this
    exact this
  have T1 := hid (turnS_is (cp := ss.length + 2) (hg.later hbA) (by omega))
  have b2 := HC0.c2
  rw [hwA] at b2
  simp only at b2
  have HRM := hid hg
  have HX := hid hx; have HB := hid hb; have HP := hid hP; have HG0 := hid hg0; have HGL := hid hgl
  have HC0 := hid HC0; have HS0 := hid HS0; have HBA := hid hbA; have HSA := hid hsA
  clear hx hb hP hg0 hgl hg hbA hsA
  go_enter Tryz.func20, Tryz.ntmps20
  go_wp2_with fail
  rw [← hwA]
  clear hwA b2
  refine T1.out.mono ?_
  rintro e w1 ⟨rfl, hr1, ho1⟩
  have hne1 : ¬ (w.heap.size = g) := by have := HGL.out; omega
  have hne2 : ¬ (w.heap.size + 1 = g) := by have := HGL.out; omega
  have HC1 := hid (boxC_onl HC0.out ho1 hne1)
  have HS1 := hid (HS0.out.onl ho1 hne2)
  have HR1 := hid hr1
  have HO1 := hid ho1
  have hs1 := ho1.size
  obtain ⟨c0, c1, c2, c3, c4, c5⟩ := HC1.out
  simp only at c0 c1 c2 c3 c4 c5
  obtain ⟨wB, hwB⟩ : ∃ wB, wB = w1.alloc (.cells #[.int .i64 sh, .int .i64 cl, .slice (some ⟨g, 0, none⟩) ss.length (ss.length + 2), .int .i64 ca, .int .i64 pk, .int .u64 wi] 26) := ⟨_, rfl⟩
  have hbB : Below w1.heap.size w1 wB := by rw [hwB]; (repeat (first | with_reducible exact Below.refl _ _ | with_reducible assumption | with_reducible refine Below.drew ?_ | with_reducible refine Below.al ?_ _ | with_reducible refine Below.setCell ?_ (by first | exact Nat.le_refl _ | (simp; omega) | (simp; done)) _ | with_reducible refine Below.on ?_ (by assumption)))
  have HDB : Hid (BoxC wB w1.heap.size ⟨sh, cl, some ⟨g, 0, none⟩, ss.length + 2, ss, ca, pk, wi⟩ ∧ LooseR wB w1.heap.size ∧ w1.heap.size < wB.heap.size) := hid (by rw [hwB]; exact ⟨BoxC.new w1 ⟨sh, cl, some ⟨g, 0, none⟩, ss.length + 2, ss, ca, pk, wi⟩ _, fun o => by simp [go_sem], by simp⟩)
  have hrow : RowS wB (some ⟨g, 0, none⟩) ss.reverse := ((hr1.later hbB).row (xs := ss.reverse) (fun i hi => by unfold roomS; rw [if_pos hi]) (by simp))
  obtain ⟨a2, k2, w2, hrun, hrd, hb2, hnw⟩ := run_copyE okT (rdT_of (ss.length + 2) hrow) (by simp; omega)
  have HNW := hid hnw
  clear hnw
  rw [List.length_reverse] at hrun hrd
  have RR := hid hrun
  have b2 := cell_later hbB c2
  rw [hwB] at b2
  rw [hwB] at RR
  dsimp only [elT] at RR
  have d2 := cell_later hb2 HDB.out.1.c2
  simp only at d2
  have dl : ∀ o, w2.frozen? ⟨w1.heap.size, o, none⟩ = false := HDB.out.2.1.later hb2 HDB.out.2.2
  have HRD := hid (rowT_of hrd); have HB2 := hid hb2; have HBB := hid hbB; have HROW := hid hrow
  clear hr1 ho1 hrun hrd hb2 hwB hrow
  obtain ⟨w3, hw3⟩ : ∃ w3, w3 = w2.setCell ⟨w1.heap.size, 2, none⟩ (.slice a2 ss.length k2) := ⟨_, rfl⟩
  have hb3 : Below w1.heap.size w1 w3 := by rw [hw3]; exact Below.setCell (Below.on HBB.out HB2.out) (p := ⟨w1.heap.size, 2, none⟩) (Nat.le_refl _) _
  have HC3 := hid (HC1.out.later hb3)
  have HS3 := hid (HS1.out.later hb3)
  have hd3 : BoxC w3 w1.heap.size ⟨sh, cl, a2, k2, ss.reverse, ca, pk, wi⟩ := by
    have h0 := HDB.out.1.later HB2.out
    rw [hw3]
    refine ⟨cell_setc (by simp) h0.c0, cell_setc (by simp) h0.c1, ?_, cell_setc (by simp) h0.c3, cell_setc (by simp) h0.c4, cell_setc (by simp) h0.c5⟩
    simp only [List.length_reverse]
    exact World.cell?_setCell_same _ _ _ h0.c2
  have HD3 := hid hd3
  have hr3 : RowS w3 (some ⟨g, 0, none⟩) ss.reverse := (HR1.out.later hb3).row (xs := ss.reverse) (fun i hi => by unfold roomS; rw [if_pos hi]) (by simp)
  have hr4 : RowS w3 a2 ss.reverse := by
    rw [hw3]
    intro i hi
    obtain ⟨bb, off, e1, e2⟩ := HRD.out i hi
    refine ⟨bb, off, e1, cell_setc ?_ e2⟩
    obtain ⟨bb', off', e1', e2'⟩ := HRD.out i hi
    have hnew : wB.heap.size ≤ bb := by
      have h9 := HNW.out bb off e1
      exact h9
    have := HDB.out.2.2
    simp only [ne_eq, Addr.mk.injEq]; omega
  have hok3 : Cf.Ok ⟨sh, cl, some ⟨g, 0, none⟩, ss.length + 2, ss.reverse, ca, pk, wi⟩ w3 := ⟨hr3, by simp; omega, HX.out.c.sh⟩
  have hok4 : Cf.Ok ⟨sh, cl, a2, k2, ss.reverse, ca, pk, wi⟩ w3 := ⟨hr4, by simp; omega, HX.out.c.sh⟩
  have H3 : Hid (Below w.heap.size w w3 ∨ True) := hid (.inr trivial)
  have HP3 : Hid (PowTab w3) := hid (by
    have h1 : PowTab wA := HP.out.later (Below.on HB.out HBA.out)
    have h2 : Below W0.heap.size wA w1 := HO1.out.below (fun k e => by rw [e]; exact HG0.out) (Nat.le_trans HB.out.size HBA.out.size)
    exact (HP.out.later ((Below.on HB.out HBA.out).trans h2)).later hb3)
  obtain ⟨tx, er, hsd⟩ := said_two ⟨sh, cl, some ⟨g, 0, none⟩, ss.length + 2, ss.reverse, ca, pk, wi⟩
  have CT := Text_is hok3 HX.out.wi HP3.out
  have CR : ∀ w4, Below w3.heap.size w3 w4 → _ := fun w4 hb => rTextX_is (hok4.later hb) HX.out.wi (HP3.out.later hb)
  rw [hsd] at CT
  have hsd2 : Cf.said ⟨sh, cl, a2, k2, ss.reverse, ca, pk, wi⟩ = .tuple #[.string tx, .int .i64 er] := hsd
  rw [hsd2] at CR
  simp only [Cf.val, List.length_reverse] at CT CR
  have CT := hid CT; have CR := hid CR; have HOK3 := hid hok3; have HOK4 := hid hok4; have HB3 := hid hb3
  obtain ⟨e0, e1, e2, e3, e4, e5⟩ := HC3.out
  simp only at e0 e1 e2 e3 e4 e5
  rw [hw3] at e0 e1 e2 e3 e4 e5
  clear hsd hsd2 hok3 hok4 hr3 hr4 hd3 hb3
  go_wp2_with (at_builtin; refine Lib.wpList_append_run _ rfl _ _ _ _ rfl _ _ rfl rfl _ _ RR.out ?_)
  rw [← hw3]
  clear e0 e1 e2 e3 e4 e5 hw3 d2 dl b2 c0 c1 c2 c3 c4 c5
  refine CT.out.mono ?_
  rintro e w4 ⟨rfl, hb4⟩
  obtain ⟨f0, f1, f2, f3, f4, f5⟩ := HD3.out.later hb4
  simp only [List.length_reverse] at f0 f1 f2 f3 f4 f5
  have CR4 := hid (CR.out w4 hb4)
  have HB4 := hid hb4
  clear hb4 CR CT
  go_wp2_with fail
  refine CR4.out.mono ?_
  rintro e w5 ⟨rfl, hb5⟩
  have HB5 := hid (Below.on HB4.out hb5)
  clear f0 f1 f2 f3 f4 f5 hb5 CR4
  have hC5 := HC3.out.later HB5.out
  have hD5 := HD3.out.later HB5.out
  have hS5 := HS3.out.later HB5.out
  obtain ⟨c0, c1, c2, c3, c4, c5⟩ := hC5
  obtain ⟨d0, d1, d2, d3, d4, d5⟩ := hD5
  obtain ⟨-, s1, -, -, -, -, -, -, s8, s9, -, -⟩ := hS5
  simp only [List.length_reverse] at c0 c1 c2 c3 c4 c5 d0 d1 d2 d3 d4 d5 s1 s8 s9
  have O1 : Hid (∀ z, Below w5.heap.size w5 z → Calls Tryz.prog 5 #[.agg #[.int .i64 sh, .int .i64 cl, .slice (some ⟨g, 0, none⟩) ss.length (ss.length + 2), .int .i64 ca, .int .i64 pk, .int .u64 wi], .string t] z fun e w' => e = .returned (.int .u32 (Cf.own ⟨sh, cl, a2, k2, ss.reverse, ca, pk, wi⟩ t : Int)) ∧ Below z.heap.size z w') := hid (fun z hb => by
    have := Owner_is (HOK3.out.later (Below.on HB5.out hb)) t
    simp only [Cf.val, List.length_reverse] at this
    exact this)
  have O2 : Hid (∀ z, Below w5.heap.size w5 z → Calls Tryz.prog 26 #[.agg #[.int .i64 sh, .int .i64 cl, .slice a2 ss.length k2, .int .i64 ca, .int .i64 pk, .int .u64 wi], .string t] z fun e w' => e = .returned (.int .u32 (Cf.own ⟨sh, cl, a2, k2, ss.reverse, ca, pk, wi⟩ t : Int)) ∧ Below z.heap.size z w') := hid (fun z hb => by
    have := rOwner_is (HOK4.out.later (Below.on HB5.out hb)) t
    simp only [Cf.val, List.length_reverse] at this
    exact this)
  obtain ⟨L, hL⟩ : ∃ L, L = Cf.cutA ⟨sh, cl, a2, k2, ss.reverse, ca, pk, wi⟩ (lo, hi) := ⟨_, rfl⟩
  have hLl : L.length ≤ 1073741824 := by rw [hL]; exact cutA_len _ _ (by simp; omega)
  have Q1 : Hid (∀ z, Below w5.heap.size w5 z → Calls Tryz.prog 27 #[.agg #[.int .i64 sh, .int .i64 cl, .slice (some ⟨g, 0, none⟩) ss.length (ss.length + 2), .int .i64 ca, .int .i64 pk, .int .u64 wi], .agg #[.string lo, .string hi]] z fun e w' => ∃ a k, e = .returned (.slice a L.length k) ∧ Hid (RowP w' a L) ∧ Below z.heap.size z w') := hid (fun z hb => by
    have := Cut_is (HOK3.out.later (Below.on HB5.out hb)) (lo, hi)
    simp only [Cf.val, List.length_reverse] at this
    refine this.mono ?_
    rintro e w' ⟨v, rfl, ho, hb9⟩
    have ho : OwnP w' z.heap.size v L := by rw [hL]; exact ho
    obtain ⟨a, k, rfl, hr⟩ := ho.row
    exact ⟨a, k, rfl, hid hr, hb9⟩)
  have Q2 : Hid (∀ z, Below w5.heap.size w5 z → Calls Tryz.prog 29 #[.agg #[.int .i64 sh, .int .i64 cl, .slice a2 ss.length k2, .int .i64 ca, .int .i64 pk, .int .u64 wi], .agg #[.string lo, .string hi]] z fun e w' => ∃ a k, e = .returned (.slice a L.length k) ∧ Hid (RowP w' a L) ∧ Below z.heap.size z w') := hid (fun z hb => by
    have := rCut_is (HOK4.out.later (Below.on HB5.out hb)) (lo, hi)
    simp only [Cf.val, List.length_reverse] at this
    refine this.mono ?_
    rintro e w' ⟨v, rfl, ho, hb9⟩
    have ho : OwnP w' z.heap.size v L := by rw [hL]; exact ho
    obtain ⟨a, k, rfl, hr⟩ := ho.row
    exact ⟨a, k, rfl, hid hr, hb9⟩)
  have Q3 : Hid (∀ z a b k m, RowP z a L → RowP z b L → Calls Tryz.prog 28 #[.slice a L.length k, .slice b L.length m] z fun e w' => e = .returned (.bool true) ∧ Below z.heap.size z w') := hid (fun z a b k m h1 h2 => sameA_is h1 h2 (by omega))
  generalize Cf.own ⟨sh, cl, a2, k2, ss.reverse, ca, pk, wi⟩ t = ow at O1 O2
  clear hL hLl
  generalize L.length = nl at Q1 Q2 Q3
  go_upto_region 6 with fail
  go_cut [10] (fun s10 wx => s10 = .bool true ∧ Below w5.heap.size w5 wx)
  case first =>
    go_region_held3 (fun z => z.cell? ⟨w.heap.size, 0, none⟩ = some (.int .i64 sh) ∧ z.cell? ⟨w.heap.size, 1, none⟩ = some (.int .i64 cl) ∧ z.cell? ⟨w.heap.size, 2, none⟩ = some (.slice (some ⟨g, 0, none⟩) ss.length (ss.length + 2)) ∧ z.cell? ⟨w.heap.size, 3, none⟩ = some (.int .i64 ca) ∧ z.cell? ⟨w.heap.size, 4, none⟩ = some (.int .i64 pk) ∧ z.cell? ⟨w.heap.size, 5, none⟩ = some (.int .u64 wi) ∧ z.cell? ⟨w1.heap.size, 0, none⟩ = some (.int .i64 sh) ∧ z.cell? ⟨w1.heap.size, 1, none⟩ = some (.int .i64 cl) ∧ z.cell? ⟨w1.heap.size, 2, none⟩ = some (.slice a2 ss.length k2) ∧ z.cell? ⟨w1.heap.size, 3, none⟩ = some (.int .i64 ca) ∧ z.cell? ⟨w1.heap.size, 4, none⟩ = some (.int .i64 pk) ∧ z.cell? ⟨w1.heap.size, 5, none⟩ = some (.int .u64 wi) ∧ z.cell? ⟨w.heap.size + 1, 1, none⟩ = some (.string t) ∧ z.cell? ⟨w.heap.size + 1, 8, none⟩ = some (.string lo) ∧ z.cell? ⟨w.heap.size + 1, 9, none⟩ = some (.string hi) ∧ Below w5.heap.size w5 z)
      ((refine (fun (hB : Below w5.heap.size w5 _) => ⟨cell_later hB c0, cell_later hB c1, cell_later hB c2, cell_later hB c3, cell_later hB c4, cell_later hB c5, cell_later hB d0, cell_later hB d1, cell_later hB d2, cell_later hB d3, cell_later hB d4, cell_later hB d5, cell_later hB s1, cell_later hB s8, cell_later hB s9, hB⟩) ?_; (repeat (first | with_reducible exact Below.refl _ _ | with_reducible assumption | with_reducible refine Below.drew ?_ | with_reducible refine Below.al ?_ _ | with_reducible refine Below.setCell ?_ (by first | exact Nat.le_refl _ | (simp; omega) | (simp; done)) _ | with_reducible refine Below.on ?_ (by assumption)))))
      (first | (go_at_call 5; refine (O1.out _ (by (repeat (first | with_reducible exact Below.refl _ _ | with_reducible assumption | with_reducible refine Below.drew ?_ | with_reducible refine Below.al ?_ _ | with_reducible refine Below.setCell ?_ (by first | exact Nat.le_refl _ | (simp; omega) | (simp; done)) _ | with_reducible refine Below.on ?_ (by assumption))))).mono ?_; rintro e w6 ⟨rfl, hb6⟩) | (go_at_call 26; refine (O2.out _ (by (repeat (first | with_reducible exact Below.refl _ _ | with_reducible assumption | with_reducible refine Below.drew ?_ | with_reducible refine Below.al ?_ _ | with_reducible refine Below.setCell ?_ (by first | exact Nat.le_refl _ | (simp; omega) | (simp; done)) _ | with_reducible refine Below.on ?_ (by assumption))))).mono ?_; rintro e w7 ⟨rfl, hb7⟩) | (go_at_call 27; refine (Q1.out _ (by (repeat (first | with_reducible exact Below.refl _ _ | with_reducible assumption | with_reducible refine Below.drew ?_ | with_reducible refine Below.al ?_ _ | with_reducible refine Below.setCell ?_ (by first | exact Nat.le_refl _ | (simp; omega) | (simp; done)) _ | with_reducible refine Below.on ?_ (by assumption))))).mono ?_; rintro e w8 ⟨a8, k8, rfl, HR8, hb8⟩) | (go_at_call 29; refine (Q2.out _ (by (repeat (first | with_reducible exact Below.refl _ _ | with_reducible assumption | with_reducible refine Below.drew ?_ | with_reducible refine Below.al ?_ _ | with_reducible refine Below.setCell ?_ (by first | exact Nat.le_refl _ | (simp; omega) | (simp; done)) _ | with_reducible refine Below.on ?_ (by assumption))))).mono ?_; rintro e w9 ⟨a9, k9, rfl, HR9, hb9⟩) | (go_at_call 28; refine (Q3.out _ _ _ _ _ (HR8.out.later (by (repeat (first | with_reducible exact Below.refl _ _ | with_reducible assumption | with_reducible refine Below.drew ?_ | with_reducible refine Below.al ?_ _ | with_reducible refine Below.setCell ?_ (by first | exact Nat.le_refl _ | (simp; omega) | (simp; done)) _ | with_reducible refine Below.on ?_ (by assumption))))) (HR9.out.later (by (repeat (first | with_reducible exact Below.refl _ _ | with_reducible assumption | with_reducible refine Below.drew ?_ | with_reducible refine Below.al ?_ _ | with_reducible refine Below.setCell ?_ (by first | exact Nat.le_refl _ | (simp; omega) | (simp; done)) _ | with_reducible refine Below.on ?_ (by assumption)))))).mono ?_; rintro e w10 ⟨rfl, hb10⟩))
    all_goals (try go_wp2_with fail)
    all_goals go_meet
    all_goals (exact ⟨by simp, by (repeat (first | with_reducible exact Below.refl _ _ | with_reducible assumption | with_reducible refine Below.drew ?_ | with_reducible refine Below.al ?_ _ | with_reducible refine Below.setCell ?_ (by first | exact Nat.le_refl _ | (simp; omega) | (simp; done)) _ | with_reducible refine Below.on ?_ (by assumption)))⟩)
  case rest =>
    rename World => wy
    obtain ⟨rfl, hbx⟩ := hcut
    have hb1y : Below w1.heap.size w1 wy := Below.on (Below.on HB3.out HB5.out) hbx
    have y2 := cell_later hb1y HC1.out.c2
    simp only at y2
    have T2 := turnS_is (cp := ss.length + 2) (xs := ss.reverse) (w := wy) (g := g) (by rw [List.length_reverse]; exact HR1.out.later hb1y) (by rw [List.length_reverse]; omega)
    rw [List.length_reverse, List.reverse_reverse] at T2
    have T2 := hid T2
    have H1Y := hid hb1y
    clear hbx hb1y c0 c1 c2 c3 c4 c5 d0 d1 d2 d3 d4 d5 s1 s8 s9 O1 O2 Q1 Q2 Q3
    go_wp2_with fail
    refine T2.out.mono ?_
    rintro e wz ⟨rfl, hrz, hoz⟩
    have HE : Hid (Below w.heap.size w wz) := hid (by
      have ho : Onl (fun k => k = g) w wz := (((Onl.of_below HBA.out).trans HO1.out).on H1Y.out).trans hoz
      refine ⟨ho.os, ho.tape, ho.output, ho.size, fun k hk => ?_⟩
      by_cases e : k = g
      · subst e; exact HRM.out.same hrz
      · exact ho.block k hk e)
    clear hrz hoz y2
    go_wp2_with fail
    go_ret
    exact ⟨rfl, HE.out⟩
end Go.Proofs.YthenfioddnkjbaaGreatDoor.Bg
