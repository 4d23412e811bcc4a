import Derived.Test.YthenfioddnkjbaaGreatDoorRzTx0
import Derived.Test.YthenfioddnkjbaaGreatDoorRzTnS
import Derived.Test.YthenfioddnkjbaaGreatDoorRzTxN
/- shards: one kind of call. -/
namespace Go.Proofs.YthenfioddnkjbaaGreatDoor.Bg
open Go.RowKit Go.Sort Go.Stop Go.Proofs.YthenfioddnkjbaaGreatDoor Go.Proofs.YthenfioddnkjbaaGreatDoor.Rt
set_option linter.unusedVariables false

set_option maxRecDepth 16000 in
set_option maxHeartbeats 8000000 in
theorem shards_none {W w : World} {x : Sx} {c : Nat → Nat} {b m : Nat} {y : B4v} (hP : PowTab W) (hx : x.Ok W) (h : B4 W w c b y m) (hk : x.kd ≠ 5 ∧ x.kd ≠ 6 ∧ x.kd ≠ 7 ∧ x.kd ≠ 8) (hm : m + 24 ≤ 1073741824) :
    Calls Tryz.prog 7 #[.agg x.cells, .pointer (some ⟨b, 0, none⟩)] w (After W b (m + 24)) := by
  have hxw := hx.later h.bl
  have hPw := hP.later h.bl
  obtain ⟨kd, t, ⟨sh, cl, a, cp, ss, ca, pk, wi⟩, ⟨lo, hi⟩, ra, rc, rs, wa, wc, ws⟩ := x
  obtain ⟨k5, k6, k7, k8⟩ := hk
  have e5 : (kd == 5) = false := beq_eq_false_iff_ne.2 k5
  have f5 : decide (kd = 5) = false := decide_eq_false k5
  have e6 : (kd == 6) = false := beq_eq_false_iff_ne.2 k6
  have f6 : decide (kd = 6) = false := decide_eq_false k6
  have e7 : (kd == 7) = false := beq_eq_false_iff_ne.2 k7
  have f7 : decide (kd = 7) = false := decide_eq_false k7
  have e8 : (kd == 8) = false := beq_eq_false_iff_ne.2 k8
  have f8 : decide (kd = 8) = false := decide_eq_false k8
  clear k5 k6 k7 k8
  have hsl : ss.length ≤ 1048576 := hx.cl
  have hrl : rs.length ≤ 1048576 := hx.rl
  have hwl : ws.length ≤ 1048576 := hx.wl
  obtain ⟨wA, hwA⟩ : ∃ wA, wA = w.alloc (.cells #[.int .i64 kd, .string t, .int .i64 sh, .int .i64 cl, .slice a ss.length cp, .int .i64 ca, .int .i64 pk, .int .u64 wi, .string lo, .string hi, .slice ra rs.length rc, .slice wa ws.length wc] 53) := ⟨_, rfl⟩
  have hbA : Below w.heap.size w wA := by rw [hwA]; (repeat (first | with_reducible exact Below.refl _ _ | with_reducible assumption | with_reducible refine Below.drew ?_ | with_reducible refine Below.al ?_ _ | with_reducible refine Below.setCell ?_ (by first | exact Nat.le_refl _ | (simp; omega) | (simp; done)) _ | with_reducible refine Below.on ?_ (by assumption)))
  have HS0 : BoxX wA w.heap.size ⟨kd, t, ⟨sh, cl, a, cp, ss, ca, pk, wi⟩, ⟨lo, hi⟩, ra, rc, rs, wa, wc, ws⟩ := by rw [hwA]; exact BoxX.new w ⟨kd, t, ⟨sh, cl, a, cp, ss, ca, pk, wi⟩, ⟨lo, hi⟩, ra, rc, rs, wa, wc, ws⟩ _
  have TW := hid (twinX_is (hxw.c.later hbA) (show ss.length ≤ 8796093022208 by omega) (hPw.later hbA))
  have HX := hid hxw; have HP := hid hPw; have HB := hid h; have HBA := hid hbA; have HS0 := hid HS0
  clear hx h hP hxw hPw hbA
  go_enter Tryz.func7, Tryz.ntmps7
  go_wp2_with fail
  rw [← hwA]
  clear hwA
  refine TW.out.mono ?_
  rintro e w1 ⟨g, rfl, hrm, hg, hb1⟩
  obtain ⟨wB, hwB⟩ : ∃ wB, wB = w1.alloc (.cells #[.int .i64 sh, .int .i64 cl, .slice (some ⟨g, 0, none⟩) ss.length (ss.length + 2), .int .i64 ca, .int .i64 pk, .int .u64 wi] 26) := ⟨_, rfl⟩
  have hbB : Below w1.heap.size w1 wB := by rw [hwB]; (repeat (first | with_reducible exact Below.refl _ _ | with_reducible assumption | with_reducible refine Below.drew ?_ | with_reducible refine Below.al ?_ _ | with_reducible refine Below.setCell ?_ (by first | exact Nat.le_refl _ | (simp; omega) | (simp; done)) _ | with_reducible refine Below.on ?_ (by assumption)))
  have HC1 : Hid (BoxC wB w1.heap.size ⟨sh, cl, some ⟨g, 0, none⟩, ss.length + 2, ss, ca, pk, wi⟩) := hid (by rw [hwB]; exact BoxC.new w1 ⟨sh, cl, some ⟨g, 0, none⟩, ss.length + 2, ss, ca, pk, wi⟩ _)
  have HRM := hid (hrm.later hbB)
  have HWB : Hid (Below w.heap.size w wB) := hid (Below.on (Below.on HBA.out hb1) hbB)
  have HG : Hid (w.heap.size ≤ g) := hid (Nat.le_trans HBA.out.size hg)
  have HSB := hid ((HS0.out.later hb1).later hbB)
  have HOK : Hid (Cf.Ok ⟨sh, cl, some ⟨g, 0, none⟩, ss.length + 2, ss, ca, pk, wi⟩ wB) := hid ⟨HRM.out.row (xs := ss) (fun i hi => by unfold roomS; rw [if_pos hi]) (by omega), by simp; omega, HX.out.c.sh⟩
  have TC : Hid (∀ z, Below wB.heap.size wB z → Calls Tryz.prog 20 #[.agg #[.int .i64 sh, .int .i64 cl, .slice (some ⟨g, 0, none⟩) ss.length (ss.length + 2), .int .i64 ca, .int .i64 pk, .int .u64 wi], .agg #[.int .i64 kd, .string t, .int .i64 sh, .int .i64 cl, .slice a ss.length cp, .int .i64 ca, .int .i64 pk, .int .u64 wi, .string lo, .string hi, .slice ra rs.length rc, .slice wa ws.length wc]] z fun e w' => e = .returned (.bool true) ∧ Below z.heap.size z w') := hid (fun z hb => by
    have := turnedC_is HX.out (Below.on HWB.out hb) HP.out (HRM.out.later hb) HG.out
    simp only [Cf.val, Sx.cells] at this
    exact this)
  have UC : Hid (∀ z, Below wB.heap.size wB z → Calls Tryz.prog 21 #[.agg #[.int .i64 sh, .int .i64 cl, .slice (some ⟨g, 0, none⟩) ss.length (ss.length + 2), .int .i64 ca, .int .i64 pk, .int .u64 wi], .agg #[.int .i64 sh, .int .i64 cl, .slice a ss.length cp, .int .i64 ca, .int .i64 pk, .int .u64 wi]] z fun e w' => e = .returned (.bool true) ∧ Below z.heap.size z w') := hid (fun z hb => by
    have := untC_is (c := ⟨sh, cl, a, cp, ss, ca, pk, wi⟩) (HRM.out.later hb) (HX.out.c.later (Below.on HWB.out hb)) (by show ss.length ≤ _; omega) (HP.out.later (Below.on HWB.out hb))
    simp only [Cf.val] at this
    exact this)
  clear hrm hg hb1 hbB TW
  have HE := hid (HB.out.still (n := m + 24) HWB.out (by omega))
  obtain ⟨c0, c1, c2, c3, c4, c5⟩ := HC1.out
  obtain ⟨s0, s1, s2, s3, s4, s5, s6, s7, s8, s9, s10, s11⟩ := HSB.out
  simp only at c0 c1 c2 c3 c4 c5 s0 s1 s2 s3 s4 s5 s6 s7 s8 s9 s10 s11
  rw [hwB] at c0 c1 c2 c3 c4 c5 s0 s1 s2 s3 s4 s5 s6 s7 s8 s9 s10 s11
  go_wp2_with fail
  rw [← hwB]
  go_ret
  exact ⟨rfl, HE⟩
end Go.Proofs.YthenfioddnkjbaaGreatDoor.Bg
/- shards: one kind of call. -/
namespace Go.Proofs.YthenfioddnkjbaaGreatDoor.Bg
open Go.RowKit Go.Sort Go.Stop Go.Proofs.YthenfioddnkjbaaGreatDoor Go.Proofs.YthenfioddnkjbaaGreatDoor.Rt
set_option linter.unusedVariables false

set_option maxRecDepth 16000 in
set_option maxHeartbeats 8000000 in
theorem shards_owner {W w : World} {x : Sx} {c : Nat → Nat} {b m : Nat} {y : B4v} (hP : PowTab W) (hx : x.Ok W) (h : B4 W w c b y m) (hk : x.kd = 5) (hm : m + 24 ≤ 1073741824) :
    Calls Tryz.prog 7 #[.agg x.cells, .pointer (some ⟨b, 0, none⟩)] w (After W b (m + 24)) := by
  have hxw := hx.later h.bl
  have hPw := hP.later h.bl
  obtain ⟨kd, t, ⟨sh, cl, a, cp, ss, ca, pk, wi⟩, ⟨lo, hi⟩, ra, rc, rs, wa, wc, ws⟩ := x
  have hk : kd = 5 := hk
  subst hk
  have hsl : ss.length ≤ 1048576 := hx.cl
  have hrl : rs.length ≤ 1048576 := hx.rl
  have hwl : ws.length ≤ 1048576 := hx.wl
  obtain ⟨wA, hwA⟩ : ∃ wA, wA = w.alloc (.cells #[.int .i64 5, .string t, .int .i64 sh, .int .i64 cl, .slice a ss.length cp, .int .i64 ca, .int .i64 pk, .int .u64 wi, .string lo, .string hi, .slice ra rs.length rc, .slice wa ws.length wc] 53) := ⟨_, rfl⟩
  have hbA : Below w.heap.size w wA := by rw [hwA]; (repeat (first | with_reducible exact Below.refl _ _ | with_reducible assumption | with_reducible refine Below.drew ?_ | with_reducible refine Below.al ?_ _ | with_reducible refine Below.setCell ?_ (by first | exact Nat.le_refl _ | (simp; omega) | (simp; done)) _ | with_reducible refine Below.on ?_ (by assumption)))
  have HS0 : BoxX wA w.heap.size ⟨5, t, ⟨sh, cl, a, cp, ss, ca, pk, wi⟩, ⟨lo, hi⟩, ra, rc, rs, wa, wc, ws⟩ := by rw [hwA]; exact BoxX.new w ⟨5, t, ⟨sh, cl, a, cp, ss, ca, pk, wi⟩, ⟨lo, hi⟩, ra, rc, rs, wa, wc, ws⟩ _
  have TW := hid (twinX_is (hxw.c.later hbA) (show ss.length ≤ 8796093022208 by omega) (hPw.later hbA))
  have HX := hid hxw; have HP := hid hPw; have HB := hid h; have HBA := hid hbA; have HS0 := hid HS0
  clear hx h hP hxw hPw hbA
  go_enter Tryz.func7, Tryz.ntmps7
  go_wp2_with fail
  rw [← hwA]
  clear hwA
  refine TW.out.mono ?_
  rintro e w1 ⟨g, rfl, hrm, hg, hb1⟩
  obtain ⟨wB, hwB⟩ : ∃ wB, wB = w1.alloc (.cells #[.int .i64 sh, .int .i64 cl, .slice (some ⟨g, 0, none⟩) ss.length (ss.length + 2), .int .i64 ca, .int .i64 pk, .int .u64 wi] 26) := ⟨_, rfl⟩
  have hbB : Below w1.heap.size w1 wB := by rw [hwB]; (repeat (first | with_reducible exact Below.refl _ _ | with_reducible assumption | with_reducible refine Below.drew ?_ | with_reducible refine Below.al ?_ _ | with_reducible refine Below.setCell ?_ (by first | exact Nat.le_refl _ | (simp; omega) | (simp; done)) _ | with_reducible refine Below.on ?_ (by assumption)))
  have HC1 : Hid (BoxC wB w1.heap.size ⟨sh, cl, some ⟨g, 0, none⟩, ss.length + 2, ss, ca, pk, wi⟩) := hid (by rw [hwB]; exact BoxC.new w1 ⟨sh, cl, some ⟨g, 0, none⟩, ss.length + 2, ss, ca, pk, wi⟩ _)
  have HRM := hid (hrm.later hbB)
  have HWB : Hid (Below w.heap.size w wB) := hid (Below.on (Below.on HBA.out hb1) hbB)
  have HG : Hid (w.heap.size ≤ g) := hid (Nat.le_trans HBA.out.size hg)
  have HSB := hid ((HS0.out.later hb1).later hbB)
  have HOK : Hid (Cf.Ok ⟨sh, cl, some ⟨g, 0, none⟩, ss.length + 2, ss, ca, pk, wi⟩ wB) := hid ⟨HRM.out.row (xs := ss) (fun i hi => by unfold roomS; rw [if_pos hi]) (by omega), by simp; omega, HX.out.c.sh⟩
  have TC : Hid (∀ z, Below wB.heap.size wB z → Calls Tryz.prog 20 #[.agg #[.int .i64 sh, .int .i64 cl, .slice (some ⟨g, 0, none⟩) ss.length (ss.length + 2), .int .i64 ca, .int .i64 pk, .int .u64 wi], .agg #[.int .i64 5, .string t, .int .i64 sh, .int .i64 cl, .slice a ss.length cp, .int .i64 ca, .int .i64 pk, .int .u64 wi, .string lo, .string hi, .slice ra rs.length rc, .slice wa ws.length wc]] z fun e w' => e = .returned (.bool true) ∧ Below z.heap.size z w') := hid (fun z hb => by
    have := turnedC_is HX.out (Below.on HWB.out hb) HP.out (HRM.out.later hb) HG.out
    simp only [Cf.val, Sx.cells] at this
    exact this)
  have UC : Hid (∀ z, Below wB.heap.size wB z → Calls Tryz.prog 21 #[.agg #[.int .i64 sh, .int .i64 cl, .slice (some ⟨g, 0, none⟩) ss.length (ss.length + 2), .int .i64 ca, .int .i64 pk, .int .u64 wi], .agg #[.int .i64 sh, .int .i64 cl, .slice a ss.length cp, .int .i64 ca, .int .i64 pk, .int .u64 wi]] z fun e w' => e = .returned (.bool true) ∧ Below z.heap.size z w') := hid (fun z hb => by
    have := untC_is (c := ⟨sh, cl, a, cp, ss, ca, pk, wi⟩) (HRM.out.later hb) (HX.out.c.later (Below.on HWB.out hb)) (by show ss.length ≤ _; omega) (HP.out.later (Below.on HWB.out hb))
    simp only [Cf.val] at this
    exact this)
  clear hrm hg hb1 hbB TW
  have O1 : Hid (∀ z, Below wB.heap.size wB z → Calls Tryz.prog 5 #[.agg #[.int .i64 sh, .int .i64 cl, .slice (some ⟨g, 0, none⟩) ss.length (ss.length + 2), .int .i64 ca, .int .i64 pk, .int .u64 wi], .string t] z fun e w' => e = .returned (.int .u32 (Cf.own ⟨sh, cl, a, cp, ss, ca, pk, wi⟩ t : Int)) ∧ Below z.heap.size z w') := hid (fun z hb => Owner_is (HOK.out.later hb) t)
  have O2 : Hid (∀ z, Below wB.heap.size wB z → Calls Tryz.prog 26 #[.agg #[.int .i64 sh, .int .i64 cl, .slice a ss.length cp, .int .i64 ca, .int .i64 pk, .int .u64 wi], .string t] z fun e w' => e = .returned (.int .u32 (Cf.own ⟨sh, cl, a, cp, ss, ca, pk, wi⟩ t : Int)) ∧ Below z.heap.size z w') := hid (fun z hb => rOwner_is (HX.out.c.later (Below.on HWB.out hb)) t)
  generalize Cf.own ⟨sh, cl, a, cp, ss, ca, pk, wi⟩ t = ow at O1 O2
  obtain ⟨c0, c1, c2, c3, c4, c5⟩ := HC1.out
  obtain ⟨s0, s1, s2, s3, s4, s5, s6, s7, s8, s9, s10, s11⟩ := HSB.out
  simp only at c0 c1 c2 c3 c4 c5 s0 s1 s2 s3 s4 s5 s6 s7 s8 s9 s10 s11
  rw [hwB] at s0
  go_upto_region 4 with fail
  rw [← hwB] at s0 ⊢
  clear hwB
  have rc0 := cell_regrown c0
  have rc1 := cell_regrown c1
  have rc2 := cell_regrown c2
  have rc3 := cell_regrown c3
  have rc4 := cell_regrown c4
  have rc5 := cell_regrown c5
  have rs0 := cell_regrown s0
  have rs1 := cell_regrown s1
  have rs2 := cell_regrown s2
  have rs3 := cell_regrown s3
  have rs4 := cell_regrown s4
  have rs5 := cell_regrown s5
  have rs6 := cell_regrown s6
  have rs7 := cell_regrown s7
  have rs8 := cell_regrown s8
  have rs9 := cell_regrown s9
  have rs10 := cell_regrown s10
  have rs11 := cell_regrown s11
  refine wp_region_quiet_below (by kernel_rfl) (by kernel_rfl) ?_
  repeat (go_big_quiet_step (first | (go_at_call 5; exact Calls.regrown_of (O1.out _ (below_of_regrown ⟨⟨_, _⟩, rfl⟩))) | (go_at_call 26; exact Calls.regrown_of (O2.out _ (below_of_regrown ⟨⟨_, _⟩, rfl⟩))) | (go_at_call 20; exact Calls.regrown_of (TC.out _ (below_of_regrown ⟨⟨_, _⟩, rfl⟩))) | (go_at_call 21; exact Calls.regrown_of (UC.out _ (below_of_regrown ⟨⟨_, _⟩, rfl⟩)))))
  refine wpQuiet_nil ?_
  intro wq hq
  replace hq := below_of_regrown hq
  have HE := hid (HB.out.still (n := m + 24) (Below.on HWB.out hq) (by omega))
  clear hq c0 c1 c2 c3 c4 c5 s0 s1 s2 s3 s4 s5 s6 s7 s8 s9 s10 s11 rc0 rc1 rc2 rc3 rc4 rc5 rs0 rs1 rs2 rs3 rs4 rs5 rs6 rs7 rs8 rs9 rs10 rs11
  go_wp2_with fail
  go_ret
  exact ⟨rfl, HE⟩
end Go.Proofs.YthenfioddnkjbaaGreatDoor.Bg
/- shards: one kind of call. -/
namespace Go.Proofs.YthenfioddnkjbaaGreatDoor.Bg
open Go.RowKit Go.Sort Go.Stop Go.Proofs.YthenfioddnkjbaaGreatDoor Go.Proofs.YthenfioddnkjbaaGreatDoor.Rt
set_option linter.unusedVariables false

/-- two lists in hand, apart, of colours 32 and 36 -/
theorem hand_two {α : Type} {E : El α} {W w w1 w2 w6 w7 w8 : World} {c : Nat → Nat} {b m n k2 k7 : Nat} {y : B4v} {a2 a7 : Option Addr} {xs : List α} (h : B4 W w c b y m) (hb : Below w.heap.size w w8) (h2 : RowF E w2 w1.heap.size (.slice a2 n k2) xs) (h28 : Below w2.heap.size w2 w8) (h7 : RowF E w7 w6.heap.size (.slice a7 n k7) xs) (h78 : Below w7.heap.size w7 w8) (h01 : w.heap.size ≤ w1.heap.size) (h26 : w2.heap.size ≤ w6.heap.size) (h12 : w1.heap.size ≤ w2.heap.size) :
    ∃ c9, B4 W w8 c9 b y m ∧ RwC E w8 W.heap.size c9 32 (.slice a2 n k2) xs ∧ RwC E w8 W.heap.size c9 36 (.slice a7 n k7) xs := by
  have hl1 : ∀ g, (Value.slice a2 n k2).ownBlock = some g → w1.heap.size ≤ g ∧ g < w2.heap.size := fun g hg => h2.lt g hg
  have hl3 : ∀ g, (Value.slice a7 n k7).ownBlock = some g → w6.heap.size ≤ g ∧ g < w7.heap.size := fun g hg => h7.lt g hg
  refine ⟨hand w.heap.size c (.slice a2 n k2) (.slice a7 n k7), h.later hb (fun k hk => hand_old hk), ⟨(h2.later h28).low (Nat.le_trans h.bl.size h01), fun g hg => ?_⟩, ⟨(h7.later h78).low (Nat.le_trans h.bl.size (by omega)), fun g hg => ?_⟩⟩
  · have := hl1 g hg
    unfold hand; rw [if_neg (by omega), if_pos hg]
  · have h3 := hl3 g hg
    unfold hand; rw [if_neg (by omega), if_neg (fun h => by have h1 := hl1 g h; omega), if_pos hg]
set_option maxRecDepth 16000 in
set_option maxHeartbeats 8000000 in
theorem shards_cut {W w : World} {x : Sx} {c : Nat → Nat} {b m : Nat} {y : B4v} (hP : PowTab W) (hx : x.Ok W) (h : B4 W w c b y m) (hk : x.kd = 6) (hm : m + 24 ≤ 1073741824) :
    Calls Tryz.prog 7 #[.agg x.cells, .pointer (some ⟨b, 0, none⟩)] w (After W b (m + 24)) := by
  have hxw := hx.later h.bl
  have hPw := hP.later h.bl
  obtain ⟨kd, t, ⟨sh, cl, a, cp, ss, ca, pk, wi⟩, ⟨lo, hi⟩, ra, rc, rs, wa, wc, ws⟩ := x
  have hk : kd = 6 := hk
  subst hk
  have hsl : ss.length ≤ 1048576 := hx.cl
  have hrl : rs.length ≤ 1048576 := hx.rl
  have hwl : ws.length ≤ 1048576 := hx.wl
  obtain ⟨wA, hwA⟩ : ∃ wA, wA = w.alloc (.cells #[.int .i64 6, .string t, .int .i64 sh, .int .i64 cl, .slice a ss.length cp, .int .i64 ca, .int .i64 pk, .int .u64 wi, .string lo, .string hi, .slice ra rs.length rc, .slice wa ws.length wc] 53) := ⟨_, rfl⟩
  have hbA : Below w.heap.size w wA := by rw [hwA]; (repeat (first | with_reducible exact Below.refl _ _ | with_reducible assumption | with_reducible refine Below.drew ?_ | with_reducible refine Below.al ?_ _ | with_reducible refine Below.setCell ?_ (by first | exact Nat.le_refl _ | (simp; omega) | (simp; done)) _ | with_reducible refine Below.on ?_ (by assumption)))
  have HS0 : BoxX wA w.heap.size ⟨6, t, ⟨sh, cl, a, cp, ss, ca, pk, wi⟩, ⟨lo, hi⟩, ra, rc, rs, wa, wc, ws⟩ := by rw [hwA]; exact BoxX.new w ⟨6, t, ⟨sh, cl, a, cp, ss, ca, pk, wi⟩, ⟨lo, hi⟩, ra, rc, rs, wa, wc, ws⟩ _
  have TW := hid (twinX_is (hxw.c.later hbA) (show ss.length ≤ 8796093022208 by omega) (hPw.later hbA))
  have HX := hid hxw; have HP := hid hPw; have HB := hid h; have HBA := hid hbA; have HS0 := hid HS0
  clear hx h hP hxw hPw hbA
  go_enter Tryz.func7, Tryz.ntmps7
  go_wp2_with fail
  rw [← hwA]
  clear hwA
  refine TW.out.mono ?_
  rintro e w1 ⟨g, rfl, hrm, hg, hb1⟩
  obtain ⟨wB, hwB⟩ : ∃ wB, wB = w1.alloc (.cells #[.int .i64 sh, .int .i64 cl, .slice (some ⟨g, 0, none⟩) ss.length (ss.length + 2), .int .i64 ca, .int .i64 pk, .int .u64 wi] 26) := ⟨_, rfl⟩
  have hbB : Below w1.heap.size w1 wB := by rw [hwB]; (repeat (first | with_reducible exact Below.refl _ _ | with_reducible assumption | with_reducible refine Below.drew ?_ | with_reducible refine Below.al ?_ _ | with_reducible refine Below.setCell ?_ (by first | exact Nat.le_refl _ | (simp; omega) | (simp; done)) _ | with_reducible refine Below.on ?_ (by assumption)))
  have HC1 : Hid (BoxC wB w1.heap.size ⟨sh, cl, some ⟨g, 0, none⟩, ss.length + 2, ss, ca, pk, wi⟩) := hid (by rw [hwB]; exact BoxC.new w1 ⟨sh, cl, some ⟨g, 0, none⟩, ss.length + 2, ss, ca, pk, wi⟩ _)
  have HRM := hid (hrm.later hbB)
  have HWB : Hid (Below w.heap.size w wB) := hid (Below.on (Below.on HBA.out hb1) hbB)
  have HG : Hid (w.heap.size ≤ g) := hid (Nat.le_trans HBA.out.size hg)
  have HSB := hid ((HS0.out.later hb1).later hbB)
  have HOK : Hid (Cf.Ok ⟨sh, cl, some ⟨g, 0, none⟩, ss.length + 2, ss, ca, pk, wi⟩ wB) := hid ⟨HRM.out.row (xs := ss) (fun i hi => by unfold roomS; rw [if_pos hi]) (by omega), by simp; omega, HX.out.c.sh⟩
  have TC : Hid (∀ z, Below wB.heap.size wB z → Calls Tryz.prog 20 #[.agg #[.int .i64 sh, .int .i64 cl, .slice (some ⟨g, 0, none⟩) ss.length (ss.length + 2), .int .i64 ca, .int .i64 pk, .int .u64 wi], .agg #[.int .i64 6, .string t, .int .i64 sh, .int .i64 cl, .slice a ss.length cp, .int .i64 ca, .int .i64 pk, .int .u64 wi, .string lo, .string hi, .slice ra rs.length rc, .slice wa ws.length wc]] z fun e w' => e = .returned (.bool true) ∧ Below z.heap.size z w') := hid (fun z hb => by
    have := turnedC_is HX.out (Below.on HWB.out hb) HP.out (HRM.out.later hb) HG.out
    simp only [Cf.val, Sx.cells] at this
    exact this)
  have UC : Hid (∀ z, Below wB.heap.size wB z → Calls Tryz.prog 21 #[.agg #[.int .i64 sh, .int .i64 cl, .slice (some ⟨g, 0, none⟩) ss.length (ss.length + 2), .int .i64 ca, .int .i64 pk, .int .u64 wi], .agg #[.int .i64 sh, .int .i64 cl, .slice a ss.length cp, .int .i64 ca, .int .i64 pk, .int .u64 wi]] z fun e w' => e = .returned (.bool true) ∧ Below z.heap.size z w') := hid (fun z hb => by
    have := untC_is (c := ⟨sh, cl, a, cp, ss, ca, pk, wi⟩) (HRM.out.later hb) (HX.out.c.later (Below.on HWB.out hb)) (by show ss.length ≤ _; omega) (HP.out.later (Below.on HWB.out hb))
    simp only [Cf.val] at this
    exact this)
  clear hrm hg hb1 hbB TW
  obtain ⟨L, hL⟩ : ∃ L, L = Cf.cutA ⟨sh, cl, a, cp, ss, ca, pk, wi⟩ (lo, hi) := ⟨_, rfl⟩
  have HLL : Hid (L.length ≤ 1073741824) := hid (by rw [hL]; exact cutA_len _ _ (by show ss.length ≤ _; omega))
  have Q1 : Hid (∀ z, Below wB.heap.size wB z → Calls Tryz.prog 27 #[.agg #[.int .i64 sh, .int .i64 cl, .slice (some ⟨g, 0, none⟩) ss.length (ss.length + 2), .int .i64 ca, .int .i64 pk, .int .u64 wi], .agg #[.string lo, .string hi]] z fun e w' => ∃ a k, e = .returned (.slice a L.length k) ∧ Hid (RowF elA w' z.heap.size (.slice a L.length k) L) ∧ Below z.heap.size z w') := hid (fun z hb => by
    refine (Cut_is (c := ⟨sh, cl, some ⟨g, 0, none⟩, ss.length + 2, ss, ca, pk, wi⟩) (HOK.out.later hb) (lo, hi)).mono ?_
    rintro e w' ⟨v, rfl, ho, hb9⟩
    have ho : OwnP w' z.heap.size v L := by rw [hL]; exact ho
    obtain ⟨a, k, rfl⟩ := ownP_slice ho
    exact ⟨a, k, rfl, hid (owns_rowF okA ho), hb9⟩)
  have Q2 : Hid (∀ z, Below wB.heap.size wB z → Calls Tryz.prog 29 #[.agg #[.int .i64 sh, .int .i64 cl, .slice a ss.length cp, .int .i64 ca, .int .i64 pk, .int .u64 wi], .agg #[.string lo, .string hi]] z fun e w' => ∃ a k, e = .returned (.slice a L.length k) ∧ Hid (RowP w' a L) ∧ Below z.heap.size z w') := hid (fun z hb => by
    refine (rCut_is (c := ⟨sh, cl, a, cp, ss, ca, pk, wi⟩) (HX.out.c.later (Below.on HWB.out hb)) (lo, hi)).mono ?_
    rintro e w' ⟨v, rfl, ho, hb9⟩
    have ho : OwnP w' z.heap.size v L := by rw [hL]; exact ho
    obtain ⟨a, k, rfl, hr⟩ := ho.row
    exact ⟨a, k, rfl, hid hr, hb9⟩)
  have Q3 : Hid (∀ z a b k m, RowP z a L → RowP z b L → Calls Tryz.prog 28 #[.slice a L.length k, .slice b L.length m] z fun e w' => e = .returned (.bool true) ∧ Below z.heap.size z w') := hid (fun z a b k m h1 h2 => sameA_is h1 h2 (by have := HLL.out; omega))
  clear hL
  obtain ⟨c0, c1, c2, c3, c4, c5⟩ := HC1.out
  obtain ⟨s0, s1, s2, s3, s4, s5, s6, s7, s8, s9, s10, s11⟩ := HSB.out
  simp only at c0 c1 c2 c3 c4 c5 s0 s1 s2 s3 s4 s5 s6 s7 s8 s9 s10 s11
  rw [hwB] at c0 c1 c2 c3 c4 c5 s0 s8 s9
  go_wp2_with fail
  rw [← hwB] at c0 c1 c2 c3 c4 c5 s0 s8 s9 ⊢
  clear hwB
  refine (Q1.out wB (Below.refl _ _)).mono ?_
  rintro e w2 ⟨a2, k2, rfl, HR2, hb2⟩
  replace c0 := cell_later hb2 c0; replace c1 := cell_later hb2 c1; replace c2 := cell_later hb2 c2; replace c3 := cell_later hb2 c3; replace c4 := cell_later hb2 c4; replace c5 := cell_later hb2 c5; replace s0 := cell_later hb2 s0; replace s1 := cell_later hb2 s1; replace s2 := cell_later hb2 s2; replace s3 := cell_later hb2 s3; replace s4 := cell_later hb2 s4; replace s5 := cell_later hb2 s5; replace s6 := cell_later hb2 s6; replace s7 := cell_later hb2 s7; replace s8 := cell_later hb2 s8; replace s9 := cell_later hb2 s9; replace s10 := cell_later hb2 s10; replace s11 := cell_later hb2 s11
  have HB2 := hid hb2
  have Q22 := hid (Q2.out w2 hb2)
  clear hb2
  go_wp2_with (first | (go_at_call 29; refine Q22.out.mono ?_; rintro e w3 ⟨a3, k3, rfl, HR3, hb3⟩; replace c0 := cell_later hb3 c0; replace c1 := cell_later hb3 c1; replace c2 := cell_later hb3 c2; replace c3 := cell_later hb3 c3; replace c4 := cell_later hb3 c4; replace c5 := cell_later hb3 c5; replace s0 := cell_later hb3 s0; replace s1 := cell_later hb3 s1; replace s2 := cell_later hb3 s2; replace s3 := cell_later hb3 s3; replace s4 := cell_later hb3 s4; replace s5 := cell_later hb3 s5; replace s6 := cell_later hb3 s6; replace s7 := cell_later hb3 s7; replace s8 := cell_later hb3 s8; replace s9 := cell_later hb3 s9; replace s10 := cell_later hb3 s10; replace s11 := cell_later hb3 s11; have HB3 := hid (Below.on HB2.out hb3); have H23 := hid hb3; have Q33 := hid (Q3.out w3 a2 a3 k2 k3 (rowA_of (HR2.out.rd.later hb3)) HR3.out); clear hb3) | (go_at_call 28; refine Q33.out.mono ?_; rintro e w4 ⟨rfl, hb4⟩; replace c0 := cell_later hb4 c0; replace c1 := cell_later hb4 c1; replace c2 := cell_later hb4 c2; replace c3 := cell_later hb4 c3; replace c4 := cell_later hb4 c4; replace c5 := cell_later hb4 c5; replace s0 := cell_later hb4 s0; replace s1 := cell_later hb4 s1; replace s2 := cell_later hb4 s2; replace s3 := cell_later hb4 s3; replace s4 := cell_later hb4 s4; replace s5 := cell_later hb4 s5; replace s6 := cell_later hb4 s6; replace s7 := cell_later hb4 s7; replace s8 := cell_later hb4 s8; replace s9 := cell_later hb4 s9; replace s10 := cell_later hb4 s10; replace s11 := cell_later hb4 s11; have HB4 := hid (Below.on HB3.out hb4); have H24 := hid (Below.on H23.out hb4); have TC4 := hid (TC.out w4 HB4.out); clear hb4) | (go_at_call 20; refine TC4.out.mono ?_; rintro e w5 ⟨rfl, hb5⟩; replace c0 := cell_later hb5 c0; replace c1 := cell_later hb5 c1; replace c2 := cell_later hb5 c2; replace c3 := cell_later hb5 c3; replace c4 := cell_later hb5 c4; replace c5 := cell_later hb5 c5; replace s0 := cell_later hb5 s0; replace s1 := cell_later hb5 s1; replace s2 := cell_later hb5 s2; replace s3 := cell_later hb5 s3; replace s4 := cell_later hb5 s4; replace s5 := cell_later hb5 s5; replace s6 := cell_later hb5 s6; replace s7 := cell_later hb5 s7; replace s8 := cell_later hb5 s8; replace s9 := cell_later hb5 s9; replace s10 := cell_later hb5 s10; replace s11 := cell_later hb5 s11; have HB5 := hid (Below.on HB4.out hb5); have H25 := hid (Below.on H24.out hb5); have UC5 := hid (UC.out w5 HB5.out); clear hb5) | (go_at_call 21; refine UC5.out.mono ?_; rintro e w6 ⟨rfl, hb6⟩; replace c0 := cell_later hb6 c0; replace c1 := cell_later hb6 c1; replace c2 := cell_later hb6 c2; replace c3 := cell_later hb6 c3; replace c4 := cell_later hb6 c4; replace c5 := cell_later hb6 c5; replace s0 := cell_later hb6 s0; replace s1 := cell_later hb6 s1; replace s2 := cell_later hb6 s2; replace s3 := cell_later hb6 s3; replace s4 := cell_later hb6 s4; replace s5 := cell_later hb6 s5; replace s6 := cell_later hb6 s6; replace s7 := cell_later hb6 s7; replace s8 := cell_later hb6 s8; replace s9 := cell_later hb6 s9; replace s10 := cell_later hb6 s10; replace s11 := cell_later hb6 s11; have HB6 := hid (Below.on HB5.out hb6); have H26 := hid (Below.on H25.out hb6); have Q16 := hid (Q1.out w6 HB6.out); clear hb6))
  refine Q16.out.mono ?_
  rintro e w7 ⟨a7, k7, rfl, HR7, hb7⟩
  have H27 : Hid (Below w2.heap.size w2 w7) := hid (by
    exact Below.on H26.out hb7)
  have Q37 := hid (Q3.out w7 a7 a2 k7 k2 (rowA_of HR7.out.rd) (rowA_of (HR2.out.rd.later H27.out)))
  have H67 := hid hb7
  clear hb7
  go_wp2_with (first | (go_at_call 28; refine Q37.out.mono ?_; rintro e w8 ⟨rfl, hb8⟩; have H28 := hid (Below.on H27.out hb8); have H78 := hid hb8; have HT := hid (hand_two HB.out (Below.on HWB.out (Below.on HB6.out (Below.on H67.out hb8))) HR2.out H28.out HR7.out hb8 HWB.out.size H26.out.size HB2.out.size); clear hb8; obtain ⟨c9, hB9, hr9, hr10⟩ := HT.out; have K1 := hid (hB9.keepA hr9 (by decide) (by omega) HLL.out); have HR10 := hid hr10; clear hB9 hr9 hr10) | (have hgo := K1; clear hgo; go_at_call 30; refine K1.out.mono ?_; rintro e w9 ⟨rfl, HK9⟩; have HS9 := hid (show ∃ c6 x6, B4 W w9 c6 b x6 (m + 1) ∧ RwC elA w9 W.heap.size c6 36 (.slice a7 L.length k7) L by obtain ⟨c6, x6, hb6, hk6⟩ := HK9.out; exact ⟨c6, x6, hb6, hk6.row HR10.out (by decide) (by decide)⟩); clear K1))
  obtain ⟨c6, x6, hb6, hr6⟩ := HS9.out
  have K2 := hid (hb6.keepA hr6 (by decide) (by omega) HLL.out)
  clear hb6 hr6
  refine K2.out.mono ?_
  rintro e w10 ⟨rfl, HK10⟩
  have HE : Hid (∃ c' x', B4 W w10 c' b x' (m + 24)) := hid (by
    obtain ⟨c7, x7, hb7, hk7⟩ := HK10.out
    exact ⟨c7, x7, hb7.mono (by omega)⟩)
  go_wp2_with fail
  go_ret
  exact ⟨rfl, HE⟩
end Go.Proofs.YthenfioddnkjbaaGreatDoor.Bg
