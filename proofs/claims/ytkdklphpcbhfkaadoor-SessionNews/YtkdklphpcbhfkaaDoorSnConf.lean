import Derived.Test.YtkdklphpcbhfkaaDoorSnRefN
/- The law's conf and confLeft; what a session tells. -/
namespace Go.Proofs.YtkdklphpcbhfkaaDoor.Rt
open Go.RowKit Go.Sort Go.Shelf
set_option linter.unusedVariables false

abbrev Cf.atW (c : Cf) (a : Option Addr) (cp : Nat) : Cf := { c with a := a, cp := cp }
abbrev spare : ByteArray := ⟨#[115, 112, 97, 114, 101]⟩
/-- the texts and a mark behind them -/
def sprF (ss : List ByteArray) (i : Nat) : ByteArray := if i < ss.length then nthS ss i else spare

theorem BoxS.keep {w w' : World} {q B : Nat} {c : Cf} {v : Value} (h : BoxS w q c v) (hb : Below B w w') (hq : q < B) : BoxS w' q c v :=
  ⟨(hb.cell (p := ⟨q, 0, none⟩) hq).trans h.c0, (hb.cell (p := ⟨q, 1, none⟩) hq).trans h.c1, (hb.cell (p := ⟨q, 2, none⟩) hq).trans h.c2, (hb.cell (p := ⟨q, 3, none⟩) hq).trans h.c3, (hb.cell (p := ⟨q, 4, none⟩) hq).trans h.c4, (hb.cell (p := ⟨q, 5, none⟩) hq).trans h.c5, fun o => (hb.frozen (p := ⟨q, o, none⟩) hq).trans (h.fz o)⟩

set_option maxRecDepth 100000 in
set_option maxHeartbeats 4000000 in
theorem conf_is {c : Cf} {w : World} (h : c.Ok w) (hl : c.ss.length ≤ 8796093022208) :
    Calls Tryd.prog 4 #[c.val] w fun e w' => ∃ g, e = .returned (c.atW (some ⟨g, 0, none⟩) (c.ss.length + 1)).val ∧ Hid (CellsS w' g (sprF c.ss) (c.ss.length + 1)) ∧ Hid (Below w.heap.size w w') := by
  obtain ⟨sh, cl, a, cp, ss, ca, pk, wi⟩ := c
  simp only at hl
  obtain ⟨wA, hwA⟩ : ∃ wA, wA = (w.alloc (.cells #[.int .i64 sh, .int .i64 cl, .slice a ss.length cp, .int .i64 ca, .int .i64 pk, .int .u64 wi] 26)).alloc (.cells #[.int .i64 0, .int .i64 0, .slice none 0 0, .int .i64 0, .int .i64 0, .int .u64 0] 26) := ⟨_, rfl⟩
  have hbA : Below w.heap.size w wA := by rw [hwA]; (repeat (first | exact Below.refl _ _ | assumption | refine Below.drew ?_ | refine Below.al ?_ _ | refine Below.setCell ?_ (by first | exact Nat.le_refl _ | (simp; omega) | (simp; done)) _ | refine Below.on ?_ (by assumption)))
  have X1 : BoxS wA w.heap.size ⟨sh, cl, a, cp, ss, ca, pk, wi⟩ (.slice a ss.length cp) := by
    rw [hwA]
    have hb : BoxC (w.alloc (.cells #[.int .i64 sh, .int .i64 cl, .slice a ss.length cp, .int .i64 ca, .int .i64 pk, .int .u64 wi] 26)) w.heap.size ⟨sh, cl, a, cp, ss, ca, pk, wi⟩ := BoxC.new w ⟨sh, cl, a, cp, ss, ca, pk, wi⟩ _
    have hb2 := hb.later (Below.al (Below.refl _ _) (.cells #[.int .i64 0, .int .i64 0, .slice none 0 0, .int .i64 0, .int .i64 0, .int .u64 0] 26))
    exact ⟨hb2.c0, hb2.c1, hb2.c2, hb2.c3, hb2.c4, hb2.c5, fun o => by simp [go_sem]⟩
  have X2 : BoxS wA (w.heap.size + 1) ⟨0, 0, none, 0, [], 0, 0, 0⟩ (.slice none 0 0) := by
    rw [hwA]
    have hb := BoxC.new (w.alloc (.cells #[.int .i64 sh, .int .i64 cl, .slice a ss.length cp, .int .i64 ca, .int .i64 pk, .int .u64 wi] 26)) ⟨0, 0, none, 0, [], 0, 0, 0⟩ 26
    rw [World.size_alloc] at hb
    exact ⟨hb.c0, hb.c1, hb.c2, hb.c3, hb.c4, hb.c5, fun o => by simp [go_sem]⟩
  have hmk := make_tx wA (ss.length + 1) (by omega)
  rw [show ((ss.length + 1 : Nat) : Int) = (ss.length : Int) + 1 by omega] at hmk
  obtain ⟨wB, hwB⟩ : ∃ wB, wB = wA.alloc (.cells (madeCells (Value.string ⟨#[]⟩).cells (ss.length + 1)) 9) := ⟨_, rfl⟩
  obtain ⟨G, hG⟩ : ∃ G, G = wA.heap.size := ⟨_, rfl⟩
  have hcB := madeS wA (ss.length + 1)
  have hbB : Below wA.heap.size wA wB := by rw [hwB]; exact Below.al (Below.refl _ _) _
  have hfB : ∀ o, wB.frozen? ⟨G, o, none⟩ = false := fun o => by rw [hwB, hG]; simp [go_sem]
  rw [← hwB, ← hG] at hmk hcB
  have HX1 := hid (X1.later hbB)
  have HX2 := hid (X2.later hbB)
  have HCB := hid hcB
  have HFB := hid hfB
  have HBB := hid (Below.on hbA hbB)
  have HGW : Hid (w.heap.size + 1 < G) := hid (by rw [hG]; exact X2.lt)
  have HRW := hid h.row
  have hx2 := X1.c2
  clear hcB hbB hfB X1 X2 h hG hwB hx2
  go_enter Tryd.func4, Tryd.ntmps4
  rw [hwA] at hmk
  clear hwA hbA
  go_wp2_with fail
  go_loopg [4] ss.length (fun gg s4 wr => ∃ (k : Nat) (f : Nat → ByteArray), k ≤ ss.length ∧ gg = ss.length - k ∧ s4 = .int .i64 k ∧ Hid (CellsS wr G f (ss.length + 1)) ∧ Hid (∀ i, i < k → f i = nthS ss i) ∧ Hid (∀ o, wr.frozen? ⟨G, o, none⟩ = false) ∧ Hid (Below G wB wr))
  case atStart => exact ⟨0, fun _ => mt, by omega, by omega, rfl, HCB, hid (fun i hi => by omega), HFB, hid (Below.refl _ _)⟩
  case round =>
    obtain ⟨k, f, hk, rfl, rfl, HC, HF, HZ, HB⟩ := hrel
    have HY1 : Hid (BoxS wr w.heap.size ⟨sh, cl, a, cp, ss, ca, pk, wi⟩ (.slice a ss.length cp)) := hid (HX1.out.keep HB.out (by have := HGW.out; omega))
    have HY2 : Hid (BoxS wr (w.heap.size + 1) ⟨0, 0, none, 0, [], 0, 0, 0⟩ (.slice none 0 0)) := hid (HX2.out.keep HB.out HGW.out)
    have HBW : Hid (Below w.heap.size w wr) := hid (HBB.out.trans (HB.out.mono (by have := HGW.out; omega)))
    have x2 := HY1.out.c2
    clear hmk
    by_cases hlt : k < ss.length
    · obtain ⟨b, off, rfl, cell⟩ := (HRW.out.later HBW.out) k hlt
      have d0 := HC.out k (by omega)
      have f0 := HZ.out k
      go_wp2_with fail
      go_roundg (ss.length - (k + 1))
      case measure => omega
      case rel =>
        refine ⟨k + 1, putS f k (nthS ss k), by omega, rfl, by go_num, hid (HC.out.put (by omega) _), hid (fun i hi => ?_), hid (fun o => by simpa using HZ.out o), hid (Below.setCell HB.out (Nat.le_refl _) _)⟩
        by_cases e : i = k
        · subst e; simp [putS]
        · simp only [putS, e, if_false]; exact HF.out i (by omega)
    · obtain rfl : k = ss.length := by omega
      have d0 := HC.out ss.length (by omega)
      have f0 := HZ.out ss.length
      have HC2 := hid (HC.out.put (k := ss.length) (by omega) spare)
      have HP : Hid (CellsS (wr.setCell ⟨G, ss.length, none⟩ (.string spare)) G (sprF ss) (ss.length + 1)) := hid (fun i hi => by
        have := HC2.out i hi
        rw [this]
        by_cases e : i = ss.length
        · subst e; simp [putS, sprF]
        · simp only [putS, e, if_false]
          rw [HF.out i (by omega), sprF, if_pos (by omega)])
      have hgg : (⟨w.heap.size, 2, none⟩ : Addr) ≠ ⟨G, ss.length, none⟩ := by have := HGW.out; simp only [ne_eq, Addr.mk.injEq]; omega
      have HB2 : Hid (Below G wB (wr.setCell ⟨G, ss.length, none⟩ (.string spare))) := hid (Below.setCell HB.out (Nat.le_refl _) _)
      have HZ1 : Hid (BoxS (wr.setCell ⟨G, ss.length, none⟩ (.string spare)) w.heap.size ⟨sh, cl, a, cp, ss, ca, pk, wi⟩ (.slice a ss.length cp)) := hid (HX1.out.keep HB2.out (by have := HGW.out; omega))
      have HZ2 : Hid (BoxS (wr.setCell ⟨G, ss.length, none⟩ (.string spare)) (w.heap.size + 1) ⟨0, 0, none, 0, [], 0, 0, 0⟩ (.slice none 0 0)) := hid (HX2.out.keep HB2.out HGW.out)
      go_upto_region 7 with fail
      generalize wr.setCell ⟨G, ss.length, none⟩ (.string spare) = w5 at HP HB2 HZ1 HZ2 ⊢
      have y2 := HZ1.out.c2
      have z2 := HZ1.out.fz 2
      have HT1 := hid (HZ1.out.put (.slice (some ⟨G, 0, none⟩) ss.length (ss.length + 1)))
      have HT2 : Hid (BoxS (w5.setCell ⟨w.heap.size, 2, none⟩ (.slice (some ⟨G, 0, none⟩) ss.length (ss.length + 1))) (w.heap.size + 1) ⟨0, 0, none, 0, [], 0, 0, 0⟩ (.slice none 0 0)) := hid ⟨cell_setc (by simp) HZ2.out.c0, cell_setc (by simp) HZ2.out.c1, cell_setc (by simp) HZ2.out.c2, cell_setc (by simp) HZ2.out.c3, cell_setc (by simp) HZ2.out.c4, cell_setc (by simp) HZ2.out.c5, fun o => by simpa using HZ2.out.fz o⟩
      have HP2 : Hid (CellsS (w5.setCell ⟨w.heap.size, 2, none⟩ (.slice (some ⟨G, 0, none⟩) ss.length (ss.length + 1))) G (sprF ss) (ss.length + 1)) := hid (fun i hi => cell_setc (by have := HGW.out; simp only [ne_eq, Addr.mk.injEq]; omega) (HP.out i hi))
      have HB3 : Hid (Below w.heap.size w (w5.setCell ⟨w.heap.size, 2, none⟩ (.slice (some ⟨G, 0, none⟩) ss.length (ss.length + 1)))) := hid (Below.setCell (HBB.out.trans (HB2.out.mono (by have := HGW.out; omega))) (Nat.le_refl _) _)
      go_upto_region 8 with fail
      generalize w5.setCell ⟨w.heap.size, 2, none⟩ (.slice (some ⟨G, 0, none⟩) ss.length (ss.length + 1)) = w6 at HT1 HT2 HP2 HB3 ⊢
      obtain ⟨p0, p1, p2, p3, p4, p5, pf⟩ := HT1.out
      obtain ⟨q0, q1, q2, q3, q4, q5, qf⟩ := HT2.out
      simp only at p0 p1 p3 p4 p5 q0 q1 q3 q4 q5
      have HC6 : Hid (CellsS ((((((w6.setCell ⟨w.heap.size + 1, 0, none⟩ (.int .i64 sh)).setCell ⟨w.heap.size + 1, 1, none⟩ (.int .i64 cl)).setCell ⟨w.heap.size + 1, 2, none⟩ (.slice (some ⟨G, 0, none⟩) ss.length (ss.length + 1))).setCell ⟨w.heap.size + 1, 3, none⟩ (.int .i64 ca)).setCell ⟨w.heap.size + 1, 4, none⟩ (.int .i64 pk)).setCell ⟨w.heap.size + 1, 5, none⟩ (.int .u64 wi)) G (sprF ss) (ss.length + 1)) := hid (fun i hi => by
        have hne : ∀ o, (⟨G, i, none⟩ : Addr) ≠ ⟨w.heap.size + 1, o, none⟩ := fun o => by have := HGW.out; simp only [ne_eq, Addr.mk.injEq]; omega
        exact cell_setc (hne 5) (cell_setc (hne 4) (cell_setc (hne 3) (cell_setc (hne 2) (cell_setc (hne 1) (cell_setc (hne 0) (HP2.out i hi)))))))
      have hle : w.heap.size ≤ w.heap.size + 1 := Nat.le_succ _
      have HB6 : Hid (Below w.heap.size w ((((((w6.setCell ⟨w.heap.size + 1, 0, none⟩ (.int .i64 sh)).setCell ⟨w.heap.size + 1, 1, none⟩ (.int .i64 cl)).setCell ⟨w.heap.size + 1, 2, none⟩ (.slice (some ⟨G, 0, none⟩) ss.length (ss.length + 1))).setCell ⟨w.heap.size + 1, 3, none⟩ (.int .i64 ca)).setCell ⟨w.heap.size + 1, 4, none⟩ (.int .i64 pk)).setCell ⟨w.heap.size + 1, 5, none⟩ (.int .u64 wi))) := hid (Below.setCell (Below.setCell (Below.setCell (Below.setCell (Below.setCell (Below.setCell HB3.out hle _) hle _) hle _) hle _) hle _) hle _)
      go_wp2_with fail
      refine bodyPost_ret (v := .agg #[.int .i64 sh, .int .i64 cl, .slice (some ⟨G, 0, none⟩) ss.length (ss.length + 1), .int .i64 ca, .int .i64 pk, .int .u64 wi]) (by simp [results, Tryd.results4, go_sem, q0, q1, q2, q3, q4, q5]) rfl ?_
      exact ⟨G, rfl, HC6, HB6⟩
end Go.Proofs.YtkdklphpcbhfkaaDoor.Rt
