import Derived.Test.YtofpaldolcnmiaaGreatB42
set_option linter.unusedVariables false
set_option maxHeartbeats 40000000
namespace Go.Proofs.YtofpaldolcnmiaaGreat.Ig
open Go.RowKit Go.Sort
set_option maxRecDepth 100000 in
theorem dread_is {w : World} {S r : List Nat} {c : Im} (h8 : B8 S) (hSl : S.length ≤ 1099511627776) (hv : dImg (.at S) = (c, .at r)) :
  Calls Tryz.prog 51 #[.string (ofNats S)] w fun e w' => e = .returned (.pointer (some ⟨w.heap.size + 1, 0, none⟩)) ∧ (∃ U : List Lk.Hv, Hid (U.map Lk.Hv.h = c.2.2.2.1) ∧ Hid (Dst w' (w.heap.size + 1 + 1) (w.heap.size + 1) c.1 c.2.1 c.2.2.1 U c.2.2.2.2.1 c.2.2.2.2.2)) ∧ Hid (Below w.heap.size w w') := by
 obtain ⟨i8, hi8, hz80, hz81, hz82⟩ := ifz infoT8; obtain ⟨i7, hi7, hz70, hz71, hz72⟩ := ifz infoT7; obtain ⟨i6, hi6, hz60, hz61, hz62⟩ := ifz infoT6; obtain ⟨n0, hn0⟩ : ∃ y, y = vNum S := ⟨_, rfl⟩; obtain ⟨n1, hn1⟩ : ∃ y, y = vNum n0.2 := ⟨_, rfl⟩; obtain ⟨x1, hx1⟩ : ∃ y, y = vStamp n1.2 := ⟨_, rfl⟩; obtain ⟨n2, hn2⟩ : ∃ y, y = vNum x1.2 := ⟨_, rfl⟩; obtain ⟨xH, l2, e2⟩ : ∃ y t, tN dHeld n2.1 (.at n2.2) = (y, .at t) := tN_at (fun l => by obtain ⟨x, r, h, _⟩ := held_takes l; exact ⟨x, r, h⟩) _ _; obtain ⟨n3, hn3⟩ : ∃ y, y = vNum l2 := ⟨_, rfl⟩; obtain ⟨xE, l3, e3⟩ : ∃ y t, tN dEntry n3.1 (.at n3.2) = (y, .at t) := tN_at (fun l => by obtain ⟨x0, l0, e0⟩ := at_txn l; exact ⟨_, _, entry_takes e0⟩) _ _; obtain ⟨n4, hn4⟩ : ∃ y, y = vNum l3 := ⟨_, rfl⟩; obtain ⟨xV, l4, e4⟩ : ∃ y t, tN dVersion n4.1 (.at n4.2) = (y, .at t) := tN_at (fun l => ⟨_, _, version_takes l⟩) _ _
 have hE : dImg (.at S) = ((((n0.1 % 4294967296 : Nat) : Int), ((n1.1 : Nat) : Int), ⟨x1.1.w, x1.1.l, x1.1.n⟩, xH, xE, xV), .at l4) := by
  have q0 : dU32 (.at S) = (((n0.1 % 4294967296 : Nat) : Int), .at n0.2) := by rw [hn0]; rfl
  have q1 : dU64 (.at n0.2) = (((n1.1 : Nat) : Int), .at n1.2) := by rw [hn1]; rfl
  have q2 : dS (.at n1.2) = (⟨x1.1.w, x1.1.l, x1.1.n⟩, .at x1.2) := by rw [hx1]; rfl
  have q3 : dL dHeld (.at x1.2) = (xH, .at l2) := by
   have : dVar (.at x1.2) = (n2.1, .at n2.2) := by rw [hn2]; rfl
   unfold dL; rw [this, e2]
  have q4 : dL dEntry (.at l2) = (xE, .at l3) := by
   have : dVar (.at l2) = (n3.1, .at n3.2) := by rw [hn3]; rfl
   unfold dL; rw [this, e3]
  have q5 : dL dVersion (.at l3) = (xV, .at l4) := by
   have : dVar (.at l3) = (n4.1, .at n4.2) := by rw [hn4]; rfl
   unfold dL; rw [this, e4]
  simp only [dImg, tP, q0, q1, q2, q3, q4, q5]
 rw [hv] at hE; simp only [Prod.mk.injEq, Ds.at.injEq] at hE; obtain ⟨hc, rfl⟩ := hE; subst hc; simp only; have hn2l : n2.1 < 18446744073709551616 := by rw [hn2]; exact vNum_lt _
 have hn3l : n3.1 < 18446744073709551616 := by rw [hn3]; exact vNum_lt _
 have hn4l : n4.1 < 18446744073709551616 := by rw [hn4]; exact vNum_lt _
 clear hv; have HN0 := hid hn0; have HN1 := hid hn1; have HX1 := hid hx1; have HN2 := hid hn2; have E2 := hid e2; have HN3 := hid hn3; have E3 := hid e3; have HN4 := hid hn4; have E4 := hid e4; obtain ⟨n0, m0⟩ := n0; obtain ⟨n1, m1⟩ := n1; obtain ⟨x1, m2⟩ := x1; obtain ⟨n2, m3⟩ := n2; obtain ⟨n3, m4⟩ := n3; obtain ⟨n4, m5⟩ := n4; simp only at hn2l hn3l hn4l; clear hn0 hn1 hx1 hn2 e2 hn3 e3 hn4 e4; have ew0 : IntKind.u32.wrap (n0 : Int) = ((n0 % 4294967296 : Nat) : Int) := by rw [wrap_u32_eq]; omega
 generalize n0 % 4294967296 = nd at *
 obtain ⟨wa, hwa⟩ : ∃ wa, wa = (w.alloc (.cells #[.string (ofNats S), .int .i64 0] 157)).alloc (.cells #[.int .u32 0, .int .u64 0, .int .u64 0, .int .u32 0, .int .u32 0, .slice none 0 0, .slice none 0 0, .slice none 0 0] 112) := ⟨_, rfl⟩; have hpq : w.heap.size < (w.heap.size + 1) := by omega
 have hq0 : w.heap.size ≤ (w.heap.size + 1) := by omega
 have hp0 : w.heap.size ≤ w.heap.size := by omega
 have H0 : Hid (Hr w wa w.heap.size S S (w.heap.size + 1) 112 #[.int .u32 0, .int .u64 0, .int .u64 0, .int .u32 0, .int .u32 0, .slice none 0 0, .slice none 0 0, .slice none 0 0]) := by
  refine hid ⟨⟨⟨0, ?_, by omega, rfl⟩, h8, hSl⟩, ?_, ?_⟩
  ·rw [hwa, Below.heap_alloc _ _ _ (by simp)]; exact World.alloc_heap_new _ _
  ·rw [hwa]; have := World.alloc_heap_new (w.alloc (.cells #[.string (ofNats S), .int .i64 0] 157)) (.cells #[.int .u32 0, .int .u64 0, .int .u64 0, .int .u32 0, .int .u32 0, .slice none 0 0, .slice none 0 0, .slice none 0 0] 112); simpa using this
  ·rw [hwa]; exact Below.al (Below.al (Below.refl _ _) _) _
 clear h8; go_enter Tryz.func51, Tryz.ntmps51
 go_upto_region 3 with fail
 rw [← hwa]; clear hwa; have CN := hid (vnum_is H0.out.vw); rw [← HN0.out] at CN; go_wp2_with fail
 refine CN.out.mono ?_; rintro e w1 ⟨rfl, hv1, ho1⟩; have H1 := hid (H0.out.step hv1 ho1 (by omega) hp0); clear hv1 ho1 CN H0; have z : w1.cell? ⟨w.heap.size + 1, 0, none⟩ = some (.int .u32 0) := by rw [Lib.cell_of_heap H1.out.box]; rfl
 have zf : w1.frozen? ⟨w.heap.size + 1, 0, none⟩ = false := Lib.frozen_of_heap H1.out.box 0; have H2 : Hid (Hr w (w1.setCell ⟨w.heap.size + 1, 0, none⟩ (.int .u32 (nd : Int))) w.heap.size S m0 (w.heap.size + 1) 112 #[.int .u32 (nd : Int), .int .u64 0, .int .u64 0, .int .u32 0, .int .u32 0, .slice none 0 0, .slice none 0 0, .slice none 0 0]) := hid (H1.out.put (by omega) hq0 0 _); clear H1; go_upto_region 4 with fail
 generalize w1.setCell ⟨w.heap.size + 1, 0, none⟩ (.int .u32 (nd : Int)) = w2 at H2 ⊢
 clear z zf; have CN := hid (vnum_is H2.out.vw); rw [← HN1.out] at CN; go_wp2_with fail
 refine CN.out.mono ?_; rintro e w3 ⟨rfl, hv1, ho1⟩; have H3 := hid (H2.out.step hv1 ho1 (by omega) hp0); clear hv1 ho1 CN H2; have z : w3.cell? ⟨w.heap.size + 1, 1, none⟩ = some (.int .u64 0) := by rw [Lib.cell_of_heap H3.out.box]; rfl
 have zf : w3.frozen? ⟨w.heap.size + 1, 1, none⟩ = false := Lib.frozen_of_heap H3.out.box 1; have H4 : Hid (Hr w (w3.setCell ⟨w.heap.size + 1, 1, none⟩ (.int .u64 (n1 : Int))) w.heap.size S m1 (w.heap.size + 1) 112 #[.int .u32 (nd : Int), .int .u64 (n1 : Int), .int .u64 0, .int .u32 0, .int .u32 0, .slice none 0 0, .slice none 0 0, .slice none 0 0]) := hid (H3.out.put (by omega) hq0 1 _); clear H3; go_upto_region 5 with fail
 generalize w3.setCell ⟨w.heap.size + 1, 1, none⟩ (.int .u64 (n1 : Int)) = w4 at H4 ⊢
 clear z zf; have CS := hid (vstamp_is H4.out.vw); rw [← HX1.out] at CS; go_wp2_with fail
 refine CS.out.mono ?_; rintro e w5 ⟨rfl, hv1, ho1⟩; have H5 := hid (H4.out.step hv1 ho1 (by omega) hp0); clear hv1 ho1 CS H4; have z3 : w5.cell? ⟨w.heap.size + 1, 2, none⟩ = some (.int .u64 0) := by rw [Lib.cell_of_heap H5.out.box]; rfl
 have z4 : w5.cell? ⟨w.heap.size + 1, 3, none⟩ = some (.int .u32 0) := by rw [Lib.cell_of_heap H5.out.box]; rfl
 have z5 : w5.cell? ⟨w.heap.size + 1, 4, none⟩ = some (.int .u32 0) := by rw [Lib.cell_of_heap H5.out.box]; rfl
 have zf : ∀ j, w5.frozen? ⟨w.heap.size + 1, j, none⟩ = false := fun j => Lib.frozen_of_heap H5.out.box j
 have H6 : Hid (Hr w (((w5.setCell ⟨w.heap.size + 1, 2, none⟩ (.int .u64 x1.w)).setCell ⟨w.heap.size + 1, 3, none⟩ (.int .u32 x1.l)).setCell ⟨w.heap.size + 1, 4, none⟩ (.int .u32 x1.n)) w.heap.size S m2 (w.heap.size + 1) 112 #[.int .u32 (nd : Int), .int .u64 (n1 : Int), .int .u64 x1.w, .int .u32 x1.l, .int .u32 x1.n, .slice none 0 0, .slice none 0 0, .slice none 0 0]) :=
  hid (((H5.out.put (by omega) hq0 2 _).put (by omega) hq0 3 _).put (by omega) hq0 4 _)
 clear H5; go_upto_region 6 with fail
 generalize (((w5.setCell ⟨w.heap.size + 1, 2, none⟩ (.int .u64 x1.w)).setCell ⟨w.heap.size + 1, 3, none⟩ (.int .u32 x1.l)).setCell ⟨w.heap.size + 1, 4, none⟩ (.int .u32 x1.n)) = w6 at H6 ⊢
 clear z3 z4 z5 zf; have CN := hid (vnum_is H6.out.vw); rw [← HN2.out] at CN; go_wp2_with fail
 refine CN.out.mono ?_; rintro e w7 ⟨rfl, hv1, ho1⟩; have H7 := hid (H6.out.step hv1 ho1 (by omega) hp0); have hl3 : m3.length ≤ 1099511627776 := hv1.bl.2; clear hv1 ho1 CN H6; go_wp2_with fail
 go_loopg [6] n2 (fun g s7 wr => ∃ (i : Nat) (ys : List Lk.Hv) (l' : List Nat) (a : Option Addr) (c : Nat), i ≤ n2 ∧ g = n2 - i ∧ s7 = .int .u64 (i : Int) ∧ Hid (Hr w wr w.heap.size S l' (w.heap.size + 1) 112 #[.int .u32 (nd : Int), .int .u64 (n1 : Int), .int .u64 x1.w, .int .u32 x1.l, .int .u32 x1.n, .slice a ys.length c, .slice none 0 0, .slice none 0 0]) ∧ Hid (Lk.OwnH ((w.heap.size + 1) + 1) wr (.slice a ys.length c) ys.length ys) ∧ Hid ((xH, Ds.at l2) = (ys.map Lk.Hv.h ++ (tN dHeld (n2 - i) (.at l')).1, (tN dHeld (n2 - i) (.at l')).2)) ∧ Hid (ys.length + l'.length ≤ m3.length) ∧ Hid (∀ u ∈ ys, u.fresh ((w.heap.size + 1) + 1) wr))
 case atStart => exact ⟨0, [], m3, none, 0, by omega, by omega, rfl, H7, World.ownsRow_nil _ _ _ _, hid (by rw [Nat.sub_zero, E2.out]; rfl), hid (by simp), hid (fun u hu => by cases hu)⟩
 case round =>
  clear H7; obtain ⟨i, ys, l', a, c, hi, rfl, rfl, HQ, HO, HT, HY, HF⟩ := hrel; have HL := hid (vleft_is HQ.out.vw); obtain ⟨u, hu⟩ : ∃ u : Bool, u = decide (i < n2 ∧ l' ≠ []) := ⟨_, rfl⟩; have HU := hid hu; clear hu; go_upto_region 8 with fail
  go_cut [46] (fun s33 wz => s33 = .bool u ∧ Hid (Hr w wz w.heap.size S l' (w.heap.size + 1) 112 #[.int .u32 (nd : Int), .int .u64 (n1 : Int), .int .u64 x1.w, .int .u32 x1.l, .int .u32 x1.n, .slice a ys.length c, .slice none 0 0, .slice none 0 0]) ∧ Hid (Lk.OwnH ((w.heap.size + 1) + 1) wz (.slice a ys.length c) ys.length ys) ∧ Hid (∀ u ∈ ys, u.fresh ((w.heap.size + 1) + 1) wz))
  case first =>
   by_cases hlt : i < n2
   ·have d1 : decide ((i : Int) < (n2 : Int)) = true := by simp; omega
    go_wp2_with fail
    refine HL.out.mono ?_; rintro e w6 ⟨rfl, rfl⟩; go_wp2_with fail
    go_meet
    exact ⟨by rw [HU.out]; simp [hlt], hid HQ.out.drew, HO, hid (fun u hu => ⟨(HF.out u hu).r, (HF.out u hu).w⟩)⟩
   ·have d1 : decide ((i : Int) < (n2 : Int)) = false := by simp; omega
    go_wp2_with fail
    go_meet
    exact ⟨by rw [HU.out]; simp [hlt], HQ, HO, HF⟩
  case rest =>
   clear HQ HO HL HF; obtain ⟨rfl, HQ, HO, HF⟩ := hcut; cases u with
   | true =>
    have hgo : i < n2 ∧ l' ≠ [] := of_decide_eq_true HU.out.symm; have hN : n2 - i = (n2 - (i + 1)) + 1 := by omega
    have HG := hid hgo; obtain ⟨x, l9, ex, hx9⟩ := held_takes l'; have hx9 := hx9 hgo.2; have HE : Hid ((tN dHeld (n2 - i) (.at l')).1 = x :: (tN dHeld (n2 - (i + 1)) (.at l9)).1 ∧ (tN dHeld (n2 - i) (.at l')).2 = (tN dHeld (n2 - (i + 1)) (.at l9)).2) := hid (by
     have h1 := tN_more (t := dHeld) (m := n2 - (i + 1)) (d := .at l') (d1 := .at l9) (x := x) (by intro h0; exact hgo.2 (List.eq_nil_of_length_eq_zero h0)) ex; rw [← hN] at h1; rw [h1]; exact ⟨rfl, rfl⟩)
    have CH := hid (dheld_is HQ.out.drew.vw ex); have hyl : ys.length + 1 ≤ 1099511627776 := by have := HY.out; omega
    have z5 : wc.cell? ⟨w.heap.size + 1, 5, none⟩ = some (.slice a ys.length c) := by rw [Lib.cell_of_heap HQ.out.box]; rfl
    have hbq : (w.heap.size + 1) + 1 ≤ wc.heap.size := (Array.getElem?_eq_some_iff.1 HQ.out.box).1; have HOd : Hid (Lk.OwnH ((w.heap.size + 1) + 1) wc.drew (.slice a ys.length c) ys.length ys) := HO; have HFd : Hid (∀ u ∈ ys, u.fresh ((w.heap.size + 1) + 1) wc.drew) := hid (fun u hu => ⟨(HF.out u hu).r, (HF.out u hu).w⟩); clear ex hgo; go_upto_region 10 with fail
    go_region_law (first
     | (go_simp
        go_at_call 99
        refine CH.out.mono ?_; rintro e w7 ⟨v, rfl, HVX, HVF, hv7, ho7⟩; have HQ7 := hid (HQ.out.drew.step hv7 ho7 (by omega) hp0); have HO7 := hid (own_hq HOd.out ho7 (by omega)); have z57 : w7.cell? ⟨w.heap.size + 1, 5, none⟩ = some (.slice a ys.length c) := (by rw [Lib.cell_of_heap HQ7.out.box]; rfl); obtain ⟨wA, hwA⟩ : ∃ wA, wA = w7.alloc (.cells #[.int .u32 v.h.id.1, .int .u32 v.h.id.2, .int .u32 v.h.home, .int .u64 v.h.w, .int .u32 v.h.l, .int .u32 v.h.n, .slice v.ra v.h.rs.length v.rc, .slice v.wa v.h.ws.length v.wc] 100) := ⟨_, rfl⟩; have kA : wA.heap[w7.heap.size]? = some (.cells #[.int .u32 v.h.id.1, .int .u32 v.h.id.2, .int .u32 v.h.home, .int .u64 v.h.w, .int .u32 v.h.l, .int .u32 v.h.n, .slice v.ra v.h.rs.length v.rc, .slice v.wa v.h.ws.length v.wc] 100 (0, 0)) := (by rw [hwA]; exact World.alloc_heap_new _ _)
        have hbA : Below w7.heap.size w7 wA := (by rw [hwA]; exact Below.al (Below.refl _ _) _); have HQA := hid (HQ7.out.later hbA); have zA : (w7.alloc (.cells #[.int .u32 v.h.id.1, .int .u32 v.h.id.2, .int .u32 v.h.home, .int .u64 v.h.w, .int .u32 v.h.l, .int .u32 v.h.n, .slice v.ra v.h.rs.length v.rc, .slice v.wa v.h.ws.length v.wc] 100)).cell? ⟨w.heap.size + 1, 5, none⟩ = some (.slice a ys.length c) := (by rw [← hwA, Lib.cell_of_heap HQA.out.box]; rfl); have HOA : Hid (Lk.OwnH ((w.heap.size + 1) + 1) wA (.slice a ys.length c) ys.length ys) := hid (by rw [hwA]; exact own_al HO7.out _); have HFA : Hid (∀ u ∈ ys ++ [v], u.fresh ((w.heap.size + 1) + 1) wA) := hid (fun u hu => (by
          rcases List.mem_append.1 hu with hu | hu
          · exact (fresh_onl (HFd.out u hu) ho7 (by omega)).later hbA
          · rw [List.mem_singleton] at hu
            subst hu; exact (fresh_base HVF.out hbq).later hbA))
        obtain ⟨v2, wB, hr, hown, hgrow, -⟩ := run_append_own (P := Tryz.prog) (w := wA) ((w.heap.size + 1) + 1) 58 58 100 i8 _ 8 80 Tryz.underlying58 hi8 hz80 hz81 hz82 rfl (by decide) (.slice a ys.length c) ys.length (ys.flatMap Lk.hcs) HOA.out ⟨w7.heap.size, 0, none⟩ 1 1 (Lk.hcs v) rfl (fun j u hj => (by rw [Addr.add_lit, Nat.zero_add]; exact Vs.cob kA (by simpa using hj))) (Lk.hcs_one v) (by unfold maxLen; omega) (by omega) (Nat.le_trans hbq (Nat.le_trans (show wc.drew.heap.size ≤ w7.heap.size from ho7.size) hbA.size)); obtain ⟨a2, cc2, rfl⟩ := ows hown; have HQB := hid (HQA.out.grown hgrow (fun g hg => (HOA.out.lt g hg).1) hpq hq0); have HFB : Hid (∀ u ∈ ys ++ [v], u.fresh ((w.heap.size + 1) + 1) wB) := hid (fun u hu => fresh_other (HFA.out u hu) HOA.out (by decide) (by decide) hgrow)
        have HOB : Hid (Lk.OwnH ((w.heap.size + 1) + 1) wB (.slice a2 (ys.length + 1) cc2) (ys.length + 1) (ys ++ [v])) := hid (by show World.ownsRow _ _ _ _ _ _ _; rw [List.flatMap_append]; simpa using hown); have zB : wB.cell? ⟨w.heap.size + 1, 5, none⟩ = some (.slice a ys.length c) := (by rw [Lib.cell_of_heap HQB.out.box]; rfl); have fB : wB.frozen? ⟨w.heap.size + 1, 5, none⟩ = false := Lib.frozen_of_heap HQB.out.box 5; have HQC : Hid (Hr w (wB.setCell ⟨w.heap.size + 1, 5, none⟩ (.slice a2 (ys.length + 1) cc2)) w.heap.size S l9 (w.heap.size + 1) 112 #[.int .u32 (nd : Int), .int .u64 (n1 : Int), .int .u64 x1.w, .int .u32 x1.l, .int .u32 x1.n, .slice a2 (ys.length + 1) cc2, .slice none 0 0, .slice none 0 0]) := hid (HQB.out.put (by omega) hq0 5 _)
        have HOC : Hid (Lk.OwnH ((w.heap.size + 1) + 1) (wB.setCell ⟨w.heap.size + 1, 5, none⟩ (.slice a2 (ys.length + 1) cc2)) (.slice a2 (ys.length + 1) cc2) (ys.length + 1) (ys ++ [v])) := hid (own_set HOB.out (by omega)); have HFC : Hid (∀ u ∈ ys ++ [v], u.fresh ((w.heap.size + 1) + 1) (wB.setCell ⟨w.heap.size + 1, 5, none⟩ (.slice a2 (ys.length + 1) cc2))) := hid (fun u hu => fresh_set (HFB.out u hu) (by omega)); rw [hwA] at hr; have HRR := hid hr; clear hr hown hgrow hwA kA hbA HQA HOA HFA HQB HFB HOB hv7 ho7 HQ7 HO7)
     | refine step_append_runR rfl (.tmp 53) (.tmp 56) 58 58 rfl (.slice a ys.length c) (.slice (some ⟨_, 0, none⟩) 1 1) (by simp [Act.eval]) (by simp [Act.eval]) HRR.out ?_)
    all_goals
     have hlen : (ys ++ [v]).length = ys.length + 1 := by simp
     have HTC : Hid ((xH, Ds.at l2) = ((ys ++ [v]).map Lk.Hv.h ++ (tN dHeld (n2 - (i + 1)) (.at l9)).1, (tN dHeld (n2 - (i + 1)) (.at l9)).2)) := hid (by rw [HT.out, HE.out.1, HE.out.2]; simp [HVX.out]); have kw : IntKind.u64.wrap ((i : Int) + 1) = ((i + 1 : Nat) : Int) := by have := HG.out.1; rw [IntKind.wrap_u64]; omega
     clear HQ HO HF HOd HFd HT HE CH z5; go_wp2_with fail
     go_roundg (n2 - (i + 1))
     case measure => have := HG.out.1; omega
     case rel => exact ⟨i + 1, ys ++ [v], l9, a2, cc2, by have := HG.out.1; omega, rfl, rfl, by rw [hlen]; exact HQC, by rw [hlen]; exact HOC, HTC, hid (by rw [hlen]; have := HY.out; omega), HFC⟩
   | false =>
    have hgo : ¬ (i < n2 ∧ l' ≠ []) := of_decide_eq_false HU.out.symm; clear HU; have HF9 : Hid (xH = ys.map Lk.Hv.h ∧ l2 = l') := hid (by
     have h1 := HT.out; have h2 : tN dHeld (n2 - i) (.at l') = ([], .at l') := by
      by_cases h0 : l' = []
      ·exact tN_zero _ _ (by rw [h0]; rfl)
      ·have : n2 - i = 0 := by
        have : ¬ i < n2 := fun h => hgo ⟨h, h0⟩
        omega
       rw [this]; rfl
     rw [h2] at h1; simpa using h1)
    clear hgo HT HY; obtain ⟨hxs9, rfl⟩ := HF9.out; have HXS := hid hxs9; clear HF9 hxs9; have HXH := HXS; clear HXS; generalize ys = U at *
    generalize a = aH at *
    generalize c = cH at *
    have CN := hid (vnum_is HQ.out.vw); rw [← HN3.out] at CN; clear E2; go_wp2_with fail
    refine CN.out.mono ?_; rintro e wd ⟨rfl, hv9, ho9⟩; have HD := hid (HQ.out.step hv9 ho9 (by omega) hp0); have HOU := hid (own_hq HO.out ho9 (by omega)); have HFU : Hid (∀ u ∈ U, u.fresh ((w.heap.size + 1) + 1) wd) := hid (fun u hu => fresh_onl (HF.out u hu) ho9 (by omega)); have hl4 : m4.length ≤ 1099511627776 := hv9.bl.2; clear hv9 ho9 CN HQ HO HF HN3; go_wp2_with fail
    go_loopg [7] n3 (fun g s7 wr => ∃ (i : Nat) (ys : List Lg.En) (l' : List Nat) (a : Option Addr) (c : Nat), i ≤ n3 ∧ g = n3 - i ∧ s7 = .int .u64 (i : Int) ∧ Hid (Hr w wr w.heap.size S l' (w.heap.size + 1) 112 #[.int .u32 (nd : Int), .int .u64 (n1 : Int), .int .u64 x1.w, .int .u32 x1.l, .int .u32 x1.n, .slice aH U.length cH, .slice a ys.length c, .slice none 0 0]) ∧ Hid (wr.ownsRow ((w.heap.size + 1) + 1) 104 7 (.slice a ys.length c) ys.length (ys.flatMap Lg.ecs)) ∧ Hid ((xE, Ds.at l3) = (ys ++ (tN dEntry (n3 - i) (.at l')).1, (tN dEntry (n3 - i) (.at l')).2)) ∧ Hid (ys.length + l'.length ≤ m4.length) ∧ Hid (Lk.OwnH ((w.heap.size + 1) + 1) wr (.slice aH U.length cH) U.length U) ∧ Hid (∀ u ∈ U, u.fresh ((w.heap.size + 1) + 1) wr))
    case atStart => exact ⟨0, [], m4, none, 0, by omega, by omega, rfl, HD, World.ownsRow_nil _ _ _ _, hid (by rw [Nat.sub_zero, E3.out]; rfl), hid (by simp), HOU, HFU⟩
    case round =>
     clear HD HOU HFU; obtain ⟨i, ys, l', a, c, hi, rfl, rfl, HQ, HO, HT, HY, HOU, HFU⟩ := hrel; have HL := hid (vleft_is HQ.out.vw); obtain ⟨u, hu⟩ : ∃ u : Bool, u = decide (i < n3 ∧ l' ≠ []) := ⟨_, rfl⟩; have HU := hid hu; clear hu; go_upto_region 13 with fail
     go_cut [68] (fun s33 wz => s33 = .bool u ∧ Hid (Hr w wz w.heap.size S l' (w.heap.size + 1) 112 #[.int .u32 (nd : Int), .int .u64 (n1 : Int), .int .u64 x1.w, .int .u32 x1.l, .int .u32 x1.n, .slice aH U.length cH, .slice a ys.length c, .slice none 0 0]) ∧ Hid (wz.ownsRow ((w.heap.size + 1) + 1) 104 7 (.slice a ys.length c) ys.length (ys.flatMap Lg.ecs)) ∧ Hid (Lk.OwnH ((w.heap.size + 1) + 1) wz (.slice aH U.length cH) U.length U) ∧ Hid (∀ u ∈ U, u.fresh ((w.heap.size + 1) + 1) wz))
     case first =>
      by_cases hlt : i < n3
      ·have d1 : decide ((i : Int) < (n3 : Int)) = true := by simp; omega
       go_wp2_with fail
       refine HL.out.mono ?_; rintro e w6 ⟨rfl, rfl⟩; go_wp2_with fail
       go_meet
       exact ⟨by rw [HU.out]; simp [hlt], hid HQ.out.drew, HO, HOU, hid (fun u hu => ⟨(HFU.out u hu).r, (HFU.out u hu).w⟩)⟩
      ·have d1 : decide ((i : Int) < (n3 : Int)) = false := by simp; omega
       go_wp2_with fail
       go_meet
       exact ⟨by rw [HU.out]; simp [hlt], HQ, HO, HOU, HFU⟩
     case rest =>
      clear HQ HO HL HOU HFU; obtain ⟨rfl, HQ, HO, HOU, HFU⟩ := hcut; cases u with
      | true =>
       have hgo : i < n3 ∧ l' ≠ [] := of_decide_eq_true HU.out.symm; have hN : n3 - i = (n3 - (i + 1)) + 1 := by omega
       have HG := hid hgo; obtain ⟨⟨⟨x01, x02⟩, x03⟩, l0, e0⟩ := at_txn l'; obtain ⟨u1, hu1⟩ : ∃ y, y = vOne l0 := ⟨_, rfl⟩; obtain ⟨s1, hs1⟩ : ∃ y, y = vStamp u1.2 := ⟨_, rfl⟩; obtain ⟨x, hx⟩ : ∃ x : Lg.En, x = ⟨(x01, x02), x03, (u1.1 : Int), s1.1.w, s1.1.l, s1.1.n⟩ := ⟨_, rfl⟩; obtain ⟨l9, hl9⟩ : ∃ y, y = s1.2 := ⟨_, rfl⟩; have HE : Hid ((tN dEntry (n3 - i) (.at l')).1 = x :: (tN dEntry (n3 - (i + 1)) (.at l9)).1 ∧ (tN dEntry (n3 - i) (.at l')).2 = (tN dEntry (n3 - (i + 1)) (.at l9)).2) := hid (by
        have h1 := tN_more (t := dEntry) (m := n3 - (i + 1)) (d := .at l') (d1 := .at l9) (x := x) (by intro h0; exact hgo.2 (List.eq_nil_of_length_eq_zero h0)) (by subst hx hl9 hs1 hu1; exact entry_takes e0); rw [← hN] at h1; rw [h1]; exact ⟨rfl, rfl⟩)
       have hy : l9.length < l'.length := by
        have h1 := vtxn_eat e0 hgo.2; have h2 := one_drops l0; have h3 := stamp_drops u1.2; rw [← hu1] at h2; rw [← hs1] at h3; rw [hl9]; omega
       have hub : u1.1 < 256 := by
        have h1 := (vid_is HQ.out.vw e0); rw [hu1]; exact vOne_lt (at_b8 HQ.out.vw e0)
       have HXC : Hid (#[.int .u32 x01, .int .u32 x02, .int .u32 x03, .int .i64 (u1.1 : Int), .int .u64 s1.1.w, .int .u32 s1.1.l, .int .u32 s1.1.n].toList = Lg.ecs x) := hid (by rw [hx]); have ewi : IntKind.i64.wrap (u1.1 : Int) = (u1.1 : Int) := by rw [IntKind.wrap_i64]; omega
       have CT1 := hid (vid_is HQ.out.vw e0); have HU1 := hid hu1; have HS1 := hid hs1; have HL9 := hid hl9; clear e0 hu1 hs1 hx hl9 hgo; go_wp2_with fail
       refine CT1.out.mono ?_; rintro e w7 ⟨rfl, hv9, ho9⟩; have HQ7 := hid (HQ.out.step hv9 ho9 (by omega) hp0); have HO7 := hid (own_hq HO.out ho9 (by omega)); have HOU7 := hid (own_hq HOU.out ho9 (by omega)); have HFU7 := hid (fun u hu => fresh_onl (HFU.out u hu) ho9 (by omega)); have CT2 := hid (vone_is HQ7.out.vw); rw [← HU1.out] at CT2; clear hv9 ho9 CT1 HQ HO HOU HFU; obtain ⟨w8, hw8⟩ : ∃ v, v = w7.alloc (.cells #[.int .u32 x01, .int .u32 x02] 33) := ⟨_, rfl⟩; have kt : w8.heap[w7.heap.size]? = some (.cells #[.int .u32 x01, .int .u32 x02] 33 (0, 0)) := by rw [hw8]; exact World.alloc_heap_new _ _
       have hb8 : Below w7.heap.size w7 w8 := by rw [hw8]; exact Below.al (Below.refl _ _) _
       have HQ8 := hid (HQ7.out.later hb8); have HO8 : Hid (w8.ownsRow ((w.heap.size + 1) + 1) 104 7 (.slice a ys.length c) ys.length (ys.flatMap Lg.ecs)) := hid (by rw [hw8]; exact own_al HO7.out _); have HOU8 : Hid (Lk.OwnH ((w.heap.size + 1) + 1) w8 (.slice aH U.length cH) U.length U) := hid (by rw [hw8]; exact own_al HOU7.out _); have HFU8 : Hid (∀ u ∈ U, u.fresh ((w.heap.size + 1) + 1) w8) := hid (fun u hu => (HFU7.out u hu).later hb8); have hk7 : (w.heap.size + 1) < w7.heap.size := (Array.getElem?_eq_some_iff.1 HQ7.out.box).1; have KT := hid kt; go_upto_region 16 with fail
       rw [← hw8]; have CT2 := hid (vone_is HQ8.out.vw); rw [← HU1.out] at CT2; clear hw8 hb8 kt HQ7 HO7 HOU7 HFU7 HU1; go_wp2_with fail
       refine CT2.out.mono ?_; rintro e w9 ⟨rfl, hv9, ho9⟩; have HQ9 := hid (HQ8.out.step hv9 ho9 (by omega) hp0); have HO9 := hid (own_hq HO8.out ho9 (by omega)); have HOU9 := hid (own_hq HOU8.out ho9 (by omega)); have HFU9 := hid (fun u hu => fresh_onl (HFU8.out u hu) ho9 (by omega)); have KT9 := hid (blk_onl ho9 (fun e => by omega) KT.out); have CT3 := hid (vstamp_is HQ9.out.vw); rw [← HS1.out] at CT3; clear hv9 ho9 CT2 HQ8 HO8 HOU8 HFU8 HS1 KT; go_wp2_with fail
       refine CT3.out.mono ?_; rintro e w4 ⟨rfl, hv9, ho9⟩; have HQ4 := hid (HQ9.out.step hv9 ho9 (by omega) hp0); have HO4 := hid (own_hq HO9.out ho9 (by omega)); have HOU4 := hid (own_hq HOU9.out ho9 (by omega)); have HFU4 := hid (fun u hu => fresh_onl (HFU9.out u hu) ho9 (by omega)); have KT4 := hid (blk_onl ho9 (fun e => by omega) KT9.out); rw [← HL9.out] at HQ4; clear hv9 ho9 CT3 HQ9 HO9 HOU9 HFU9 KT9 HL9; obtain ⟨w5, hw5⟩ : ∃ v, v = w4.alloc (.cells #[.int .u64 s1.1.w, .int .u32 s1.1.l, .int .u32 s1.1.n] 36) := ⟨_, rfl⟩; have ks : w5.heap[w4.heap.size]? = some (.cells #[.int .u64 s1.1.w, .int .u32 s1.1.l, .int .u32 s1.1.n] 36 (0, 0)) := by rw [hw5]; exact World.alloc_heap_new _ _
       have hb5 : Below w4.heap.size w4 w5 := by rw [hw5]; exact Below.al (Below.refl _ _) _
       have HQ5 := hid (HQ4.out.later hb5); have HO5 : Hid (w5.ownsRow ((w.heap.size + 1) + 1) 104 7 (.slice a ys.length c) ys.length (ys.flatMap Lg.ecs)) := hid (by rw [hw5]; exact own_al HO4.out _); have HOU5 : Hid (Lk.OwnH ((w.heap.size + 1) + 1) w5 (.slice aH U.length cH) U.length U) := hid (by rw [hw5]; exact own_al HOU4.out _); have HFU5 : Hid (∀ u ∈ U, u.fresh ((w.heap.size + 1) + 1) w5) := hid (fun u hu => (HFU4.out u hu).later hb5); have kt5 := blk_onl (Onl.of_below (F := fun _ => False) hb5) (fun e => e) KT4.out; have t0 : w5.cell? ⟨w7.heap.size, 0, none⟩ = some (.int .u32 x01) := by rw [Lib.cell_of_heap kt5]; rfl
       have t1 : w5.cell? ⟨w7.heap.size, 1, none⟩ = some (.int .u32 x02) := by rw [Lib.cell_of_heap kt5]; rfl
       have s0 : w5.cell? ⟨w4.heap.size, 0, none⟩ = some (.int .u64 s1.1.w) := by rw [Lib.cell_of_heap ks]; rfl
       have s1' : w5.cell? ⟨w4.heap.size, 1, none⟩ = some (.int .u32 s1.1.l) := by rw [Lib.cell_of_heap ks]; rfl
       have s2 : w5.cell? ⟨w4.heap.size, 2, none⟩ = some (.int .u32 s1.1.n) := by rw [Lib.cell_of_heap ks]; rfl
       go_upto_region 18 with fail
       rw [← hw5]; clear hw5 hb5 HQ4 HO4 HOU4 HFU4 KT4 kt5 ks; have z6 : w5.cell? ⟨w.heap.size + 1, 6, none⟩ = some (.slice a ys.length c) := by rw [Lib.cell_of_heap HQ5.out.box]; rfl
       have hyl : ys.length + 1 ≤ 1099511627776 := by have := HY.out; omega
       obtain ⟨wA, hwA⟩ : ∃ wA, wA = (w5.alloc (.cells #[.int .u32 x01, .int .u32 x02, .int .u32 x03, .int .i64 (u1.1 : Int), .int .u64 s1.1.w, .int .u32 s1.1.l, .int .u32 s1.1.n] 104)).drew := ⟨_, rfl⟩; have kA : wA.heap[w5.heap.size]? = some (.cells #[.int .u32 x01, .int .u32 x02, .int .u32 x03, .int .i64 (u1.1 : Int), .int .u64 s1.1.w, .int .u32 s1.1.l, .int .u32 s1.1.n] 104 (0, 0)) := by rw [hwA]; exact World.alloc_heap_new _ _
       have hbA : Below w5.heap.size w5 wA := by rw [hwA]; exact (Below.al (Below.refl _ _) _).drew
       have HQA := hid (HQ5.out.later hbA); have HOA : Hid (wA.ownsRow ((w.heap.size + 1) + 1) 104 7 (.slice a ys.length c) ys.length (ys.flatMap Lg.ecs)) := hid (by rw [hwA]; exact own_al HO5.out _); have HOUA : Hid (Lk.OwnH ((w.heap.size + 1) + 1) wA (.slice aH U.length cH) U.length U) := hid (by rw [hwA]; exact own_al HOU5.out _); have HFUA : Hid (∀ u ∈ U, u.fresh ((w.heap.size + 1) + 1) wA) := hid (fun u hu => (HFU5.out u hu).later hbA); have hbq : (w.heap.size + 1) + 1 ≤ wA.heap.size := (Array.getElem?_eq_some_iff.1 HQA.out.box).1
       obtain ⟨v2, wB, hr, hown, hgrow, -⟩ := run_append_own (P := Tryz.prog) (w := wA) ((w.heap.size + 1) + 1) 61 61 104 i7 _ 7 40 Tryz.underlying61 hi7 hz70 hz71 hz72 rfl (by decide) (.slice a ys.length c) ys.length (ys.flatMap Lg.ecs) HOA.out ⟨w5.heap.size, 0, none⟩ 1 1 (Lg.ecs x) rfl (fun j u hj => (by rw [Addr.add_lit, Nat.zero_add]; exact Vs.cob kA (by rw [← HXC.out] at hj; simpa using hj))) (Lg.ecs_one x) (by unfold maxLen; omega) (by omega) hbq; obtain ⟨a2, cc2, rfl⟩ := ows hown; have HQB := hid (HQA.out.grown hgrow (fun g hg => (HOA.out.lt g hg).1) hpq hq0); have HOB : Hid (wB.ownsRow ((w.heap.size + 1) + 1) 104 7 (.slice a2 (ys.length + 1) cc2) (ys.length + 1) ((ys ++ [x]).flatMap Lg.ecs)) := hid (by rw [List.flatMap_append]; simpa using hown)
       have HOUB : Hid (Lk.OwnH ((w.heap.size + 1) + 1) wB (.slice aH U.length cH) U.length U) := hid (own_other HOUA.out HOA.out (by decide) hgrow); have HFUB : Hid (∀ u ∈ U, u.fresh ((w.heap.size + 1) + 1) wB) := hid (fun u hu => fresh_other (HFUA.out u hu) HOA.out (by decide) (by decide) hgrow); have zB : wB.cell? ⟨w.heap.size + 1, 6, none⟩ = some (.slice a ys.length c) := by rw [Lib.cell_of_heap HQB.out.box]; rfl
       have fB : wB.frozen? ⟨w.heap.size + 1, 6, none⟩ = false := Lib.frozen_of_heap HQB.out.box 6; have HQC : Hid (Hr w (wB.setCell ⟨w.heap.size + 1, 6, none⟩ (.slice a2 (ys.length + 1) cc2)) w.heap.size S l9 (w.heap.size + 1) 112 #[.int .u32 (nd : Int), .int .u64 (n1 : Int), .int .u64 x1.w, .int .u32 x1.l, .int .u32 x1.n, .slice aH U.length cH, .slice a2 (ys.length + 1) cc2, .slice none 0 0]) := hid (HQB.out.put (by omega) hq0 6 _); have HOC : Hid ((wB.setCell ⟨w.heap.size + 1, 6, none⟩ (.slice a2 (ys.length + 1) cc2)).ownsRow ((w.heap.size + 1) + 1) 104 7 (.slice a2 (ys.length + 1) cc2) (ys.length + 1) ((ys ++ [x]).flatMap Lg.ecs)) := hid (own_set HOB.out (by omega)); have HOUC : Hid (Lk.OwnH ((w.heap.size + 1) + 1) (wB.setCell ⟨w.heap.size + 1, 6, none⟩ (.slice a2 (ys.length + 1) cc2)) (.slice aH U.length cH) U.length U) := hid (own_set HOUB.out (by omega))
       have HFUC : Hid (∀ u ∈ U, u.fresh ((w.heap.size + 1) + 1) (wB.setCell ⟨w.heap.size + 1, 6, none⟩ (.slice a2 (ys.length + 1) cc2))) := hid (fun u hu => fresh_set (HFUB.out u hu) (by omega)); have zA : (w5.alloc (.cells #[.int .u32 x01, .int .u32 x02, .int .u32 x03, .int .i64 (u1.1 : Int), .int .u64 s1.1.w, .int .u32 s1.1.l, .int .u32 s1.1.n] 104)).cell? ⟨w.heap.size + 1, 6, none⟩ = some (.slice a ys.length c) := by
        have hh := HQA.out.box; rw [hwA] at hh; exact (Lib.cell_of_heap hh 6).trans rfl
       rw [hwA] at hr; have HRR := hid hr; have hlen : (ys ++ [x]).length = ys.length + 1 := by simp
       have HTC : Hid ((xE, Ds.at l3) = ((ys ++ [x]) ++ (tN dEntry (n3 - (i + 1)) (.at l9)).1, (tN dEntry (n3 - (i + 1)) (.at l9)).2)) := hid (by rw [HT.out, HE.out.1, HE.out.2]; simp); have kw : IntKind.u64.wrap ((i : Int) + 1) = ((i + 1 : Nat) : Int) := by have := HG.out.1; rw [IntKind.wrap_u64]; omega
       clear hr hown hgrow hwA kA hbA HQA HOA HQB HOB HT HE HXC HOUA HOUB HFUA HFUB; go_region_law (refine step_append_runR rfl (.tmp 84) (.tmp 91) 61 61 rfl (.slice a ys.length c) (.slice (some ⟨_, 0, none⟩) 1 1) (by simp [Act.eval]) (by simp [Act.eval]) HRR.out ?_)
       all_goals
        go_wp2_with fail
        go_roundg (n3 - (i + 1))
        case measure => have := HG.out.1; omega
        case rel => exact ⟨i + 1, ys ++ [x], l9, a2, cc2, by have := HG.out.1; omega, rfl, rfl, by rw [hlen]; exact HQC, by rw [hlen]; exact HOC, HTC, hid (by rw [hlen]; have := HY.out; omega), HOUC, HFUC⟩
      | false =>
       have hgo : ¬ (i < n3 ∧ l' ≠ []) := of_decide_eq_false HU.out.symm; clear HU; have HF9 : Hid (xE = ys ∧ l3 = l') := hid (by
        have h1 := HT.out; have h2 : tN dEntry (n3 - i) (.at l') = ([], .at l') := by
         by_cases h0 : l' = []
         ·exact tN_zero _ _ (by rw [h0]; rfl)
         ·have : n3 - i = 0 := by
           have : ¬ i < n3 := fun h => hgo ⟨h, h0⟩
           omega
          rw [this]; rfl
        rw [h2] at h1; simpa using h1)
       clear hgo HT HY; obtain ⟨hxs9, rfl⟩ := HF9.out; have HXS := hid hxs9; clear HF9 hxs9; have hE9 := HXS.out; subst hE9; clear HXS; generalize a = aE at *
       generalize c = cE at *
       have CN := hid (vnum_is HQ.out.vw); rw [← HN4.out] at CN; clear E3; go_wp2_with fail
       refine CN.out.mono ?_; rintro e wf ⟨rfl, hv9, ho9⟩; have HD := hid (HQ.out.step hv9 ho9 (by omega) hp0); have HOE := hid (own_hq HO.out ho9 (by omega)); replace HOU := hid (own_hq HOU.out ho9 (by omega)); replace HFU : Hid (∀ u ∈ U, u.fresh ((w.heap.size + 1) + 1) wf) := hid (fun u hu => fresh_onl (HFU.out u hu) ho9 (by omega)); have hl5 : m5.length ≤ 1099511627776 := hv9.bl.2; clear hv9 ho9 CN HQ HO HN4; go_wp2_with fail
       go_loopg [12] n4 (fun g s7 wr => ∃ (i : Nat) (ys : List Vs.Kv) (l' : List Nat) (a : Option Addr) (c : Nat), i ≤ n4 ∧ g = n4 - i ∧ s7 = .int .u64 (i : Int) ∧ Hid (Hr w wr w.heap.size S l' (w.heap.size + 1) 112 #[.int .u32 (nd : Int), .int .u64 (n1 : Int), .int .u64 x1.w, .int .u32 x1.l, .int .u32 x1.n, .slice aH U.length cH, .slice aE xE.length cE, .slice a ys.length c]) ∧ Hid (wr.ownsRow ((w.heap.size + 1) + 1) 108 6 (.slice a ys.length c) ys.length (ys.flatMap c6)) ∧ Hid ((xV, Ds.at r) = (ys ++ (tN dVersion (n4 - i) (.at l')).1, (tN dVersion (n4 - i) (.at l')).2)) ∧ Hid (ys.length + l'.length ≤ m5.length) ∧ Hid (Lk.OwnH ((w.heap.size + 1) + 1) wr (.slice aH U.length cH) U.length U) ∧ Hid (∀ u ∈ U, u.fresh ((w.heap.size + 1) + 1) wr) ∧ Hid (wr.ownsRow ((w.heap.size + 1) + 1) 104 7 (.slice aE xE.length cE) xE.length (xE.flatMap Lg.ecs)))
       case atStart => exact ⟨0, [], m5, none, 0, by omega, by omega, rfl, HD, World.ownsRow_nil _ _ _ _, hid (by rw [Nat.sub_zero, E4.out]; rfl), hid (by simp), HOU, HFU, HOE⟩
       case round =>
        clear HD HOU HFU HOE; obtain ⟨i, ys, l', a, c, hi, rfl, rfl, HQ, HO, HT, HY, HOU, HFU, HOE⟩ := hrel; have HL := hid (vleft_is HQ.out.vw); obtain ⟨u, hu⟩ : ∃ u : Bool, u = decide (i < n4 ∧ l' ≠ []) := ⟨_, rfl⟩; have HU := hid hu; clear hu; go_upto_region 21 with fail
        go_cut [103] (fun s33 wz => s33 = .bool u ∧ Hid (Hr w wz w.heap.size S l' (w.heap.size + 1) 112 #[.int .u32 (nd : Int), .int .u64 (n1 : Int), .int .u64 x1.w, .int .u32 x1.l, .int .u32 x1.n, .slice aH U.length cH, .slice aE xE.length cE, .slice a ys.length c]) ∧ Hid (wz.ownsRow ((w.heap.size + 1) + 1) 108 6 (.slice a ys.length c) ys.length (ys.flatMap c6)) ∧ Hid (Lk.OwnH ((w.heap.size + 1) + 1) wz (.slice aH U.length cH) U.length U) ∧ Hid (∀ u ∈ U, u.fresh ((w.heap.size + 1) + 1) wz) ∧ Hid (wz.ownsRow ((w.heap.size + 1) + 1) 104 7 (.slice aE xE.length cE) xE.length (xE.flatMap Lg.ecs)))
        case first =>
         by_cases hlt : i < n4
         ·have d1 : decide ((i : Int) < (n4 : Int)) = true := by simp; omega
          go_wp2_with fail
          refine HL.out.mono ?_; rintro e w6 ⟨rfl, rfl⟩; go_wp2_with fail
          go_meet
          exact ⟨by rw [HU.out]; simp [hlt], hid HQ.out.drew, HO, HOU, hid (fun u hu => ⟨(HFU.out u hu).r, (HFU.out u hu).w⟩), HOE⟩
         ·have d1 : decide ((i : Int) < (n4 : Int)) = false := by simp; omega
          go_wp2_with fail
          go_meet
          exact ⟨by rw [HU.out]; simp [hlt], HQ, HO, HOU, HFU, HOE⟩
        case rest =>
         clear HQ HO HL HOU HFU HOE; obtain ⟨rfl, HQ, HO, HOU, HFU, HOE⟩ := hcut; cases u with
         | true =>
          have hgo : i < n4 ∧ l' ≠ [] := of_decide_eq_true HU.out.symm; have hN : n4 - i = (n4 - (i + 1)) + 1 := by omega
          have HG := hid hgo; obtain ⟨u1, hu1⟩ : ∃ y, y = vText l' := ⟨_, rfl⟩; obtain ⟨s1, hs1⟩ : ∃ y, y = vStamp u1.2 := ⟨_, rfl⟩; obtain ⟨u2, hu2⟩ : ∃ y, y = vOne s1.2 := ⟨_, rfl⟩; obtain ⟨u3, hu3⟩ : ∃ y, y = vText u2.2 := ⟨_, rfl⟩; obtain ⟨dl, hdl⟩ : ∃ y, y = decide (u2.1 = 1) := ⟨_, rfl⟩; obtain ⟨x, hx⟩ : ∃ x : Vs.Kv, x = (ofNats u1.1, ⟨⟨s1.1.w, s1.1.l, s1.1.n⟩, dl, ofNats u3.1⟩) := ⟨_, rfl⟩; obtain ⟨l9, hl9⟩ : ∃ y, y = u3.2 := ⟨_, rfl⟩; have HE : Hid ((tN dVersion (n4 - i) (.at l')).1 = x :: (tN dVersion (n4 - (i + 1)) (.at l9)).1 ∧ (tN dVersion (n4 - i) (.at l')).2 = (tN dVersion (n4 - (i + 1)) (.at l9)).2) := hid (by
           have h1 := tN_more (t := dVersion) (m := n4 - (i + 1)) (d := .at l') (d1 := .at l9) (x := x) (by intro h0; exact hgo.2 (List.eq_nil_of_length_eq_zero h0)) (by subst hx hl9 hdl hu3 hu2 hs1 hu1; exact version_takes l'); rw [← hN] at h1; rw [h1]; exact ⟨rfl, rfl⟩)
          have hy : l9.length < l'.length := by
           have h1 := vtext_eat hgo.2; have h2 := stamp_drops u1.2; have h3 := one_drops s1.2; have h4 := vtext_drops u2.2; rw [← hu1] at h1; rw [← hs1] at h2; rw [← hu2] at h3; rw [← hu3] at h4; rw [hl9]; omega
          have HXC : Hid (#[.string (ofNats u1.1), .int .u64 s1.1.w, .int .u32 s1.1.l, .int .u32 s1.1.n, .bool dl, .string (ofNats u3.1)].toList = c6 x) := hid (by rw [hx]); have ed : ((u2.1 : Int) == 1) = dl := by rw [hdl, Bool.eq_iff_iff]; simp; omega
          have CT1 := hid (vtext_is HQ.out.vw); rw [← hu1] at CT1; have HS1 := hid hs1; have HU2 := hid hu2; have HU3 := hid hu3; have HL9 := hid hl9; clear hu1 hs1 hu2 hu3 hdl hx hl9 hgo; go_wp2_with fail
          refine CT1.out.mono ?_; rintro e w7 ⟨rfl, hv9, ho9⟩; have HQ7 := hid (HQ.out.step hv9 ho9 (by omega) hp0); have HO7 := hid (own_hq HO.out ho9 (by omega)); have HOU7 := hid (own_hq HOU.out ho9 (by omega)); have HFU7 := hid (fun u hu => fresh_onl (HFU.out u hu) ho9 (by omega)); have HOE7 := hid (own_hq HOE.out ho9 (by omega)); have CT2 := hid (vstamp_is HQ7.out.vw); rw [← HS1.out] at CT2; clear hv9 ho9 CT1 HQ HO HOU HFU HOE HS1; go_wp2_with fail
          refine CT2.out.mono ?_; rintro e w8 ⟨rfl, hv9, ho9⟩; have HQ8 := hid (HQ7.out.step hv9 ho9 (by omega) hp0); have HO8 := hid (own_hq HO7.out ho9 (by omega)); have HOU8 := hid (own_hq HOU7.out ho9 (by omega)); have HFU8 := hid (fun u hu => fresh_onl (HFU7.out u hu) ho9 (by omega)); have HOE8 := hid (own_hq HOE7.out ho9 (by omega)); clear hv9 ho9 CT2 HQ7 HO7 HOU7 HFU7 HOE7; obtain ⟨w5, hw5⟩ : ∃ v, v = w8.alloc (.cells #[.int .u64 s1.1.w, .int .u32 s1.1.l, .int .u32 s1.1.n] 36) := ⟨_, rfl⟩; have ks : w5.heap[w8.heap.size]? = some (.cells #[.int .u64 s1.1.w, .int .u32 s1.1.l, .int .u32 s1.1.n] 36 (0, 0)) := by rw [hw5]; exact World.alloc_heap_new _ _
          have hb5 : Below w8.heap.size w8 w5 := by rw [hw5]; exact Below.al (Below.refl _ _) _
          have HQ5 := hid (HQ8.out.later hb5); have HO5 : Hid (w5.ownsRow ((w.heap.size + 1) + 1) 108 6 (.slice a ys.length c) ys.length (ys.flatMap c6)) := hid (by rw [hw5]; exact own_al HO8.out _); have HOU5 : Hid (Lk.OwnH ((w.heap.size + 1) + 1) w5 (.slice aH U.length cH) U.length U) := hid (by rw [hw5]; exact own_al HOU8.out _); have HFU5 : Hid (∀ u ∈ U, u.fresh ((w.heap.size + 1) + 1) w5) := hid (fun u hu => (HFU8.out u hu).later hb5); have HOE5 : Hid (w5.ownsRow ((w.heap.size + 1) + 1) 104 7 (.slice aE xE.length cE) xE.length (xE.flatMap Lg.ecs)) := hid (by rw [hw5]; exact own_al HOE8.out _); have hk8 : (w.heap.size + 1) < w8.heap.size := (Array.getElem?_eq_some_iff.1 HQ8.out.box).1; have KS := hid ks; go_upto_region 25 with fail
          rw [← hw5]; have CT3 := hid (vone_is HQ5.out.vw); rw [← HU2.out] at CT3; clear hw5 hb5 ks HQ8 HO8 HOU8 HFU8 HOE8 HU2; go_wp2_with fail
          refine CT3.out.mono ?_; rintro e w9 ⟨rfl, hv9, ho9⟩; have HQ9 := hid (HQ5.out.step hv9 ho9 (by omega) hp0); have HO9 := hid (own_hq HO5.out ho9 (by omega)); have HOU9 := hid (own_hq HOU5.out ho9 (by omega)); have HFU9 := hid (fun u hu => fresh_onl (HFU5.out u hu) ho9 (by omega)); have HOE9 := hid (own_hq HOE5.out ho9 (by omega)); have KS9 := hid (blk_onl ho9 (fun e => by omega) KS.out); have CT4 := hid (vtext_is HQ9.out.vw); rw [← HU3.out] at CT4; clear hv9 ho9 CT3 HQ5 HO5 HOU5 HFU5 HOE5 KS HU3; go_wp2_with fail
          refine CT4.out.mono ?_; rintro e w4 ⟨rfl, hv9, ho9⟩; have HQ4 := hid (HQ9.out.step hv9 ho9 (by omega) hp0); have HO4 := hid (own_hq HO9.out ho9 (by omega)); have HOU4 := hid (own_hq HOU9.out ho9 (by omega)); have HFU4 := hid (fun u hu => fresh_onl (HFU9.out u hu) ho9 (by omega)); have HOE4 := hid (own_hq HOE9.out ho9 (by omega)); have ks := blk_onl ho9 (fun e => by omega) KS9.out; rw [← HL9.out] at HQ4; clear hv9 ho9 CT4 HQ9 HO9 HOU9 HFU9 HOE9 KS9 HL9; have s0 : w4.cell? ⟨w8.heap.size, 0, none⟩ = some (.int .u64 s1.1.w) := by rw [Lib.cell_of_heap ks]; rfl
          have s1' : w4.cell? ⟨w8.heap.size, 1, none⟩ = some (.int .u32 s1.1.l) := by rw [Lib.cell_of_heap ks]; rfl
          have s2 : w4.cell? ⟨w8.heap.size, 2, none⟩ = some (.int .u32 s1.1.n) := by rw [Lib.cell_of_heap ks]; rfl
          clear ks; go_upto_region 27 with fail
          have z6 : w4.cell? ⟨w.heap.size + 1, 7, none⟩ = some (.slice a ys.length c) := by rw [Lib.cell_of_heap HQ4.out.box]; rfl
          have hyl : ys.length + 1 ≤ 1099511627776 := by have := HY.out; omega
          obtain ⟨wA, hwA⟩ : ∃ wA, wA = (w4.alloc (.cells #[.string (ofNats u1.1), .int .u64 s1.1.w, .int .u32 s1.1.l, .int .u32 s1.1.n, .bool dl, .string (ofNats u3.1)] 108)).drew := ⟨_, rfl⟩; have kA : wA.heap[w4.heap.size]? = some (.cells #[.string (ofNats u1.1), .int .u64 s1.1.w, .int .u32 s1.1.l, .int .u32 s1.1.n, .bool dl, .string (ofNats u3.1)] 108 (0, 0)) := by rw [hwA]; exact World.alloc_heap_new _ _
          have hbA : Below w4.heap.size w4 wA := by rw [hwA]; exact (Below.al (Below.refl _ _) _).drew
          have HQA := hid (HQ4.out.later hbA); have HOA : Hid (wA.ownsRow ((w.heap.size + 1) + 1) 108 6 (.slice a ys.length c) ys.length (ys.flatMap c6)) := hid (by rw [hwA]; exact own_al HO4.out _); have HOUA : Hid (Lk.OwnH ((w.heap.size + 1) + 1) wA (.slice aH U.length cH) U.length U) := hid (by rw [hwA]; exact own_al HOU4.out _); have HFUA : Hid (∀ u ∈ U, u.fresh ((w.heap.size + 1) + 1) wA) := hid (fun u hu => (HFU4.out u hu).later hbA); have HOEA : Hid (wA.ownsRow ((w.heap.size + 1) + 1) 104 7 (.slice aE xE.length cE) xE.length (xE.flatMap Lg.ecs)) := hid (by rw [hwA]; exact own_al HOE4.out _); have hbq : (w.heap.size + 1) + 1 ≤ wA.heap.size := (Array.getElem?_eq_some_iff.1 HQA.out.box).1
          obtain ⟨v2, wB, hr, hown, hgrow, -⟩ := run_append_own (P := Tryz.prog) (w := wA) ((w.heap.size + 1) + 1) 64 64 108 i6 _ 6 56 Tryz.underlying64 hi6 hz60 hz61 hz62 rfl (by decide) (.slice a ys.length c) ys.length (ys.flatMap c6) HOA.out ⟨w4.heap.size, 0, none⟩ 1 1 (c6 x) rfl (fun j u hj => (by rw [Addr.add_lit, Nat.zero_add]; exact Vs.cob kA (by rw [← HXC.out] at hj; simpa using hj))) (c6_one x) (by unfold maxLen; omega) (by omega) hbq; obtain ⟨a2, cc2, rfl⟩ := ows hown; have HQB := hid (HQA.out.grown hgrow (fun g hg => (HOA.out.lt g hg).1) hpq hq0); have HOB : Hid (wB.ownsRow ((w.heap.size + 1) + 1) 108 6 (.slice a2 (ys.length + 1) cc2) (ys.length + 1) ((ys ++ [x]).flatMap c6)) := hid (by rw [List.flatMap_append]; simpa using hown)
          have HOUB : Hid (Lk.OwnH ((w.heap.size + 1) + 1) wB (.slice aH U.length cH) U.length U) := hid (own_other HOUA.out HOA.out (by decide) hgrow); have HFUB : Hid (∀ u ∈ U, u.fresh ((w.heap.size + 1) + 1) wB) := hid (fun u hu => fresh_other (HFUA.out u hu) HOA.out (by decide) (by decide) hgrow); have HOEB : Hid (wB.ownsRow ((w.heap.size + 1) + 1) 104 7 (.slice aE xE.length cE) xE.length (xE.flatMap Lg.ecs)) := hid (own_other HOEA.out HOA.out (by decide) hgrow); have zB : wB.cell? ⟨w.heap.size + 1, 7, none⟩ = some (.slice a ys.length c) := by rw [Lib.cell_of_heap HQB.out.box]; rfl
          have fB : wB.frozen? ⟨w.heap.size + 1, 7, none⟩ = false := Lib.frozen_of_heap HQB.out.box 7; have HQC : Hid (Hr w (wB.setCell ⟨w.heap.size + 1, 7, none⟩ (.slice a2 (ys.length + 1) cc2)) w.heap.size S l9 (w.heap.size + 1) 112 #[.int .u32 (nd : Int), .int .u64 (n1 : Int), .int .u64 x1.w, .int .u32 x1.l, .int .u32 x1.n, .slice aH U.length cH, .slice aE xE.length cE, .slice a2 (ys.length + 1) cc2]) := hid (HQB.out.put (by omega) hq0 7 _); have HOC : Hid ((wB.setCell ⟨w.heap.size + 1, 7, none⟩ (.slice a2 (ys.length + 1) cc2)).ownsRow ((w.heap.size + 1) + 1) 108 6 (.slice a2 (ys.length + 1) cc2) (ys.length + 1) ((ys ++ [x]).flatMap c6)) := hid (own_set HOB.out (by omega)); have HOUC : Hid (Lk.OwnH ((w.heap.size + 1) + 1) (wB.setCell ⟨w.heap.size + 1, 7, none⟩ (.slice a2 (ys.length + 1) cc2)) (.slice aH U.length cH) U.length U) := hid (own_set HOUB.out (by omega))
          have HFUC : Hid (∀ u ∈ U, u.fresh ((w.heap.size + 1) + 1) (wB.setCell ⟨w.heap.size + 1, 7, none⟩ (.slice a2 (ys.length + 1) cc2))) := hid (fun u hu => fresh_set (HFUB.out u hu) (by omega)); have HOEC : Hid ((wB.setCell ⟨w.heap.size + 1, 7, none⟩ (.slice a2 (ys.length + 1) cc2)).ownsRow ((w.heap.size + 1) + 1) 104 7 (.slice aE xE.length cE) xE.length (xE.flatMap Lg.ecs)) := hid (own_set HOEB.out (by omega)); have zA : (w4.alloc (.cells #[.string (ofNats u1.1), .int .u64 s1.1.w, .int .u32 s1.1.l, .int .u32 s1.1.n, .bool dl, .string (ofNats u3.1)] 108)).cell? ⟨w.heap.size + 1, 7, none⟩ = some (.slice a ys.length c) := by
           have hh := HQA.out.box; rw [hwA] at hh; exact (Lib.cell_of_heap hh 7).trans rfl
          rw [hwA] at hr; have HRR := hid hr; have hlen : (ys ++ [x]).length = ys.length + 1 := by simp
          have HTC : Hid ((xV, Ds.at r) = ((ys ++ [x]) ++ (tN dVersion (n4 - (i + 1)) (.at l9)).1, (tN dVersion (n4 - (i + 1)) (.at l9)).2)) := hid (by rw [HT.out, HE.out.1, HE.out.2]; simp); have kw : IntKind.u64.wrap ((i : Int) + 1) = ((i + 1 : Nat) : Int) := by have := HG.out.1; rw [IntKind.wrap_u64]; omega
          clear hr hown hgrow hwA kA hbA HQA HOA HQB HOB HT HE HXC HOUA HOUB HFUA HFUB HOEA HOEB; go_region_law (refine step_append_runR rfl (.tmp 118) (.tmp 125) 64 64 rfl (.slice a ys.length c) (.slice (some ⟨_, 0, none⟩) 1 1) (by simp [Act.eval]) (by simp [Act.eval]) HRR.out ?_)
          all_goals
           go_wp2_with fail
           go_roundg (n4 - (i + 1))
           case measure => have := HG.out.1; omega
           case rel => exact ⟨i + 1, ys ++ [x], l9, a2, cc2, by have := HG.out.1; omega, rfl, rfl, by rw [hlen]; exact HQC, by rw [hlen]; exact HOC, HTC, hid (by rw [hlen]; have := HY.out; omega), HOUC, HFUC, HOEC⟩
         | false =>
          have hgo : ¬ (i < n4 ∧ l' ≠ []) := of_decide_eq_false HU.out.symm; clear HU; have HF9 : Hid (xV = ys ∧ r = l') := hid (by
           have h1 := HT.out; have h2 : tN dVersion (n4 - i) (.at l') = ([], .at l') := by
            by_cases h0 : l' = []
            ·exact tN_zero _ _ (by rw [h0]; rfl)
            ·have : n4 - i = 0 := by
              have : ¬ i < n4 := fun h => hgo ⟨h, h0⟩
              omega
             rw [this]; rfl
           rw [h2] at h1; simpa using h1)
          clear hgo HT HY; obtain ⟨hxs9, rfl⟩ := HF9.out; have HXS := hid hxs9; clear HF9 hxs9; have hV9 := HXS.out; subst hV9; clear HXS; go_wp2_with fail
          go_ret
          exact ⟨rfl, ⟨U, hid HXH.out.symm, hid ⟨⟨aH, aE, a, cH, cE, c, HQ.out.box, HOU.out, HOE.out, HO.out⟩, HFU.out, Nat.lt_succ_self _⟩⟩, hid HQ.out.bel⟩
end Go.Proofs.YtofpaldolcnmiaaGreat.Ig
