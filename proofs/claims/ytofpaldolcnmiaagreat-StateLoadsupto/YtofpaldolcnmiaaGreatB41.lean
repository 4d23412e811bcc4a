import Derived.Test.YtofpaldolcnmiaaGreatB40
set_option linter.unusedVariables false
set_option maxHeartbeats 1000000
namespace Go.Proofs.YtofpaldolcnmiaaGreat.Ig
open Go.RowKit Go.Sort
theorem bytes_at {S : List Nat} {a m : Nat} (h8 : B8 S) : (ofNats S).extract a (a + m) = ofNats ((S.drop a).take m) := by
 rw [ofNats_extract h8, List.drop_take]; congr 2
 omega
theorem vbytes_is {w : World} {p : Nat} {S l : List Nat} (h : Vw w p S l) {n : Nat} (hn : n < 18446744073709551616) :
  Calls Tryz.prog 164 #[.pointer (some ⟨p, 0, none⟩), .int .u64 (n : Int)] w fun e w' => e = .returned (.string (ofNats (vBytes n l).1)) ∧ Vw w' p S (vBytes n l).2 ∧ Onl (fun k => k = p) w w' := by
 obtain ⟨a, hb, ha, rfl⟩ := h.box; have h8 := h.b8; have hl := h.len; have hsz : (ofNats S).size = S.length := ons S; have c0 : w.cell? ⟨p, 0, none⟩ = some (.string (ofNats S)) := by rw [Lib.cell_of_heap hb]; rfl
 have c1 : w.cell? ⟨p, 1, none⟩ = some (.int .i64 (a : Int)) := by rw [Lib.cell_of_heap hb]; rfl
 have f1 : w.frozen? ⟨p, 1, none⟩ = false := Lib.frozen_of_heap hb 1; have k1 : IntKind.i64.wrap ((S.length : Int) - (a : Int)) = ((S.length - a : Nat) : Int) := by rw [IntKind.wrap_i64]; omega
 obtain ⟨L, hL⟩ : ∃ L, L = S.length - a := ⟨_, rfl⟩; rw [← hL] at k1; have k2 : IntKind.u64.wrap (L : Int) = (L : Int) := by rw [IntKind.wrap_u64]; omega
 have KEY : ∀ m : Nat, a + m ≤ S.length → (S.drop a).take m = (S.drop a).take n → (S.drop a).drop m = (S.drop a).drop n →
   Hid ((ofNats S).extract a (a + m) = ofNats (vBytes n (S.drop a)).1) ∧ Hid (Vw (w.setCell ⟨p, 1, none⟩ (.int .i64 ((a + m : Nat) : Int))) p S (vBytes n (S.drop a)).2) ∧ Hid (Onl (fun k => k = p) w (w.setCell ⟨p, 1, none⟩ (.int .i64 ((a + m : Nat) : Int)))) := fun m hm e1 e2 =>
  ⟨hid (by rw [bytes_at h8, e1]; rfl), hid ⟨⟨a + m, put_at hb, hm, by show (S.drop a).drop n = _; rw [← e2, List.drop_drop]⟩, h8, hl⟩, hid ((Onl.refl (fun k => k = p) w).set (p := p) rfl 1 _)⟩
 by_cases hlt : n < L
 ·obtain ⟨HX, HV, HO⟩ := KEY n (by omega) rfl rfl; have d1 : decide ((n : Int) < (L : Int)) = true := by simp; omega
  have d2 : n < L := hlt; have k3 : IntKind.i64.wrap (n : Int) = (n : Int) := by rw [IntKind.wrap_i64]; omega
  have k4 : IntKind.i64.wrap ((a : Int) + (n : Int)) = ((a + n : Nat) : Int) := by rw [IntKind.wrap_i64]; omega
  have g1 : (a : Int) ≤ ((a + n : Nat) : Int) := by omega
  have g2 : ((a + n : Nat) : Int) ≤ (S.length : Int) := by omega
  have hx := HX.out; clear KEY hb h8 h hL HX; generalize (vBytes n (S.drop a)).1 = X at *
  generalize (vBytes n (S.drop a)).2 = Y at *
  generalize a + n = b at *
  go_enter Tryz.func164, Tryz.ntmps164
  go_wp2_with fail
  go_region
  go_wp2_with fail
  go_region
  go_wp2_with fail
  go_ret
  exact ⟨rfl, HV.out.drew.drew, HO.out.drew.drew⟩
 ·obtain ⟨HX, HV, HO⟩ := KEY L (by omega) (by rw [List.take_of_length_le (by rw [List.length_drop]; omega), List.take_of_length_le (by rw [List.length_drop]; omega)]) (by rw [List.drop_eq_nil_of_le (by rw [List.length_drop]; omega), List.drop_eq_nil_of_le (by rw [List.length_drop]; omega)]); have d1 : decide ((n : Int) < (L : Int)) = false := by simp; omega
  have d2 : ¬ n < L := hlt; have k4 : IntKind.i64.wrap ((a : Int) + (L : Int)) = ((a + L : Nat) : Int) := by rw [IntKind.wrap_i64]; omega
  have g1 : (a : Int) ≤ ((a + L : Nat) : Int) := by omega
  have g2 : ((a + L : Nat) : Int) ≤ (S.length : Int) := by omega
  have hx := HX.out; clear KEY hb h8 h hL HX; generalize (vBytes n (S.drop a)).1 = X at *
  generalize (vBytes n (S.drop a)).2 = Y at *
  generalize a + L = b at *
  go_enter Tryz.func164, Tryz.ntmps164
  go_wp2_with fail
  go_region
  go_wp2_with fail
  go_region
  go_wp2_with fail
  go_ret
  exact ⟨rfl, HV.out.drew.drew, HO.out.drew.drew⟩
theorem vtext_is {w : World} {p : Nat} {S l : List Nat} (h : Vw w p S l) :
  Calls Tryz.prog 102 #[.pointer (some ⟨p, 0, none⟩)] w fun e w' => e = .returned (.string (ofNats (vText l).1)) ∧ Vw w' p S (vText l).2 ∧ Onl (fun k => k = p) w w' := by
 have CN := hid (vnum_is h); have hn := vNum_lt l; obtain ⟨⟨n, r⟩, hr⟩ : ∃ y, y = vNum l := ⟨_, rfl⟩; have e1 : vText l = vBytes n r := by unfold vText; rw [← hr]
 rw [← hr] at CN hn; rw [e1]; simp only at CN hn; clear e1 hr h; go_enter Tryz.func102, Tryz.ntmps102
 go_wp2_with fail
 refine CN.out.mono ?_; rintro e w1 ⟨rfl, hv1, ho1⟩; have CB := hid (vbytes_is hv1 hn); have HO1 := hid ho1; clear hv1 ho1 CN hn; go_wp2_with fail
 refine CB.out.mono ?_; rintro e w2 ⟨rfl, hv2, ho2⟩; have HV2 := hid hv2; have HO2 := hid (HO1.out.trans ho2); clear hv2 ho2 CB; go_wp2_with fail
 go_ret
 exact ⟨rfl, HV2.out, HO2.out⟩
theorem vleft_is {w : World} {p : Nat} {S l : List Nat} (h : Vw w p S l) :
  Calls Tryz.prog 98 #[.pointer (some ⟨p, 0, none⟩)] w fun e w' => e = .returned (.bool (decide (l ≠ []))) ∧ w' = w.drew := by
 obtain ⟨a, hb, ha, rfl⟩ := h.box; have hsz : (ofNats S).size = S.length := ons S; have c0 : w.cell? ⟨p, 0, none⟩ = some (.string (ofNats S)) := by rw [Lib.cell_of_heap hb]; rfl
 have c1 : w.cell? ⟨p, 1, none⟩ = some (.int .i64 (a : Int)) := by rw [Lib.cell_of_heap hb]; rfl
 have HE : Hid (decide (S.drop a ≠ []) = decide (a < S.length)) := hid (by
  rw [decide_eq_decide, ne_eq, List.drop_eq_nil_iff]; omega)
 have d1 : decide ((a : Int) < (S.length : Int)) = decide (a < S.length) := by rw [decide_eq_decide]; omega
 rw [HE.out]; clear hb h HE; go_enter Tryz.func98, Tryz.ntmps98
 go_wp2_with fail
 go_region
 go_wp2_with fail
 go_ret
 exact ⟨rfl, rfl⟩
theorem Vw.set {w : World} {p : Nat} {S l : List Nat} (h : Vw w p S l) {q : Nat} (hq : q ≠ p) (o : Nat) (v : Value) : Vw (w.setCell ⟨q, o, none⟩ v) p S l := by
 obtain ⟨a, hb, h1, h2⟩ := h.box; exact ⟨⟨a, by rw [Below.heap_setCell _ _ _ _ (by show p ≠ q; omega)]; exact hb, h1, h2⟩, h.b8, h.len⟩
theorem blk_onl {w w' : World} {k : Nat} {x : Obj} {F : Nat → Prop} (ho : Onl F w w') (hF : ¬ F k) (h : w.heap[k]? = some x) : w'.heap[k]? = some x := by
 rw [ho.block k (Array.getElem?_eq_some_iff.1 h).1 hF]; exact h
theorem cells_atI {W : World} {b : Nat} {cs : List Value} {T : TypeId} (h : W.heap[b]? = some (.cells cs.toArray T (0, 0))) : ∀ j v, cs[j]? = some v → W.cell? ((⟨b, 0, none⟩ : Addr).add j) = some v := fun j v hj => by
 rw [Addr.add_lit, Nat.zero_add, Lib.cell_of_heap h]; simpa using hj
theorem infoSt3 : (Tryz.prog.info? 36).map (·.size) = some 3 := by kernel_rfl
theorem stamp_end {w w2 : World} {p : Nat} {S r : List Nat} {c0 c1 c2 : Value} {T : TypeId} (v0 v1 v2 : Value) (X : Obj) (hR : w2.heap[w.heap.size]? = some (.cells #[c0, c1, c2] T (0, 0))) (hV : Vw w2 p S r) (hO : Onl (fun k => k = p) w w2) (hp : p < w.heap.size) :
  ((((w2.setCell ⟨w.heap.size, 0, none⟩ v0).setCell ⟨w.heap.size, 1, none⟩ v1).setCell ⟨w.heap.size, 2, none⟩ v2).alloc X).heap[w.heap.size]? = some (.cells #[v0, v1, v2] T (0, 0)) ∧ Vw ((((w2.setCell ⟨w.heap.size, 0, none⟩ v0).setCell ⟨w.heap.size, 1, none⟩ v1).setCell ⟨w.heap.size, 2, none⟩ v2).alloc X) p S r ∧ Onl (fun k => k = p) w ((((w2.setCell ⟨w.heap.size, 0, none⟩ v0).setCell ⟨w.heap.size, 1, none⟩ v1).setCell ⟨w.heap.size, 2, none⟩ v2).alloc X) := by
 have p0 : (w2.setCell ⟨w.heap.size, 0, none⟩ v0).heap[w.heap.size]? = some (.cells #[v0, c1, c2] T (0, 0)) := heap_setCell_same w2 _ 0 _ _ v0 hR; have p1 : ((w2.setCell ⟨w.heap.size, 0, none⟩ v0).setCell ⟨w.heap.size, 1, none⟩ v1).heap[w.heap.size]? = some (.cells #[v0, v1, c2] T (0, 0)) := heap_setCell_same _ _ 1 _ _ v1 p0; have p2 : (((w2.setCell ⟨w.heap.size, 0, none⟩ v0).setCell ⟨w.heap.size, 1, none⟩ v1).setCell ⟨w.heap.size, 2, none⟩ v2).heap[w.heap.size]? = some (.cells #[v0, v1, v2] T (0, 0)) := heap_setCell_same _ _ 2 _ _ v2 p1; refine ⟨?_, ?_, ?_⟩
 ·rw [Below.heap_alloc _ _ _ (Array.getElem?_eq_some_iff.1 p2).1]; exact p2
 ·exact (((hV.set (by omega) _ _).set (by omega) _ _).set (by omega) _ _).later (Below.al (Below.refl _ _) _)
 ·exact (((hO.setNew (Nat.le_refl _) _ _).setNew (Nat.le_refl _) _ _).setNew (Nat.le_refl _) _ _).al _
theorem vstamp_is {w : World} {p : Nat} {S l : List Nat} (h : Vw w p S l) :
  Calls Tryz.prog 97 #[.pointer (some ⟨p, 0, none⟩)] w fun e w' => e = .returned (stv (vStamp l).1.w (vStamp l).1.l (vStamp l).1.n) ∧ Vw w' p S (vStamp l).2 ∧ Onl (fun k => k = p) w w' := by
 obtain ⟨wb, hwb⟩ : ∃ wb, wb = w.alloc (.cells #[.int .u64 0, .int .u32 0, .int .u32 0] 36) := ⟨_, rfl⟩; have hB : Below w.heap.size w wb := by rw [hwb]; exact Below.al (Below.refl _ _) _
 have hR : wb.heap[w.heap.size]? = some (.cells #[.int .u64 0, .int .u32 0, .int .u32 0] 36 (0, 0)) := by rw [hwb]; exact World.alloc_heap_new _ _
 have hpl := h.lt; have CB := hid (vbytes_is (h.later hB) (n := 16) (by omega)); have CU : Hid (∀ W, Calls Tryz.prog 165 #[.string (ofNats (vBytes 16 l).1)] W fun e w' => ∃ c : Int, e = .returned (.tuple #[stv (vStamp l).1.w (vStamp l).1.l (vStamp l).1.n, .int .i64 c]) ∧ Below W.heap.size W w') := hid (fun W => by
  unfold vStamp vBytes; by_cases hl : l.length < 16
  ·rw [if_pos hl]; refine (refunpack_no _ W ?_).mono fun e w' ⟨h1, h2⟩ => ⟨10, h1, h2⟩
   rw [ons, List.length_take, bne_iff_ne]; omega
  ·rw [if_neg hl]; exact (refunpack_yes (ofNats (l.take 16)) W (by rw [ons, List.length_take]; omega)).mono fun e w' ⟨h1, h2⟩ => ⟨0, h1, h2⟩)
 have e2 : (vStamp l).2 = (vBytes 16 l).2 := rfl; rw [e2]; generalize ofNats (vBytes 16 l).1 = b at *
 generalize (vBytes 16 l).2 = r at *
 generalize (vStamp l).1 = s at *
 have HO0 : Hid (Onl (fun k => k = p) w wb) := hid (Onl.of_below hB); clear e2 hB h; go_enter Tryz.func97, Tryz.ntmps97
 go_upto_region 1 with fail
 rw [← hwb]; clear hwb; go_wp2_with fail
 refine CB.out.mono ?_; rintro e w1 ⟨rfl, hv1, ho1⟩; have HR1 := hid (blk_onl ho1 (fun e => by omega) hR); have HV1 := hid hv1; have HO1 := hid (HO0.out.trans ho1); clear hv1 ho1 CB hR HO0; go_wp2_with fail
 refine (CU.out _).mono ?_; rintro e w2 ⟨c, rfl, hb2⟩; have HR2 := hid (blk_onl (Onl.of_below (F := fun _ => False) hb2) (fun e => e) HR1.out); have HV2 := hid (HV1.out.later hb2); have HO2 := hid (HO1.out.on hb2); have r0 : w2.cell? ⟨w.heap.size, 0, none⟩ = some (.int .u64 0) := by rw [Lib.cell_of_heap HR2.out]; rfl
 have r1 : w2.cell? ⟨w.heap.size, 1, none⟩ = some (.int .u32 0) := by rw [Lib.cell_of_heap HR2.out]; rfl
 have r2 : w2.cell? ⟨w.heap.size, 2, none⟩ = some (.int .u32 0) := by rw [Lib.cell_of_heap HR2.out]; rfl
 have f0 : w2.frozen? ⟨w.heap.size, 0, none⟩ = false := Lib.frozen_of_heap HR2.out 0; have f1 : w2.frozen? ⟨w.heap.size, 1, none⟩ = false := Lib.frozen_of_heap HR2.out 1; have f2 : w2.frozen? ⟨w.heap.size, 2, none⟩ = false := Lib.frozen_of_heap HR2.out 2; have hlt2 : w.heap.size < w2.heap.size := (Array.getElem?_eq_some_iff.1 HR2.out).1; clear hb2 CU HR1 HV1 HO1; obtain ⟨q1, q2, q3⟩ := stamp_end (.int .u64 s.w) (.int .u32 s.l) (.int .u32 s.n) (.cells #[.int .u64 s.w, .int .u32 s.l, .int .u32 s.n] 36) HR2.out HV2.out HO2.out hpl; go_wp2_with fail
 generalize ((((w2.setCell ⟨w.heap.size, 0, none⟩ (.int .u64 s.w)).setCell ⟨w.heap.size, 1, none⟩ (.int .u32 s.l)).setCell ⟨w.heap.size, 2, none⟩ (.int .u32 s.n)).alloc (.cells #[.int .u64 s.w, .int .u32 s.l, .int .u32 s.n] 36)) = W at q1 q2 q3 ⊢
 have LZ := Gt.run_loadVar_at (P := Tryz.prog) _ ⟨w.heap.size, 0, none⟩ 36 [.int .u64 s.w, .int .u32 s.l, .int .u32 s.n] _ (cells_atI q1) Tryz.underlying36 (by rfl) infoSt3; refine bodyPost_ret (v := stv s.w s.l s.n) (by simp [results, Tryz.results97, asAddr, LZ]) rfl ⟨rfl, q2, q3⟩
theorem vid_is {w : World} {p : Nat} {S l r : List Nat} {x : Lk.Ix × Int} (h : Vw w p S l) (hv : dTxn (.at l) = (x, .at r)) :
  Calls Tryz.prog 100 #[.pointer (some ⟨p, 0, none⟩)] w fun e w' => e = .returned (.tuple #[.agg #[.int .u32 x.1.1, .int .u32 x.1.2], .int .u32 x.2]) ∧ Vw w' p S r ∧ Onl (fun k => k = p) w w' := by
 obtain ⟨wb, hwb⟩ : ∃ wb, wb = w.alloc (.cells #[.int .u32 0, .int .u32 0] 33) := ⟨_, rfl⟩; have hB : Below w.heap.size w wb := by rw [hwb]; exact Below.al (Below.refl _ _) _
 have hR : wb.heap[w.heap.size]? = some (.cells #[.int .u32 0, .int .u32 0] 33 (0, 0)) := by rw [hwb]; exact World.alloc_heap_new _ _
 have hpl := h.lt; have C1 := hid (vnum_is (h.later hB)); have hv' : dTxn (.at l) = ((((((vNum l).1 % 4294967296 : Nat) : Int), (((vNum (vNum l).2).1 % 4294967296 : Nat) : Int)), (((vNum (vNum (vNum l).2).2).1 % 4294967296 : Nat) : Int)), .at (vNum (vNum (vNum l).2).2).2) := rfl; rw [hv'] at hv; simp only [Prod.mk.injEq, Ds.at.injEq] at hv; obtain ⟨hx, rfl⟩ := hv; obtain ⟨⟨n1, l1⟩, h1⟩ : ∃ y, y = vNum l := ⟨_, rfl⟩; rw [← h1] at hx C1 ⊢; simp only at hx C1 ⊢; obtain ⟨⟨n2, l2⟩, h2⟩ : ∃ y, y = vNum l1 := ⟨_, rfl⟩; have H2 := hid h2; rw [← h2] at hx ⊢; simp only at hx ⊢; obtain ⟨⟨n3, l3⟩, h3⟩ : ∃ y, y = vNum l2 := ⟨_, rfl⟩; have H3 := hid h3; rw [← h3] at hx ⊢; simp only at hx ⊢; subst hx; have e1 : IntKind.u32.wrap (n1 : Int) = ((n1 % 4294967296 : Nat) : Int) := by rw [wrap_u32_eq]; omega
 have e2 : IntKind.u32.wrap (n2 : Int) = ((n2 % 4294967296 : Nat) : Int) := by rw [wrap_u32_eq]; omega
 have e3 : IntKind.u32.wrap (n3 : Int) = ((n3 % 4294967296 : Nat) : Int) := by rw [wrap_u32_eq]; omega
 generalize n1 % 4294967296 = m1 at *
 generalize n2 % 4294967296 = m2 at *
 generalize n3 % 4294967296 = m3 at *
 have HO0 : Hid (Onl (fun k => k = p) w wb) := hid (Onl.of_below hB); clear hv' h1 h2 h3 hB h; go_enter Tryz.func100, Tryz.ntmps100
 go_upto_region 1 with fail
 rw [← hwb]; clear hwb; go_wp2_with fail
 refine C1.out.mono ?_; rintro e w1 ⟨rfl, hv1, ho1⟩; have HR1 := hid (blk_onl ho1 (fun e => by omega) hR); have C2 := hid (vnum_is hv1); rw [← H2.out] at C2; have HO1 := hid (HO0.out.trans ho1); clear hv1 ho1 C1 hR HO0; go_wp2_with fail
 refine C2.out.mono ?_; rintro e w2 ⟨rfl, hv2, ho2⟩; have HR2 := hid (blk_onl ho2 (fun e => by omega) HR1.out); have C3 := hid (vnum_is hv2); rw [← H3.out] at C3; have HO2 := hid (HO1.out.trans ho2); clear hv2 ho2 C2 HR1 HO1; go_wp2_with fail
 refine C3.out.mono ?_; rintro e w3 ⟨rfl, hv3, ho3⟩; have HR3 := hid (blk_onl ho3 (fun e => by omega) HR2.out); have HO3 := hid (HO2.out.trans ho3); have HV3 := hid hv3; have r0 : w3.cell? ⟨w.heap.size, 0, none⟩ = some (.int .u32 0) := by rw [Lib.cell_of_heap HR3.out]; rfl
 have r1 : w3.cell? ⟨w.heap.size, 1, none⟩ = some (.int .u32 0) := by rw [Lib.cell_of_heap HR3.out]; rfl
 have f0 : w3.frozen? ⟨w.heap.size, 0, none⟩ = false := Lib.frozen_of_heap HR3.out 0; have f1 : w3.frozen? ⟨w.heap.size, 1, none⟩ = false := Lib.frozen_of_heap HR3.out 1; clear hv3 ho3 C3 HR2 HO2; go_wp2_with fail
 refine bodyPost_ret (v := .tuple #[.agg #[.int .u32 (m1 : Int), .int .u32 (m2 : Int)], .int .u32 (m3 : Int)]) (by simp [results, Tryz.results100, go_sem, r0, r1]) rfl ⟨rfl, ?_, ?_⟩
 ·exact (HV3.out.set (by omega) _ _).set (by omega) _ _
 ·exact (HO3.out.setNew (Nat.le_refl _) _ _).setNew (Nat.le_refl _) _ _
structure Hq (w0 w : World) (p : Nat) (S l : List Nat) (q o : Nat) (T : TypeId) (cs : Array Value) (U : TypeId) (ds : Array Value) : Prop where
 vw : Vw w p S l
 box : w.heap[q]? = some (.cells cs T (0, 0))
 res : w.heap[o]? = some (.cells ds U (0, 0))
 onl : Onl (fun k => k = p) w0 w
section
variable {w0 w w' : World} {p q o : Nat} {S l l' : List Nat} {T U : TypeId} {cs ds : Array Value}
theorem Hq.drew (h : Hq w0 w p S l q o T cs U ds) : Hq w0 w.drew p S l q o T cs U ds := ⟨h.vw.drew, h.box, h.res, h.onl.drew⟩
theorem Hq.step (h : Hq w0 w p S l q o T cs U ds) (hv : Vw w' p S l') (ho : Onl (fun k => k = p) w w') (h1 : q ≠ p) (h2 : o ≠ p) : Hq w0 w' p S l' q o T cs U ds :=
 ⟨hv, blk_onl ho h1 h.box, blk_onl ho h2 h.res, h.onl.trans ho⟩
theorem Hq.later (h : Hq w0 w p S l q o T cs U ds) (hb : Below w.heap.size w w') : Hq w0 w' p S l q o T cs U ds :=
 ⟨h.vw.later hb, blk_onl (Onl.of_below (F := fun _ => False) hb) (fun e => e) h.box, blk_onl (Onl.of_below (F := fun _ => False) hb) (fun e => e) h.res, h.onl.on hb⟩
theorem Hq.put (h : Hq w0 w p S l q o T cs U ds) (h1 : q ≠ p) (h2 : o ≠ q) (hq : w0.heap.size ≤ q) (i : Nat) (v : Value) : Hq w0 (w.setCell ⟨q, i, none⟩ v) p S l q o T (cs.setIfInBounds i v) U ds :=
 ⟨h.vw.set h1 _ _, heap_setCell_same _ _ _ _ _ _ h.box, by rw [Below.heap_setCell _ _ _ _ (by show o ≠ q; omega)]; exact h.res, h.onl.setNew hq _ _⟩
theorem Hq.grown {ob : Option Nat} (h : Hq w0 w p S l q o T cs U ds) (hg : w.grownBy w' ob) (ho : ∀ g, ob = some g → q + 1 ≤ g) (hp : p < q) (hoq : o < q) (hw : w0.heap.size ≤ q) : Hq w0 w' p S l q o T cs U ds := by
 have hb : ∀ k, k ≤ q → k < w.heap.size → w'.heap[k]? = w.heap[k]? := fun k hk hs => hg.block k hs (fun e => by have := ho k e.symm; omega)
 have hql := (Array.getElem?_eq_some_iff.1 h.box).1; obtain ⟨a, h0, h1, h2⟩ := h.vw.box; exact ⟨⟨⟨a, by rw [hb p (by omega) (by omega)]; exact h0, h1, h2⟩, h.vw.b8, h.vw.len⟩, by rw [hb q (by omega) hql]; exact h.box, by rw [hb o (by omega) (by omega)]; exact h.res,
  ⟨hg.os.trans h.onl.os, hg.tape.trans h.onl.tape, hg.output.trans h.onl.output, Nat.le_trans h.onl.size hg.size, fun k hk hn => (hb k (by omega) (Nat.lt_of_lt_of_le hk h.onl.size)).trans (h.onl.block k hk hn)⟩⟩
theorem own_hq {B n size : Nat} {e : TypeId} {v : Value} {xs : List Value} (h : w.ownsRow B e size v n xs) (ho : Onl (fun k => k = p) w w') (hB : p < B) : w'.ownsRow B e size v n xs := owk h fun g hg => ho.block g (h.lt g hg).2 (fun e => by have := (h.lt g hg).1; omega)
end
theorem at_span (l : List Nat) : dSpan (.at l) = ((ofNats (vText l).1, ofNats (vText (vText l).2).1), .at (vText (vText l).2).2) := rfl
theorem vtext_eat {l : List Nat} (h : l ≠ []) : (vText l).2.length < l.length := by
 unfold vText vBytes; have := num_eat h; simp only [List.length_drop]; omega
theorem vtext_drops (l : List Nat) : (vText l).2.length ≤ l.length := by
 by_cases h : l = []
 ·subst h; decide
 ·exact Nat.le_of_lt (vtext_eat h)
theorem at_write (l : List Nat) : dWrite (.at l) = (⟨ofNats (vText l).1, decide ((vOne (vText l).2).1 = 1), ofNats (vText (vOne (vText l).2).2).1⟩, .at (vText (vOne (vText l).2).2).2) := rfl
theorem tN_at {α : Type} {t : Ds → α × Ds} (h : ∀ l, ∃ x r, t (.at l) = (x, .at r)) : ∀ (n : Nat) (l : List Nat), ∃ xs r, tN t n (.at l) = (xs, .at r)
 | 0, l => ⟨[], l, rfl⟩
 | n + 1, l => by
  rw [tN]; split
  ·exact ⟨[], l, rfl⟩
  ·obtain ⟨x, r, hx⟩ := h l; obtain ⟨xs, r', hxs⟩ := tN_at h n r; exact ⟨x :: xs, r', by rw [hx]; simp only; rw [hxs]⟩
theorem own_other {w w' : World} {b1 b2 n1 n2 s1 s2 : Nat} {e1 e2 : TypeId} {v1 v2 : Value} {xs ys : List Value} (h1 : w.ownsRow b1 e1 s1 v1 n1 xs) (h2 : w.ownsRow b2 e2 s2 v2 n2 ys) (hne : e1 ≠ e2) (hg : w.grownBy w' v2.ownBlock) : w'.ownsRow b1 e1 s1 v1 n1 xs := by
 refine owk h1 fun g hgb => hg.block g (h1.lt g hgb).2 ?_
 obtain ⟨_, ⟨rfl, _⟩ | ⟨g1, cap, cur, rfl, _, hg1, _⟩⟩ := h1
 ·simp [Value.ownBlock] at hgb
 ·obtain ⟨_, ⟨rfl, _⟩ | ⟨g', cap', cur', rfl, _, hg', _⟩⟩ := h2
  ·simp [Value.ownBlock]
  ·simp only [Value.ownBlock, Option.some.injEq] at hgb ⊢; intro e; rw [← hgb] at e; injection e with e
   subst e; rw [hg1] at hg'; injection hg' with hg'
   injection hg' with _ e _
   exact hne e
section
variable {w0 w : World} {p R : Nat} {S l : List Nat} {cs : Array Value}
theorem vw_row (h : Vw w p S l) (hp : p ≠ R) : Vw (w.setRow R cs) p S l := by
 obtain ⟨a, hb, h1, h2⟩ := h.box; exact ⟨⟨a, by rw [setRow_other _ _ _ _ hp]; exact hb, h1, h2⟩, h.b8, h.len⟩
theorem onl_row {F : Nat → Prop} (h : Onl F w0 w) (hR : w0.heap.size ≤ R) : Onl F w0 (w.setRow R cs) :=
 ⟨by simpa using h.os, by simpa using h.tape, by simpa using h.output, by simpa using h.size, fun k hk hn => by rw [setRow_other _ _ _ _ (by omega)]; exact h.block k hk hn⟩
theorem own_rowI {B n size : Nat} {e : TypeId} {v : Value} {xs : List Value} (h : w.ownsRow B e size v n xs) (hR : R < B) : (w.setRow R cs).ownsRow B e size v n xs :=
 owk h fun g hg => setRow_other _ _ _ _ (by have := (h.lt g hg).1; omega)
end
theorem one8I (a b c d e f : Int) (s1 s2 : Option Addr) (n1 c1 n2 c2 : Nat) : (#[.int .u32 a, .int .u32 b, .int .u32 c, .int .u64 d, .int .u32 e, .int .u32 f, .slice s1 n1 c1, .slice s2 n2 c2] : Array Value).all (·.oneCell') = true := by simp [Value.oneCell']
theorem results_cell {P : Program} {fn : Func} {t : Tmp} {ty : TypeId} (h : fn.results = #[.cell t ty]) {tmps : Array Value} {p : Addr} (ht : tmps.getD t undef = .pointer (some p)) {w : World} {v : Value} (hl : (loadVar ty p).run P w = .ok v w) :
  (results fn tmps).run P w = .ok v w := by
 have ht' : (tmps[t]?).getD undef = .pointer (some p) := by simpa using ht
 simp [results, h, ht', asAddr, hl]
theorem infoHd8 : (Tryz.prog.info? 100).map (·.size) = some 8 := by kernel_rfl
end Go.Proofs.YtofpaldolcnmiaaGreat.Ig
