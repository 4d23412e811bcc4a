import Derived.Test.YtofpaldolcnmiaaGreatB50
set_option linter.unusedVariables false
set_option maxHeartbeats 16000000
namespace Go.Proofs.YtofpaldolcnmiaaGreat.Ig
open Go.RowKit Go.Sort Ys
theorem bel_cell {B b o : Nat} {w w' : World} {v : Value} (h : Below B w w') (hb : b < B) (k : w.cell? ⟨b, o, none⟩ = some v) : w'.cell? ⟨b, o, none⟩ = some v := by rw [h.cell (p := ⟨b, o, none⟩) hb]; exact k
theorem Ec.drew {B : Nat} {a w : World} (h : Ec B a w) : Ec B a w.drew := ⟨⟨h.bel.os, h.bel.tape, h.bel.output, h.bel.size, h.bel.block⟩, h.typ⟩
theorem flat_more {α : Type} {l : List α} {i : Nat} {x : α} (f : α → List Nat) (h : l[i]? = some x) : (l.take (i + 1)).flatMap f = (l.take i).flatMap f ++ f x := by
 rw [List.take_add_one, h, List.flatMap_append]; simp
theorem flat_le_take {α : Type} (l : List α) (i : Nat) (f : α → List Nat) : ((l.take i).flatMap f).length ≤ (l.flatMap f).length := by
 conv => rhs; rw [← List.take_append_drop i l, List.flatMap_append, List.length_append]
 omega
theorem eMake {w W1 : World} (h : W1 = w.alloc (.cells #[.slice none 0 0] 171)) : ED w W1 w.heap.size w.heap.size [] := by
 subst h
 exact ⟨Ec.of (Below.al (Below.refl _ _) _) (Nat.le_refl _), ⟨none, 0, World.alloc_heap_new _ _, World.ownsRow_nil _ _ _ _⟩, B8.nil, Nat.le_refl _⟩
set_option maxRecDepth 16000 in
theorem dimage_is {w : World} {Bq q : Nat} {n top : Int} {wm : Vs.Sp} {U : List Lk.Hv} {E : List Lg.En} {V : List Vs.Kv} (h : Dst w Bq q n top wm U E V) (hn : okU 4294967295 n) (ht : okU 18446744073709551615 top) (hw : okS wm) (hU : ∀ u ∈ U, okTxn (u.h.id, u.h.home) ∧ okS (atHd u.h)) (hE : ∀ e ∈ E, okTxn (e.id, e.home) ∧ okS (atEn e)) (hV : ∀ v ∈ V, okS v.2.s)
  (hlT : (eImg (n, top, wm, U.map Lk.Hv.h, E, V)).length ≤ 1099511627776) (hlU : U.length ≤ 1099511627776) (hlr : ∀ u ∈ U, u.h.rs.length ≤ 1099511627776 ∧ u.h.ws.length ≤ 1099511627776) (hlE : E.length ≤ 1099511627776) (hlV : V.length ≤ 1099511627776) :
  Calls Tryz.prog 55 #[.pointer (some ⟨q, 0, none⟩)] w fun e w' => e = .returned (.string (ofNats (eImg (n, top, wm, U.map Lk.Hv.h, E, V)))) ∧ Below w.heap.size w w' := by
 have hok : ∀ u ∈ U, u.ok w := fun u hu => (h.fr u hu).ok (by have := (hlr u hu).1; omega) (by have := (hlr u hu).2; omega)
 obtain ⟨⟨aH, aE, aV, cH, cE, cV, kb, hO, hOE, hOV⟩, -, hq⟩ := h
 have RE : Hid (RowG Lg.ecs 7 w aE E) := hid (RowG.of_own Lg.ecs_len (by decide) hOE)
 have RV : Hid (Vs.RowV w aV V) := hid (Vs.OwnV.row (B := Bq) (c := cV) hOV)
 have C0 := hid (show w.cell? ⟨q, 0, none⟩ = some (.int .u32 n) from Vs.cell_of_obj (o := 0) kb rfl)
 have C1 := hid (show w.cell? ⟨q, 1, none⟩ = some (.int .u64 top) from Vs.cell_of_obj (o := 1) kb rfl)
 have C2 := hid (show w.cell? ⟨q, 2, none⟩ = some (.int .u64 wm.a) from Vs.cell_of_obj (o := 2) kb rfl)
 have C3 := hid (show w.cell? ⟨q, 3, none⟩ = some (.int .u32 wm.b) from Vs.cell_of_obj (o := 3) kb rfl)
 have C4 := hid (show w.cell? ⟨q, 4, none⟩ = some (.int .u32 wm.c) from Vs.cell_of_obj (o := 4) kb rfl)
 obtain ⟨m, hm⟩ : ∃ m, m = U.length := ⟨_, rfl⟩
 obtain ⟨mE, hmE⟩ : ∃ m, m = E.length := ⟨_, rfl⟩
 obtain ⟨mV, hmV⟩ : ∃ m, m = V.length := ⟨_, rfl⟩
 have C5 := hid (show w.cell? ⟨q, 5, none⟩ = some (.slice aH m cH) from by rw [hm]; exact Vs.cell_of_obj (o := 5) kb rfl)
 have C6 := hid (show w.cell? ⟨q, 6, none⟩ = some (.slice aE mE cE) from by rw [hmE]; exact Vs.cell_of_obj (o := 6) kb rfl)
 have C7 := hid (show w.cell? ⟨q, 7, none⟩ = some (.slice aV mV cV) from by rw [hmV]; exact Vs.cell_of_obj (o := 7) kb rfl)
 have hql := (Array.getElem?_eq_some_iff.1 kb).1
 have HQL := hid hql
 rw [← hm] at hO
 have OH := hid hO
 have HOK := hid hok
 have HU := hid hU
 have HE := hid hE
 have HV := hid hV
 have HLR := hid hlr
 have HM := hid hm
 have HME := hid hmE
 have HMV := hid hmV
 have b1 : m ≤ 1099511627776 := by rw [hm]; exact hlU
 have b2 : mE ≤ 1099511627776 := by rw [hmE]; exact hlE
 have b3 : mV ≤ 1099511627776 := by rw [hmV]; exact hlV
 have em : IntKind.u64.wrap (m : Int) = (m : Int) := by rw [IntKind.wrap_u64]; omega
 have emE : IntKind.u64.wrap (mE : Int) = (mE : Int) := by rw [IntKind.wrap_u64]; omega
 have emV : IntKind.u64.wrap (mV : Int) = (mV : Int) := by rw [IntKind.wrap_u64]; omega
 have en : IntKind.u64.wrap n = n := by rw [IntKind.wrap_u64]; have := hn.1; have : n ≤ 4294967295 := hn.2; omega
 have HT := hid ht
 have HN : Hid (okU 18446744073709551615 n) := hid ⟨hn.1, by have : n ≤ 4294967295 := hn.2; omega⟩
 have HW := hid hw
 have hI : eImg (n, top, wm, U.map Lk.Hv.h, E, V) = eU n ++ (eU top ++ (eS wm ++ ((vb m ++ U.flatMap fun v => eHeld v.h) ++ ((vb mE ++ E.flatMap eEntry) ++ (vb mV ++ V.flatMap eVersion))))) := by
  rw [hm, hmE, hmV]
  show eU n ++ (eU top ++ (eS wm ++ (eL eHeld (U.map Lk.Hv.h) ++ (eL eEntry E ++ eL eVersion V)))) = _
  unfold eL
  rw [List.length_map, List.flatMap_map]
 rw [hI] at hlT ⊢
 simp only [List.length_append] at hlT
 obtain ⟨P0, hP0⟩ : ∃ P : List Nat, P = [] := ⟨_, rfl⟩
 have lP0 : P0.length = 0 := by rw [hP0]; rfl
 obtain ⟨P1, hP1⟩ : ∃ X, X = P0 ++ eU n := ⟨_, rfl⟩
 obtain ⟨P2, hP2⟩ : ∃ X, X = P1 ++ eU top := ⟨_, rfl⟩
 obtain ⟨P3, hP3⟩ : ∃ X, X = P2 ++ eS wm := ⟨_, rfl⟩
 obtain ⟨P4, hP4⟩ : ∃ X, X = P3 ++ vb m := ⟨_, rfl⟩
 obtain ⟨P5, hP5⟩ : ∃ X, X = P4 ++ U.flatMap fun v => eHeld v.h := ⟨_, rfl⟩
 obtain ⟨P6, hP6⟩ : ∃ X, X = P5 ++ vb mE := ⟨_, rfl⟩
 obtain ⟨P7, hP7⟩ : ∃ X, X = P6 ++ E.flatMap eEntry := ⟨_, rfl⟩
 obtain ⟨P8, hP8⟩ : ∃ X, X = P7 ++ vb mV := ⟨_, rfl⟩
 obtain ⟨P9, hP9⟩ : ∃ X, X = P8 ++ V.flatMap eVersion := ⟨_, rfl⟩
 have lP1 : P1.length = P0.length + (eU n).length := by rw [hP1, List.length_append]
 have lP2 : P2.length = P1.length + (eU top).length := by rw [hP2, List.length_append]
 have lP3 : P3.length = P2.length + (eS wm).length := by rw [hP3, List.length_append]
 have lP4 : P4.length = P3.length + (vb m).length := by rw [hP4, List.length_append]
 have lP5 : P5.length = P4.length + (U.flatMap fun v => eHeld v.h).length := by rw [hP5, List.length_append]
 have lP6 : P6.length = P5.length + (vb mE).length := by rw [hP6, List.length_append]
 have lP7 : P7.length = P6.length + (E.flatMap eEntry).length := by rw [hP7, List.length_append]
 have lP8 : P8.length = P7.length + (vb mV).length := by rw [hP8, List.length_append]
 have lP9 : P9.length = P8.length + (V.flatMap eVersion).length := by rw [hP9, List.length_append]
 have LP0 : Hid (P0.length + (eU n).length ≤ 140737488355327) := hid (by omega)
 have LP1 : Hid (P1.length + (eU top).length ≤ 140737488355327) := hid (by omega)
 have LP2 : Hid (P2.length + (eS wm).length ≤ 140737488355327) := hid (by omega)
 have LP3 : Hid (P3.length + (vb m).length ≤ 140737488355327) := hid (by omega)
 have LP4 : Hid (P4.length + (U.flatMap fun v => eHeld v.h).length ≤ 140737488355327) := hid (by omega)
 have LP5 : Hid (P5.length + (vb mE).length ≤ 140737488355327) := hid (by omega)
 have LP6 : Hid (P6.length + (E.flatMap eEntry).length ≤ 140737488355327) := hid (by omega)
 have LP7 : Hid (P7.length + (vb mV).length ≤ 140737488355327) := hid (by omega)
 have LP8 : Hid (P8.length + (V.flatMap eVersion).length ≤ 140737488355327) := hid (by omega)
 have HP1 := hid hP1
 have HP2 := hid hP2
 have HP3 := hid hP3
 have HP4 := hid hP4
 have HP5 := hid hP5
 have HP6 := hid hP6
 have HP7 := hid hP7
 have HP8 := hid hP8
 have HP9 := hid hP9
 clear lP1 lP2 lP3 lP4 lP5 lP6 lP7 lP8 lP9 hP1 hP2 hP3 hP4 hP5 hP6 hP7 hP8 hP9
 have HALL : Hid (P9 = eU n ++ (eU top ++ (eS wm ++ ((vb m ++ U.flatMap fun v => eHeld v.h) ++ ((vb mE ++ E.flatMap eEntry) ++ (vb mV ++ V.flatMap eVersion)))))) := hid (by
  rw [HP9.out, HP8.out, HP7.out, HP6.out, HP5.out, HP4.out, HP3.out, HP2.out, HP1.out, hP0]
  simp only [List.append_assoc, List.nil_append])
 rw [← HALL.out]
 obtain ⟨W1, hW1⟩ : ∃ W1, W1 = w.alloc (.cells #[.slice none 0 0] 171) := ⟨_, rfl⟩
 have H0 : Hid (ED w W1 w.heap.size w.heap.size P0) := hid (by rw [hP0]; exact eMake hW1)
 have q0 : (w.alloc (.cells #[.slice none 0 0] 171)).cell? ⟨q, 0, none⟩ = some (.int .u32 n) := by rw [← hW1]; exact bel_cell H0.out.ec.bel hql C0.out
 clear hlT hI lP0 hP0 kb hO hOE hOV hq hn ht hw hU hE hV hlr hm hmE hmV hok hlU hlE hlV
 go_enter Tryz.func55, Tryz.ntmps55
 go_wp2_with fail
 rw [← hW1]
 clear hW1
 refine (eVar_is H0.out HN.out LP0.out).mono ?_
 rintro e z1 ⟨rfl, h1⟩
 have H1 := hid (show ED w z1 w.heap.size w.heap.size P1 from by rw [HP1.out]; exact H0.out.step h1)
 clear h1 q0
 have q1 := bel_cell H1.out.ec.bel hql C1.out
 go_wp2_with fail
 refine (eVar_is H1.out HT.out LP1.out).mono ?_
 rintro e z2 ⟨rfl, h2⟩
 have H2 := hid (show ED w z2 w.heap.size w.heap.size P2 from by rw [HP2.out]; exact H1.out.step h2)
 clear h2 q1
 have q2 := bel_cell H2.out.ec.bel hql C2.out
 have q3 := bel_cell H2.out.ec.bel hql C3.out
 have q4 := bel_cell H2.out.ec.bel hql C4.out
 go_wp2_with fail
 refine (eStamp_is (s := wm) H2.out HW.out LP2.out).mono ?_
 rintro e z3 ⟨rfl, h3⟩
 have H3 := hid (show ED w z3 w.heap.size w.heap.size P3 from by rw [HP3.out]; exact H2.out.step h3)
 clear h3 q2 q3 q4
 have q5 := bel_cell H3.out.ec.bel hql C5.out
 go_wp2_with fail
 refine (eVarN_is (v := m) H3.out (by omega) LP3.out).mono ?_
 rintro e z4 ⟨rfl, h4⟩
 have H4 := hid (show ED w z4 w.heap.size w.heap.size P4 from by rw [HP4.out]; exact H3.out.step h4)
 clear h4 q5
 go_wp2_with fail
 clear H0 H1 H2 H3
 go_loopg [4] m (fun g s4 wr => ∃ i : Nat, i ≤ m ∧ g = m - i ∧ s4 = .int .i64 i ∧ Hid (ED w wr w.heap.size w.heap.size (P4 ++ (U.take i).flatMap fun v => eHeld v.h)))
 case atStart => exact ⟨0, by omega, by omega, rfl, hid (by rw [List.take_zero, List.flatMap_nil, List.append_nil]; exact H4.out)⟩
 case round =>
  clear H4
  obtain ⟨i, hi1, rfl, rfl, HH⟩ := hrel
  have q5 := bel_cell HH.out.ec.bel hql C5.out
  by_cases hlt : i < m
  ·have hi2 : (i : Int) < (m : Int) := by omega
   obtain ⟨g, eg, hc⟩ := Lk.ownH_at OH.out HM.out.symm hlt
   obtain ⟨x, hx⟩ : ∃ x, x = Lk.nthH U i := ⟨_, rfl⟩
   have hiU : i < U.length := by rw [← HM.out]; exact hlt
   have hxi : U[i]? = some x := by rw [hx, nthH_at hiU, List.getElem?_eq_getElem hiU]
   have hxm : x ∈ U := List.mem_of_getElem? hxi
   rw [← hx] at hc
   have hrl : x.h.rs.length ≤ 1099511627776 := (HLR.out x hxm).1
   have hwl : x.h.ws.length ≤ 1099511627776 := (HLR.out x hxm).2
   have er : IntKind.u64.wrap (x.h.rs.length : Int) = (x.h.rs.length : Int) := by rw [IntKind.wrap_u64]; omega
   have ew : IntKind.u64.wrap (x.h.ws.length : Int) = (x.h.ws.length : Int) := by rw [IntKind.wrap_u64]; omega
   have HOX := hid (HOK.out x hxm)
   have HUX := hid (HU.out x hxm)
   subst eg
   have hgl : g < w.heap.size := World.block_lt_of_cell? _ _ (hc 0 _ rfl)
   have v0 : wr.cell? ⟨g, i * 8, none⟩ = some (.int .u32 x.h.id.1) := bel_cell HH.out.ec.bel hgl (hc 0 _ rfl)
   have v1 : wr.cell? ⟨g, i * 8 + 1, none⟩ = some (.int .u32 x.h.id.2) := bel_cell HH.out.ec.bel hgl (hc 1 _ rfl)
   have v2 : wr.cell? ⟨g, i * 8 + 2, none⟩ = some (.int .u32 x.h.home) := bel_cell HH.out.ec.bel hgl (hc 2 _ rfl)
   have v3 : wr.cell? ⟨g, i * 8 + 3, none⟩ = some (.int .u64 x.h.w) := bel_cell HH.out.ec.bel hgl (hc 3 _ rfl)
   have v4 : wr.cell? ⟨g, i * 8 + 4, none⟩ = some (.int .u32 x.h.l) := bel_cell HH.out.ec.bel hgl (hc 4 _ rfl)
   have v5 : wr.cell? ⟨g, i * 8 + 5, none⟩ = some (.int .u32 x.h.n) := bel_cell HH.out.ec.bel hgl (hc 5 _ rfl)
   have v6 : wr.cell? ⟨g, i * 8 + 6, none⟩ = some (.slice x.ra x.h.rs.length x.rc) := bel_cell HH.out.ec.bel hgl (hc 6 _ rfl)
   have v7 : wr.cell? ⟨g, i * 8 + 7, none⟩ = some (.slice x.wa x.h.ws.length x.wc) := bel_cell HH.out.ec.bel hgl (hc 7 _ rfl)
   obtain ⟨w5, hw5⟩ : ∃ w5, w5 = wr.alloc (.cells #[.int .u32 x.h.id.1, .int .u32 x.h.id.2, .int .u32 x.h.home, .int .u64 x.h.w, .int .u32 x.h.l, .int .u32 x.h.n, .slice x.ra x.h.rs.length x.rc, .slice x.wa x.h.ws.length x.wc] 100) := ⟨_, rfl⟩
   have k5 : w5.heap[wr.heap.size]? = some (.cells #[.int .u32 x.h.id.1, .int .u32 x.h.id.2, .int .u32 x.h.home, .int .u64 x.h.w, .int .u32 x.h.l, .int .u32 x.h.n, .slice x.ra x.h.rs.length x.rc, .slice x.wa x.h.ws.length x.wc] 100 (0, 0)) := by rw [hw5]; exact World.alloc_heap_new _ _
   obtain ⟨pb, hpb⟩ : ∃ pb, pb = wr.heap.size := ⟨_, rfl⟩
   rw [← hpb] at k5
   have K5 := hid k5
   have hflat := flat_more (fun v : Lk.Hv => eHeld v.h) hxi
   have hpre := flat_le_take U (i + 1) (fun v : Lk.Hv => eHeld v.h)
   have hLP := LP4.out
   rw [hflat] at hpre
   have hX : eHeld x.h = eTxn (x.h.id, x.h.home) ++ (eS (atHd x.h) ++ ((vb x.h.rs.length ++ x.h.rs.flatMap eSpan) ++ (vb x.h.ws.length ++ x.h.ws.flatMap eWrite))) := rfl
   have HFL : Hid ((U.take (i + 1)).flatMap (fun v => eHeld v.h) = (U.take i).flatMap (fun v => eHeld v.h) ++ eHeld x.h) := hid hflat
   have HXX := hid hX
   rw [hX] at hpre
   simp only [List.length_append] at hpre
   obtain ⟨X0, hX0⟩ : ∃ X, X = P4 ++ (U.take i).flatMap fun v => eHeld v.h := ⟨_, rfl⟩
   have lX0 : X0.length = P4.length + ((U.take i).flatMap fun v => eHeld v.h).length := by rw [hX0, List.length_append]
   have HX0 := hid hX0
   rw [← hX0] at HH
   obtain ⟨X1, hX1⟩ : ∃ X, X = X0 ++ eTxn (x.h.id, x.h.home) := ⟨_, rfl⟩
   obtain ⟨X2, hX2⟩ : ∃ X, X = X1 ++ eS (atHd x.h) := ⟨_, rfl⟩
   obtain ⟨X3, hX3⟩ : ∃ X, X = X2 ++ vb x.h.rs.length := ⟨_, rfl⟩
   obtain ⟨X4, hX4⟩ : ∃ X, X = X3 ++ x.h.rs.flatMap eSpan := ⟨_, rfl⟩
   obtain ⟨X5, hX5⟩ : ∃ X, X = X4 ++ vb x.h.ws.length := ⟨_, rfl⟩
   obtain ⟨X6, hX6⟩ : ∃ X, X = X5 ++ x.h.ws.flatMap eWrite := ⟨_, rfl⟩
   have lX1 : X1.length = X0.length + (eTxn (x.h.id, x.h.home)).length := by rw [hX1, List.length_append]
   have lX2 : X2.length = X1.length + (eS (atHd x.h)).length := by rw [hX2, List.length_append]
   have lX3 : X3.length = X2.length + (vb x.h.rs.length).length := by rw [hX3, List.length_append]
   have lX4 : X4.length = X3.length + (x.h.rs.flatMap eSpan).length := by rw [hX4, List.length_append]
   have lX5 : X5.length = X4.length + (vb x.h.ws.length).length := by rw [hX5, List.length_append]
   have lX6 : X6.length = X5.length + (x.h.ws.flatMap eWrite).length := by rw [hX6, List.length_append]
   have LX0 : Hid (X0.length + (eTxn (x.h.id, x.h.home)).length ≤ 140737488355327) := hid (by omega)
   have LX1 : Hid (X1.length + (eS (atHd x.h)).length ≤ 140737488355327) := hid (by omega)
   have LX2 : Hid (X2.length + (vb x.h.rs.length).length ≤ 140737488355327) := hid (by omega)
   have LX3 : Hid (X3.length + (x.h.rs.flatMap eSpan).length ≤ 140737488355327) := hid (by omega)
   have LX4 : Hid (X4.length + (vb x.h.ws.length).length ≤ 140737488355327) := hid (by omega)
   have LX5 : Hid (X5.length + (x.h.ws.flatMap eWrite).length ≤ 140737488355327) := hid (by omega)
   have HX1 := hid hX1
   have HX2 := hid hX2
   have HX3 := hid hX3
   have HX4 := hid hX4
   have HX5 := hid hX5
   have HX6 := hid hX6
   clear lX1 lX2 lX3 lX4 lX5 lX6 hX1 hX2 hX3 hX4 hX5 hX6
   have HX7 : Hid (X6 = P4 ++ (U.take (i + 1)).flatMap fun v => eHeld v.h) := hid (by rw [HX6.out, HX5.out, HX4.out, HX3.out, HX2.out, HX1.out, HX0.out, HFL.out, HXX.out]; simp only [List.append_assoc])
   have GW : Hid (ED w w5 w.heap.size w.heap.size X0) := hid (by rw [hw5]; exact HH.out.al _)
   have G0 : Hid (ED w5 w5 w.heap.size w.heap.size X0) := hid GW.out.refl
   have t0 : w5.cell? ⟨pb, 0, none⟩ = some (.int .u32 x.h.id.1) := Vs.cell_of_obj (o := 0) k5 rfl
   have t1 : w5.cell? ⟨pb, 1, none⟩ = some (.int .u32 x.h.id.2) := Vs.cell_of_obj (o := 1) k5 rfl
   have t2 : w5.cell? ⟨pb, 2, none⟩ = some (.int .u32 x.h.home) := Vs.cell_of_obj (o := 2) k5 rfl
   clear hflat hpre hLP hX lX0 hX0 hc k5 hx hxi hxm HH
   rw [hpb] at t0 t1 t2
   go_upto_region 10 with fail
   rw [← hw5, ← hpb]
   rw [← hpb] at t0 t1 t2
   clear hw5 hpb v0 v1 v2 v3 v4 v5 v6 v7 q5
   go_wp2_with fail
   refine (eWhose_is G0.out HUX.out.1 LX0.out).mono ?_
   rintro e z5 ⟨rfl, h5⟩
   have G1 := hid (show ED w5 z5 w.heap.size w.heap.size X1 from by rw [HX1.out]; exact G0.out.step h5)
   clear h5 t0 t1 t2
   have t3 := G1.out.ec.cell (o := 3) K5.out (by decide) (by decide) rfl
   have t4 := G1.out.ec.cell (o := 4) K5.out (by decide) (by decide) rfl
   have t5 := G1.out.ec.cell (o := 5) K5.out (by decide) (by decide) rfl
   go_wp2_with fail
   refine (eStamp_is (s := atHd x.h) G1.out HUX.out.2 LX1.out).mono ?_
   rintro e z6 ⟨rfl, h6⟩
   have G2 := hid (show ED w5 z6 w.heap.size w.heap.size X2 from by rw [HX2.out]; exact G1.out.step h6)
   clear h6 t3 t4 t5
   have t6 := G2.out.ec.cell (o := 6) K5.out (by decide) (by decide) rfl
   go_wp2_with fail
   refine (eVarN_is (v := x.h.rs.length) G2.out (by omega) LX2.out).mono ?_
   rintro e z7 ⟨rfl, h7⟩
   have G3 := hid (show ED w5 z7 w.heap.size w.heap.size X3 from by rw [HX3.out]; exact G2.out.step h7)
   clear h7 t6
   go_wp2_with fail
   go_loopg [6] x.h.rs.length (fun g s6 wr => ∃ k : Nat, k ≤ x.h.rs.length ∧ g = x.h.rs.length - k ∧ s6 = .int .i64 k ∧ Hid (ED w5 wr w.heap.size w.heap.size (X3 ++ (x.h.rs.take k).flatMap eSpan)))
   case atStart => exact ⟨0, by omega, by omega, rfl, hid (by rw [List.take_zero, List.flatMap_nil, List.append_nil]; exact G3.out)⟩
   case round =>
    clear G3
    obtain ⟨k, hk1, rfl, rfl, GG⟩ := hrel
    have t6 := GG.out.ec.cell (o := 6) K5.out (by decide) (by decide) rfl
    by_cases hkl : k < x.h.rs.length
    ·have hk2 : (k : Int) < (x.h.rs.length : Int) := by omega
     obtain ⟨b, off, ex, d0, d1⟩ := HOX.out.r k hkl
     obtain ⟨y, hy⟩ : ∃ y, y = nth2 x.h.rs k := ⟨_, rfl⟩
     have hyi : x.h.rs[k]? = some y := by rw [hy]; simp [nth2, hkl]
     rw [← hy] at d0 d1
     have hbl : b < w.heap.size := World.block_lt_of_cell? _ _ d0
     have D0 := hid d0
     have D1 := hid d1
     have GWW := hid (GW.out.step GG.out)
     have HEX := hid ex
     rw [ex] at t6
     have hflat := flat_more eSpan hyi
     have hpre := flat_le_take x.h.rs (k + 1) eSpan
     have hLX := LX3.out
     have HFK := hid hflat
     rw [hflat] at hpre
     have hY : eSpan y = eX y.1 ++ (eX y.2) := rfl
     have HYY := hid hY
     rw [hY] at hpre
     simp only [List.length_append] at hpre
     obtain ⟨Y0, hY0⟩ : ∃ X, X = X3 ++ (x.h.rs.take k).flatMap eSpan := ⟨_, rfl⟩
     have lY0 : Y0.length = X3.length + ((x.h.rs.take k).flatMap eSpan).length := by rw [hY0, List.length_append]
     have HY0 := hid hY0
     rw [← hY0] at GG GWW
     obtain ⟨Y1, hY1⟩ : ∃ X, X = Y0 ++ eX y.1 := ⟨_, rfl⟩
     obtain ⟨Y2, hY2⟩ : ∃ X, X = Y1 ++ eX y.2 := ⟨_, rfl⟩
     have lY1 : Y1.length = Y0.length + (eX y.1).length := by rw [hY1, List.length_append]
     have lY2 : Y2.length = Y1.length + (eX y.2).length := by rw [hY2, List.length_append]
     have LY0 : Hid (Y0.length + (eX y.1).length ≤ 140737488355327) := hid (by omega)
     have LY1 : Hid (Y1.length + (eX y.2).length ≤ 140737488355327) := hid (by omega)
     have HY1 := hid hY1
     have HY2 := hid hY2
     clear lY1 lY2 hY1 hY2
     have HYE : Hid (Y2 = X3 ++ (x.h.rs.take (k + 1)).flatMap eSpan) := hid (by rw [HY2.out, HY1.out, HY0.out, HFK.out, HYY.out]; simp only [List.append_assoc])
     clear hflat hpre hLX hY lY0 hY0 hy hyi ex d0 d1
     have s0 := bel_cell GWW.out.ec.bel hbl D0.out
     go_wp2_with fail
     refine (eText_is GG.out LY0.out).mono ?_
     rintro e z8 ⟨rfl, h8⟩
     have GA0 := hid (show ED w5 z8 w.heap.size w.heap.size Y1 from by rw [HY1.out]; exact GG.out.step h8)
     clear h8 s0 t6
     have t6 := GA0.out.ec.cell (o := 6) K5.out (by decide) (by decide) rfl
     rw [HEX.out] at t6
     have s0 := bel_cell (GW.out.step GA0.out).ec.bel hbl D1.out
     go_wp2_with fail
     refine (eText_is GA0.out LY1.out).mono ?_
     rintro e z9 ⟨rfl, h9⟩
     have GA1 := hid (show ED w5 z9 w.heap.size w.heap.size Y2 from by rw [HY2.out]; exact GA0.out.step h9)
     clear h9 s0 t6
     go_wp2_with fail
     go_roundg (x.h.rs.length - (k + 1))
     case measure => omega
     case rel => exact ⟨k + 1, by omega, rfl, by go_num, hid (by rw [← HYE.out]; exact GA1.out)⟩
    ·have hke : k = x.h.rs.length := by omega
     have G4 := hid (show ED w5 wr w.heap.size w.heap.size X4 from by have := GG.out; rw [hke, List.take_of_length_le (Nat.le_refl _)] at this; rw [HX4.out]; exact this)
     clear GG hkl hk1
     have t7 := G4.out.ec.cell (o := 7) K5.out (by decide) (by decide) rfl
     go_wp2_with fail
     refine (eVarN_is (v := x.h.ws.length) G4.out (by omega) LX4.out).mono ?_
     rintro e z10 ⟨rfl, h10⟩
     have G5 := hid (show ED w5 z10 w.heap.size w.heap.size X5 from by rw [HX5.out]; exact G4.out.step h10)
     clear h10 t6 t7
     go_wp2_with fail
     go_loopg [7] x.h.ws.length (fun g s6 wr => ∃ k : Nat, k ≤ x.h.ws.length ∧ g = x.h.ws.length - k ∧ s6 = .int .i64 k ∧ Hid (ED w5 wr w.heap.size w.heap.size (X5 ++ (x.h.ws.take k).flatMap eWrite)))
     case atStart => exact ⟨0, by omega, by omega, rfl, hid (by rw [List.take_zero, List.flatMap_nil, List.append_nil]; exact G5.out)⟩
     case round =>
      clear G5
      obtain ⟨k, hk1, rfl, rfl, GG⟩ := hrel
      have t6 := GG.out.ec.cell (o := 7) K5.out (by decide) (by decide) rfl
      by_cases hkl : k < x.h.ws.length
      ·have hk2 : (k : Int) < (x.h.ws.length : Int) := by omega
       obtain ⟨b, off, ex, d0, d1, d2⟩ := HOX.out.w k hkl
       obtain ⟨y, hy⟩ : ∃ y, y = nthW x.h.ws k := ⟨_, rfl⟩
       have hyi : x.h.ws[k]? = some y := by rw [hy]; simp [nthW, hkl]
       rw [← hy] at d0 d1 d2
       have hbl : b < w.heap.size := World.block_lt_of_cell? _ _ d0
       have D0 := hid d0
       have D1 := hid d1
       have D2 := hid d2
       have GWW := hid (GW.out.step GG.out)
       have HEX := hid ex
       rw [ex] at t6
       have hflat := flat_more eWrite hyi
       have hpre := flat_le_take x.h.ws (k + 1) eWrite
       have hLX := LX5.out
       have HFK := hid hflat
       rw [hflat] at hpre
       have hY : eWrite y = eX y.key ++ (eFlag y.del ++ (eX y.val)) := rfl
       have HYY := hid hY
       rw [hY] at hpre
       simp only [List.length_append] at hpre
       obtain ⟨Y0, hY0⟩ : ∃ X, X = X5 ++ (x.h.ws.take k).flatMap eWrite := ⟨_, rfl⟩
       have lY0 : Y0.length = X5.length + ((x.h.ws.take k).flatMap eWrite).length := by rw [hY0, List.length_append]
       have HY0 := hid hY0
       rw [← hY0] at GG GWW
       obtain ⟨Y1, hY1⟩ : ∃ X, X = Y0 ++ eX y.key := ⟨_, rfl⟩
       obtain ⟨Y2, hY2⟩ : ∃ X, X = Y1 ++ eFlag y.del := ⟨_, rfl⟩
       obtain ⟨Y3, hY3⟩ : ∃ X, X = Y2 ++ eX y.val := ⟨_, rfl⟩
       have lY1 : Y1.length = Y0.length + (eX y.key).length := by rw [hY1, List.length_append]
       have lY2 : Y2.length = Y1.length + (eFlag y.del).length := by rw [hY2, List.length_append]
       have lY3 : Y3.length = Y2.length + (eX y.val).length := by rw [hY3, List.length_append]
       have LY0 : Hid (Y0.length + (eX y.key).length ≤ 140737488355327) := hid (by omega)
       have LY1 : Hid (Y1.length + (eFlag y.del).length ≤ 140737488355327) := hid (by omega)
       have LY2 : Hid (Y2.length + (eX y.val).length ≤ 140737488355327) := hid (by omega)
       have HY1 := hid hY1
       have HY2 := hid hY2
       have HY3 := hid hY3
       clear lY1 lY2 lY3 hY1 hY2 hY3
       have HYE : Hid (Y3 = X5 ++ (x.h.ws.take (k + 1)).flatMap eWrite) := hid (by rw [HY3.out, HY2.out, HY1.out, HY0.out, HFK.out, HYY.out]; simp only [List.append_assoc])
       clear hflat hpre hLX hY lY0 hY0 hy hyi ex d0 d1 d2
       have s0 := bel_cell GWW.out.ec.bel hbl D0.out
       go_wp2_with fail
       refine (eText_is GG.out LY0.out).mono ?_
       rintro e z11 ⟨rfl, h11⟩
       have GA0 := hid (show ED w5 z11 w.heap.size w.heap.size Y1 from by rw [HY1.out]; exact GG.out.step h11)
       clear h11 s0 t6
       have t6 := GA0.out.ec.cell (o := 7) K5.out (by decide) (by decide) rfl
       rw [HEX.out] at t6
       have s0 := bel_cell (GW.out.step GA0.out).ec.bel hbl D1.out
       go_wp2_with fail
       refine (eFlag_is GA0.out LY1.out).mono ?_
       rintro e z12 ⟨rfl, h12⟩
       have GA1 := hid (show ED w5 z12 w.heap.size w.heap.size Y2 from by rw [HY2.out]; exact GA0.out.step h12)
       clear h12 s0 t6
       have t6 := GA1.out.ec.cell (o := 7) K5.out (by decide) (by decide) rfl
       rw [HEX.out] at t6
       have s0 := bel_cell (GW.out.step GA1.out).ec.bel hbl D2.out
       go_wp2_with fail
       refine (eText_is GA1.out LY2.out).mono ?_
       rintro e z13 ⟨rfl, h13⟩
       have GA2 := hid (show ED w5 z13 w.heap.size w.heap.size Y3 from by rw [HY3.out]; exact GA1.out.step h13)
       clear h13 s0 t6
       go_wp2_with fail
       go_roundg (x.h.ws.length - (k + 1))
       case measure => omega
       case rel => exact ⟨k + 1, by omega, rfl, by go_num, hid (by rw [← HYE.out]; exact GA2.out)⟩
      ·have hke : k = x.h.ws.length := by omega
       have G6 := hid (show ED w5 wr w.heap.size w.heap.size X6 from by have := GG.out; rw [hke, List.take_of_length_le (Nat.le_refl _)] at this; rw [HX6.out]; exact this)
       clear GG hkl hk1
       have HHN := hid (show ED w wr w.heap.size w.heap.size (P4 ++ (U.take (i + 1)).flatMap fun v => eHeld v.h) from by rw [← HX7.out]; exact GW.out.step G6.out)
       go_wp2_with fail
       go_roundg (m - (i + 1))
       case measure => omega
       case rel => exact ⟨i + 1, by omega, rfl, by go_num, HHN⟩
  ·have hie : i = m := by omega
   have H5 := hid (show ED w wr w.heap.size w.heap.size P5 from by have := HH.out; rw [hie, HM.out, List.take_of_length_le (Nat.le_refl _)] at this; rw [HP5.out]; exact this)
   have hni : ¬ ((i : Int) < (m : Int)) := by omega
   clear HH hlt hi1 hie
   have q6 := bel_cell H5.out.ec.bel hql C6.out
   go_wp2_with fail
   refine (eVarN_is (v := mE) H5.out (by omega) LP5.out).mono ?_
   rintro e z14 ⟨rfl, h14⟩
   have H6 := hid (show ED w z14 w.heap.size w.heap.size P6 from by rw [HP6.out]; exact H5.out.step h14)
   clear h14 q5 q6
   go_wp2_with fail
   go_loopg [8] mE (fun g s8 wr => ∃ i : Nat, i ≤ mE ∧ g = mE - i ∧ s8 = .int .i64 i ∧ Hid (ED w wr w.heap.size w.heap.size (P6 ++ (E.take i).flatMap eEntry)))
   case atStart => exact ⟨0, by omega, by omega, rfl, hid (by rw [List.take_zero, List.flatMap_nil, List.append_nil]; exact H6.out)⟩
   case round =>
    clear H6
    obtain ⟨i, hi1, rfl, rfl, HH⟩ := hrel
    have q6 := bel_cell HH.out.ec.bel hql C6.out
    by_cases hlt : i < mE
    ·have hi2 : (i : Int) < (mE : Int) := by omega
     have hiE : i < E.length := by rw [← HME.out]; exact hlt
     have hxi : E[i]? = some (nE E i) := by rw [nE_get hiE, List.getElem?_eq_getElem hiE]
     obtain ⟨x, hx⟩ : ∃ x, x = nE E i := ⟨_, rfl⟩
     rw [← hx] at hxi
     have hxm : x ∈ E := List.mem_of_getElem? hxi
     obtain ⟨g, off, eg, hc⟩ := RE.out i x hxi
     have HEX := hid (HE.out x hxm)
     have HEG := hid eg
     rw [eg] at q6
     have hgl : g < w.heap.size := World.block_lt_of_cell? _ _ (hc 0 _ rfl)
     have HCC := hid hc
     have hflat := flat_more eEntry hxi
     have hpre := flat_le_take E (i + 1) eEntry
     have hLX := LP6.out
     have HFK := hid hflat
     rw [hflat] at hpre
     have hY : eEntry x = eTxn (x.id, x.home) ++ (eB x.oc ++ (eS (atEn x))) := rfl
     have HYY := hid hY
     rw [hY] at hpre
     simp only [List.length_append] at hpre
     obtain ⟨Y0, hY0⟩ : ∃ X, X = P6 ++ (E.take i).flatMap eEntry := ⟨_, rfl⟩
     have lY0 : Y0.length = P6.length + ((E.take i).flatMap eEntry).length := by rw [hY0, List.length_append]
     have HY0 := hid hY0
     rw [← hY0] at HH
     obtain ⟨Y1, hY1⟩ : ∃ X, X = Y0 ++ eTxn (x.id, x.home) := ⟨_, rfl⟩
     obtain ⟨Y2, hY2⟩ : ∃ X, X = Y1 ++ eB x.oc := ⟨_, rfl⟩
     obtain ⟨Y3, hY3⟩ : ∃ X, X = Y2 ++ eS (atEn x) := ⟨_, rfl⟩
     have lY1 : Y1.length = Y0.length + (eTxn (x.id, x.home)).length := by rw [hY1, List.length_append]
     have lY2 : Y2.length = Y1.length + (eB x.oc).length := by rw [hY2, List.length_append]
     have lY3 : Y3.length = Y2.length + (eS (atEn x)).length := by rw [hY3, List.length_append]
     have LY0 : Hid (Y0.length + (eTxn (x.id, x.home)).length ≤ 140737488355327) := hid (by omega)
     have LY1 : Hid (Y1.length + (eB x.oc).length ≤ 140737488355327) := hid (by omega)
     have LY2 : Hid (Y2.length + (eS (atEn x)).length ≤ 140737488355327) := hid (by omega)
     have HY1 := hid hY1
     have HY2 := hid hY2
     have HY3 := hid hY3
     clear lY1 lY2 lY3 hY1 hY2 hY3
     have HYE : Hid (Y3 = P6 ++ (E.take (i + 1)).flatMap eEntry) := hid (by rw [HY3.out, HY2.out, HY1.out, HY0.out, HFK.out, HYY.out]; simp only [List.append_assoc])
     clear hflat hpre hLX hY lY0 hY0
     have v0 : wr.cell? ⟨g, off + i * 7, none⟩ = some (.int .u32 x.id.1) := bel_cell HH.out.ec.bel hgl (hc 0 _ rfl)
     have v1 : wr.cell? ⟨g, off + i * 7 + 1, none⟩ = some (.int .u32 x.id.2) := bel_cell HH.out.ec.bel hgl (hc 1 _ rfl)
     have v2 : wr.cell? ⟨g, off + i * 7 + 2, none⟩ = some (.int .u32 x.home) := bel_cell HH.out.ec.bel hgl (hc 2 _ rfl)
     have CW : Hid (∀ W, Ec w.heap.size wr W → EncD W w.heap.size w.heap.size Y0 → Calls Tryz.prog 111 #[.pointer (some ⟨w.heap.size, 0, none⟩), .agg #[.int .u32 x.id.1, .int .u32 x.id.2], .int .u32 x.home] W fun e w' => e = .returned (.tuple #[]) ∧ ED W w' w.heap.size w.heap.size (Y0 ++ eTxn (x.id, x.home))) := hid fun W hW hD => eWhose_is (w0 := wr) ⟨hW, hD⟩ HEX.out.1 LY0.out
     clear hc hx hxi hxm eg
     go_upto_region 29 with fail
     go_cut [8] (fun s8 wz => s8 = .int .i64 i ∧ Hid (ED w wz w.heap.size w.heap.size Y1))
     case first =>
      have hED := HH.out.enc
      have hSZ := HH.out.lo
      go_region_held3 (fun z => z.cell? ⟨q, 6, none⟩ = some (.slice (some ⟨g, off, none⟩) mE cE) ∧ z.cell? ⟨g, off + i * 7, none⟩ = some (.int .u32 x.id.1) ∧ z.cell? ⟨g, off + i * 7 + 1, none⟩ = some (.int .u32 x.id.2) ∧ z.cell? ⟨g, off + i * 7 + 2, none⟩ = some (.int .u32 x.home) ∧ Ec w.heap.size wr z)
       ((refine (fun (hO : Ec w.heap.size wr _) => ⟨bel_cell hO.bel hql q6, bel_cell hO.bel hgl v0, bel_cell hO.bel hgl v1, bel_cell hO.bel hgl v2, hO⟩) ?_; (repeat (first | with_reducible exact Ec.refl _ _ | with_reducible assumption | with_reducible refine Ec.drew ?_))))
       (first | (go_at_call 111; refine (CW.out _ (by repeat (first | with_reducible exact Ec.refl _ _ | with_reducible assumption | with_reducible refine Ec.drew ?_)) (hED.later belr)).mono ?_; rintro e w2 ⟨rfl, hP⟩; have hO2 : Ec w.heap.size wr w2 := ((Ec.refl w.heap.size wr).drew).trans hP.ec; have hE2 := hid hP.enc))
      all_goals (try go_wp2_with fail)
      all_goals go_meet
      all_goals exact ⟨rfl, hid ⟨HH.out.ec.trans (by assumption), by rw [HY1.out]; exact hE2.out⟩⟩
     case rest =>
      obtain ⟨rfl, HA⟩ := hcut
      clear q6 v0 v1 v2 CW HH
      have q6 := bel_cell HA.out.ec.bel hql C6.out
      rw [HEG.out] at q6
      have v3 : wc.cell? ⟨g, off + i * 7 + 3, none⟩ = some (.int .i64 x.oc) := bel_cell HA.out.ec.bel hgl (HCC.out 3 _ rfl)
      have eo : IntKind.u8.wrap x.oc = x.oc % 256 := wrap_u8E _
      have eB1 : x.oc % 256 = (((x.oc % 256).toNat : Nat) : Int) := by omega
      obtain ⟨ob, hob⟩ : ∃ ob, ob = (x.oc % 256).toNat := ⟨_, rfl⟩
      have ho8 : ob < 256 := by omega
      rw [← hob] at eB1
      rw [eB1] at eo
      have HOB : Hid (eB x.oc = [ob]) := hid (by rw [hob]; rfl)
      clear hob eB1
      rw [HOB.out] at LY1 HY2
      go_wp2_with fail
      refine (eByte_is (v := ob) HA.out ho8 (Nat.le_trans LY1.out (by decide))).mono ?_
      rintro e z15 ⟨rfl, h15⟩
      have HB := hid (show ED w z15 w.heap.size w.heap.size Y2 from by rw [HY2.out]; exact HA.out.step h15)
      clear h15 q6 v3
      have q6 := bel_cell HB.out.ec.bel hql C6.out
      rw [HEG.out] at q6
      have v4 : z15.cell? ⟨g, off + i * 7 + 4, none⟩ = some (.int .u64 x.w) := bel_cell HB.out.ec.bel hgl (HCC.out 4 _ rfl)
      have v5 : z15.cell? ⟨g, off + i * 7 + 5, none⟩ = some (.int .u32 x.l) := bel_cell HB.out.ec.bel hgl (HCC.out 5 _ rfl)
      have v6 : z15.cell? ⟨g, off + i * 7 + 6, none⟩ = some (.int .u32 x.n) := bel_cell HB.out.ec.bel hgl (HCC.out 6 _ rfl)
      go_wp2_with fail
      refine (eStamp_is (s := atEn x) HB.out HEX.out.2 LY2.out).mono ?_
      rintro e z16 ⟨rfl, h16⟩
      have HC := hid (show ED w z16 w.heap.size w.heap.size Y3 from by rw [HY3.out]; exact HB.out.step h16)
      clear h16 q6 v4 v5 v6
      go_wp2_with fail
      go_roundg (mE - (i + 1))
      case measure => omega
      case rel => exact ⟨i + 1, by omega, rfl, by go_num, hid (by rw [← HYE.out]; exact HC.out)⟩
    ·have hie : i = mE := by omega
     have H7 := hid (show ED w wr w.heap.size w.heap.size P7 from by have := HH.out; rw [hie, HME.out, List.take_of_length_le (Nat.le_refl _)] at this; rw [HP7.out]; exact this)
     have hni : ¬ ((i : Int) < (mE : Int)) := by omega
     clear HH hlt hi1 hie
     have q7 := bel_cell H7.out.ec.bel hql C7.out
     go_wp2_with fail
     refine (eVarN_is (v := mV) H7.out (by omega) LP7.out).mono ?_
     rintro e z17 ⟨rfl, h17⟩
     have H8 := hid (show ED w z17 w.heap.size w.heap.size P8 from by rw [HP8.out]; exact H7.out.step h17)
     clear h17 q6 q7
     go_wp2_with fail
     go_loopg [9] mV (fun g s8 wr => ∃ i : Nat, i ≤ mV ∧ g = mV - i ∧ s8 = .int .i64 i ∧ Hid (ED w wr w.heap.size w.heap.size (P8 ++ (V.take i).flatMap eVersion)))
     case atStart => exact ⟨0, by omega, by omega, rfl, hid (by rw [List.take_zero, List.flatMap_nil, List.append_nil]; exact H8.out)⟩
     case round =>
      clear H8
      obtain ⟨i, hi1, rfl, rfl, HH⟩ := hrel
      have q6 := bel_cell HH.out.ec.bel hql C7.out
      by_cases hlt : i < mV
      ·have hi2 : (i : Int) < (mV : Int) := by omega
       have hiE : i < V.length := by rw [← HMV.out]; exact hlt
       have hxi : V[i]? = some (Vs.nthK V i) := by rw [Vs.nthK_get hiE, List.getElem?_eq_getElem hiE]
       obtain ⟨x, hx⟩ : ∃ x, x = Vs.nthK V i := ⟨_, rfl⟩
       rw [← hx] at hxi
       have hxm : x ∈ V := List.mem_of_getElem? hxi
       obtain ⟨g, off, eg, hva⟩ := RV.out i hiE
       rw [← hx] at hva
       obtain ⟨d0, d1, d2, d3, d4, d5⟩ := hva
       have HEX := hid (HV.out x hxm)
       have HEG := hid eg
       rw [eg] at q6
       have hgl : g < w.heap.size := World.block_lt_of_cell? _ _ d0
       have D0 := hid d0
       have D1 := hid d1
       have D2 := hid d2
       have D3 := hid d3
       have D4 := hid d4
       have D5 := hid d5
       have hflat := flat_more eVersion hxi
       have hpre := flat_le_take V (i + 1) eVersion
       have hLX := LP8.out
       have HFK := hid hflat
       rw [hflat] at hpre
       have hY : eVersion x = eX x.1 ++ (eS x.2.s ++ (eFlag x.2.del ++ (eX x.2.val))) := rfl
       have HYY := hid hY
       rw [hY] at hpre
       simp only [List.length_append] at hpre
       obtain ⟨Y0, hY0⟩ : ∃ X, X = P8 ++ (V.take i).flatMap eVersion := ⟨_, rfl⟩
       have lY0 : Y0.length = P8.length + ((V.take i).flatMap eVersion).length := by rw [hY0, List.length_append]
       have HY0 := hid hY0
       rw [← hY0] at HH
       obtain ⟨Y1, hY1⟩ : ∃ X, X = Y0 ++ eX x.1 := ⟨_, rfl⟩
       obtain ⟨Y2, hY2⟩ : ∃ X, X = Y1 ++ eS x.2.s := ⟨_, rfl⟩
       obtain ⟨Y3, hY3⟩ : ∃ X, X = Y2 ++ eFlag x.2.del := ⟨_, rfl⟩
       obtain ⟨Y4, hY4⟩ : ∃ X, X = Y3 ++ eX x.2.val := ⟨_, rfl⟩
       have lY1 : Y1.length = Y0.length + (eX x.1).length := by rw [hY1, List.length_append]
       have lY2 : Y2.length = Y1.length + (eS x.2.s).length := by rw [hY2, List.length_append]
       have lY3 : Y3.length = Y2.length + (eFlag x.2.del).length := by rw [hY3, List.length_append]
       have lY4 : Y4.length = Y3.length + (eX x.2.val).length := by rw [hY4, List.length_append]
       have LY0 : Hid (Y0.length + (eX x.1).length ≤ 140737488355327) := hid (by omega)
       have LY1 : Hid (Y1.length + (eS x.2.s).length ≤ 140737488355327) := hid (by omega)
       have LY2 : Hid (Y2.length + (eFlag x.2.del).length ≤ 140737488355327) := hid (by omega)
       have LY3 : Hid (Y3.length + (eX x.2.val).length ≤ 140737488355327) := hid (by omega)
       have HY1 := hid hY1
       have HY2 := hid hY2
       have HY3 := hid hY3
       have HY4 := hid hY4
       clear lY1 lY2 lY3 lY4 hY1 hY2 hY3 hY4
       have HYE : Hid (Y4 = P8 ++ (V.take (i + 1)).flatMap eVersion) := hid (by rw [HY4.out, HY3.out, HY2.out, HY1.out, HY0.out, HFK.out, HYY.out]; simp only [List.append_assoc])
       clear hflat hpre hLX hY lY0 hY0
       clear hx hxi hxm eg d0 d1 d2 d3 d4 d5
       have s0 := bel_cell HH.out.ec.bel hgl D0.out
       go_wp2_with fail
       refine (eText_is HH.out LY0.out).mono ?_
       rintro e z18 ⟨rfl, h18⟩
       have HA := hid (show ED w z18 w.heap.size w.heap.size Y1 from by rw [HY1.out]; exact HH.out.step h18)
       clear h18 q6 s0
       have q6 := bel_cell HA.out.ec.bel hql C7.out
       rw [HEG.out] at q6
       have s0 := bel_cell HA.out.ec.bel hgl D1.out
       have s1 := bel_cell HA.out.ec.bel hgl D2.out
       have s2 := bel_cell HA.out.ec.bel hgl D3.out
       go_wp2_with fail
       refine (eStamp_is (s := x.2.s) HA.out HEX.out LY1.out).mono ?_
       rintro e z19 ⟨rfl, h19⟩
       have HB := hid (show ED w z19 w.heap.size w.heap.size Y2 from by rw [HY2.out]; exact HA.out.step h19)
       clear h19 q6 s0 s1 s2
       have q6 := bel_cell HB.out.ec.bel hql C7.out
       rw [HEG.out] at q6
       have s0 := bel_cell HB.out.ec.bel hgl D4.out
       go_wp2_with fail
       refine (eFlag_is HB.out LY2.out).mono ?_
       rintro e z20 ⟨rfl, h20⟩
       have HC := hid (show ED w z20 w.heap.size w.heap.size Y3 from by rw [HY3.out]; exact HB.out.step h20)
       clear h20 q6 s0
       have q6 := bel_cell HC.out.ec.bel hql C7.out
       rw [HEG.out] at q6
       have s0 := bel_cell HC.out.ec.bel hgl D5.out
       go_wp2_with fail
       refine (eText_is HC.out LY3.out).mono ?_
       rintro e z21 ⟨rfl, h21⟩
       have HD := hid (show ED w z21 w.heap.size w.heap.size Y4 from by rw [HY4.out]; exact HC.out.step h21)
       clear h21 q6 s0
       go_wp2_with fail
       go_roundg (mV - (i + 1))
       case measure => omega
       case rel => exact ⟨i + 1, by omega, rfl, by go_num, hid (by rw [← HYE.out]; exact HD.out)⟩
      ·have hie : i = mV := by omega
       have H9 := hid (show ED w wr w.heap.size w.heap.size P9 from by have := HH.out; rw [hie, HMV.out, List.take_of_length_le (Nat.le_refl _)] at this; rw [HP9.out]; exact this)
       have hni : ¬ ((i : Int) < (mV : Int)) := by omega
       clear HH hlt hi1 hie
       go_wp2_with fail
       refine (eBytes_is H9.out).mono ?_
       rintro e z99 ⟨rfl, h99⟩
       have HZ := hid (H9.out.ec.bel.trans (h99.mono H9.out.lo))
       clear h99
       go_wp2_with fail
       go_ret
       exact ⟨rfl, HZ.out⟩
end Go.Proofs.YtofpaldolcnmiaaGreat.Ig
