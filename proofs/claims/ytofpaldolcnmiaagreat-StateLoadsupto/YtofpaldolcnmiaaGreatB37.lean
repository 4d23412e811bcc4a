import Derived.Test.YtofpaldolcnmiaaGreatB36
set_option linter.unusedVariables false
set_option maxHeartbeats 8000000
namespace Go.Proofs.YtofpaldolcnmiaaGreat.Ig
open Go.RowKit Go.Sort Ys
set_option linter.unusedSimpArgs false
theorem tpt {P : Program} {ops : Array Oper} {Q : Exit → Act → World → Prop} {md : Region.Mode} {S : World → Prop} {i : Nat} {oi : Oper} {v : Value} {d : Tmp} {fuel : Nat} {listed : Array Bool} {tm : Array Value} {df : List Deferred} {w : World} (hi : ops[i]? = some oi) (hd : oi.dst = some d)
  (hs : Region.noSelect ops = true) (hf : Region.free md ops listed i = true) (hr : (Region.ready md ops listed).contains i = true)
  (hQ : ∀ c (a : Act) w, Q (.panic c) (a.put (some d) v) w → Q (.panic c) a w) (hy : YieldsIf P ops S oi v ⟨tm, df⟩) (hS : S w)
  (h : wpAnyH P md ops Q S fuel (listed.setIfInBounds i true) ⟨tm.setIfInBounds d v, df⟩ w) : wpAnyH P md ops Q S (fuel + 1) listed ⟨tm, df⟩ w :=
 wpAnyH_take hi hs hf hr (by rw [hd]; exact hQ) hy hS (by rw [hd]; exact h)
theorem take_none {w : World} {p b o : Nat} {n : Int} {d : Ds} (hok : takeP n d = none) (hx : (tU 4294967295 d).1 = n) (kp : w.heap[p]? = some (.cells (scs (zero n) none none none none) SS (0, 0))) (h : DOk w w b o d) (hne : p ≠ b) :
  Calls Tryz.prog 38 #[.pointer (some ⟨p, 0, none⟩), .pointer (some ⟨b, o, none⟩)] w fun e w' => e = .returned (.bool false) ∧ Onl (fun k => k = p ∨ k = b) w w' := by
 obtain ⟨x0, d0, e0⟩ : ∃ y dd, tU 4294967295 d = (y, dd) := ⟨_, _, rfl⟩; obtain ⟨x1, d1, e1⟩ : ∃ y dd, tU 18446744073709551615 d0 = (y, dd) := ⟨_, _, rfl⟩; obtain ⟨x2, d2, e2⟩ : ∃ y dd, tS d1 = (y, dd) := ⟨_, _, rfl⟩; obtain ⟨hs, d3, e3⟩ : ∃ y dd, tL tHeld d2 = (y, dd) := ⟨_, _, rfl⟩; obtain ⟨es, d4, e4⟩ : ∃ y dd, tL tEntry d3 = (y, dd) := ⟨_, _, rfl⟩; obtain ⟨vs, d5, e5⟩ : ∃ y dd, tL tVersion d4 = (y, dd) := ⟨_, _, rfl⟩; have hP : takeP n d = if x0 = n then fillP n x1 x2 hs es vs else none := by
  have hE : tImg d = ((x0, x1, x2, hs, es, vs), d5) := by simp only [tImg, tP, e0, e1, e2, e3, e4, e5]
  unfold takeP; rw [hE]
 obtain ⟨s1, hs1⟩ : ∃ s1 : Ps, s1 = ⟨n, x1, [], [], Vs.loadM vs, x2, false, ⟨0, 0, 0⟩⟩ := ⟨_, rfl⟩; have hy : x0 = n ∧ (fvB x1 vs x2 = false ∨ (fvB x1 vs x2 = true ∧ (feS s1 es = none ∨ ∃ s2, feS s1 es = some s2 ∧ (fhS s2 hs = none ∨ ∃ s3, fhS s2 hs = some s3 ∧ ovT vs hs = true)))) := by
  have g0 : x0 = n := by rw [e0] at hx; exact hx
  rw [hP, if_pos g0] at hok; refine ⟨g0, ?_⟩; unfold fillP at hok; rw [← hs1] at hok; cases hfv : fvB x1 vs x2 with
  | false => exact .inl rfl
  | true =>
   rw [hfv, if_pos rfl] at hok; refine .inr ⟨rfl, ?_⟩; cases hfe : feS s1 es with
   | none => exact .inl rfl
   | some s2 =>
    rw [hfe] at hok; simp only at hok; refine .inr ⟨s2, rfl, ?_⟩; cases hfh : fhS s2 hs with
    | none => exact .inl rfl
    | some s4 =>
     rw [hfh] at hok; simp only at hok; refine .inr ⟨s4, rfl, ?_⟩; cases hov : ovT vs hs with
     | true => rfl
     | false => rw [hov] at hok; cases hok
 have HY := hid hy; have HS1 := hid hs1; clear hP hok hy hs1 hx; have hd := h.ln; have l0 : d0.left.length ≤ 1099511627776 := by have := u_sh 4294967295 d; rw [e0] at this; exact Nat.le_trans this hd
 have l1 : d1.left.length ≤ 1099511627776 := by have := u_sh 18446744073709551615 d0; rw [e1] at this; exact Nat.le_trans this l0
 have l2 : d2.left.length ≤ 1099511627776 := by have := stamp_sh d1; rw [← show (tS d1).2 = d2 from congrArg Prod.snd e2]; exact Nat.le_trans this l1
 have l3 : d3.left.length ≤ 1099511627776 := by have := l_sh held_sh d2; rw [e3] at this; exact Nat.le_trans this l2
 have l4 : d4.left.length ≤ 1099511627776 := by have := l_sh entry_sh d3; rw [e4] at this; exact Nat.le_trans this l3
 have q3 : hs.length ≤ 1099511627776 := by have := tL_left held_eat d2; rw [e3] at this; exact Nat.le_trans this l2
 have q4 : es.length ≤ 1099511627776 := by have := tL_left entry_eat d3; rw [e4] at this; exact Nat.le_trans this l3
 have q5 : vs.length ≤ 1099511627776 := by have := tL_left version_eat d4; rw [e5] at this; exact Nat.le_trans this l4
 have r3 : ∀ x ∈ hs, HdR x := by have := tL_all (P := HdR) held_sh (fun dd h9 => tHeld_r dd h9) d2 l2; rw [e3] at this; exact this
 have r4 : ∀ x ∈ es, EnR x := by have := tL_all (P := EnR) entry_sh (fun dd _ => tEntry_r dd) d3 l3; rw [e4] at this; exact this
 have HQ : Hid (hs.length ≤ 1099511627776 ∧ es.length ≤ 1099511627776 ∧ vs.length ≤ 1099511627776 ∧ (∀ x ∈ hs, HdR x) ∧ (∀ x ∈ es, EnR x)) := ⟨q3, q4, q5, r3, r4⟩; have E0 := hid e0; have E1 := hid e1; have E2 := hid e2; have E3 := hid e3; have E4 := hid e4; have E5 := hid e5; have hbl := h.lt; have hpl : p < w.heap.size := (Array.getElem?_eq_some_iff.1 kp).1; have HK := hid kp; have H := hid h; have c0 := Vs.cob (o := 0) kp rfl; clear h kp e0 e1 e2 e3 e4 e5 hd l0 l1 l2 l3 l4 q3 q4 q5 r3 r4; go_enter Tryz.func38, Tryz.ntmps38
 go_wp2_with fail
 have hxb : (x0 != n) = false := by simpa using HY.out.1
 go_upto_region 1 with fail
 go_cut [15] (fun s15 wz => s15 = .bool false ∧ Hid (DOk w wz b o d0) ∧ Hid (wz.heap[p]? = some (.cells (scs (zero n) none none none none) SS (0, 0))))
 case first =>
  go_region_with (go_at_call 73; refine (takeNumber_is H.out.drew E0.out).mono ?_; rintro e w1 ⟨rfl, h1⟩; have H1 := hid (H.out.drew.step h1); have K1 := hid ((h1.cel.block p hpl hne).trans HK.out); have c0 := Vs.cob (o := 0) K1.out rfl; clear h1)
  all_goals go_wp2_with fail
  all_goals go_meet
  all_goals exact ⟨by simp, H1, K1⟩
 case rest =>
  obtain ⟨rfl, H1, K1⟩ := hcut; clear c0; have c1 := Vs.cob (o := 1) K1.out rfl; have cf : ∀ j, wc.frozen? ⟨p, j, none⟩ = false := fun j => frozen_of_row wc p j _ _ K1.out
  go_wp2_with (go_at_call 74; refine (dok_var (m := 18446744073709551615) (mi := 18446744073709551615) H1.out rfl E1.out).mono ?_; rintro e w2 ⟨rfl, h2⟩; have H2 := hid (H1.out.step h2); have K2 := hid ((h2.cel.block p (Nat.lt_of_lt_of_le hpl H1.out.cel.size) hne).trans K1.out); have c1 := Vs.cob (o := 1) K2.out rfl; have cf : ∀ j, w2.frozen? ⟨p, j, none⟩ = false := (fun j => frozen_of_row w2 p j _ _ K2.out); clear h2)
  obtain ⟨w3, hw3⟩ : ∃ w3, w3 = w2.setCell ⟨p, 1, none⟩ (.int .u64 x1) := ⟨_, rfl⟩; have H3 : Hid (DOk w3 w3 b o d1) := by rw [hw3]; exact hid (H2.out.setOther hne _)
  have K3 : Hid (w3.heap[p]? = some (.cells (scs ⟨n, x1, [], [], [], ⟨0, 0, 0⟩, false, ⟨0, 0, 0⟩⟩ none none none none) SS (0, 0))) := by
   rw [hw3]; exact hid (heap_put _ K2.out)
  have HO3 : Hid (Onl (fun k => k = p ∨ k = b) w w3) := by
   rw [hw3]; exact hid (((cel_onl H2.out.cel).mono fun k hk => .inr hk).set (p := p) (.inl rfl) _ _)
  have hs3 : w.heap.size ≤ w3.heap.size := HO3.out.size; rw [← hw3]; clear hw3 H2 K2 H1 K1 c1 cf; go_wp2_with fail
  refine (dok_stamp H3.out E2.out).mono ?_; rintro e w4 ⟨rfl, h4⟩; have H4 := hid (H3.out.step h4); clear h4; go_wp2_with fail
  obtain ⟨w5, hw5⟩ : ∃ w5, w5 = w4.alloc (.cells #[.int .u64 x2.a, .int .u32 x2.b, .int .u32 x2.c] 36) := ⟨_, rfl⟩; have hb5 : Below w4.heap.size w4 w5 := by rw [hw5]; exact Below.al (Below.refl _ _) _
  have k5 : w5.heap[w4.heap.size]? = some (.cells #[.int .u64 x2.a, .int .u32 x2.b, .int .u32 x2.c] 36 (0, 0)) := by rw [hw5]; exact World.alloc_heap_new _ _
  have hs5 : w4.heap.size < w5.heap.size := by rw [hw5]; simp
  have H5 := hid (H4.out.later hb5); have hs4 : w3.heap.size ≤ w4.heap.size := H4.out.cel.size; rw [← hw5]; have KM := hid k5; clear hw5 hb5 k5 H4; refine (takeHelds_is H5.out E3.out).mono ?_; rintro e w6 ⟨U, aH, cH, rfl, HU, OH, FH, h6⟩; have H6 := hid (H5.out.step h6); have hl6 := h6.cel.size; have C6 := hid h6.cel; clear h6; go_wp2_with fail
  refine (takeEntries_is H6.out E4.out).mono ?_; rintro e w7 ⟨aE, cE, rfl, OE, h7⟩; have H7 := hid (H6.out.step h7); have hbB : b < w5.heap.size := Nat.lt_of_lt_of_le hbl (by omega); have hpB : p < w5.heap.size := Nat.lt_of_lt_of_le hpl (by omega); have OH7 := hid (own_cel OH.out h7.cel hbB); have FH7 : Hid (∀ u ∈ U, u.fresh w5.heap.size w7) := fun u hu => fresh_cel (FH.out u hu) h7.cel hbB
  have hl7 := h7.cel.size; have C7 := hid h7.cel; clear h7; go_wp2_with fail
  refine (takeVersions_is H7.out E5.out).mono ?_; rintro e w8 ⟨aV, cV, rfl, OV, h8⟩; have H8 := hid (H7.out.step h8); have R8 : Hid (Rws w8 p w5.heap.size aH cH U aE cE es aV cV vs) := by
   have h9 := HQ.out; have hul : U.length = hs.length := by rw [← HU.out, List.length_map]
   exact ⟨hpB, own_cel OH7.out h8.cel hbB, fun u hu => fresh_cel (FH7.out u hu) h8.cel hbB, Lk.owb (own_cel OE.out h8.cel (by omega)) (by omega), Lk.owb OV.out (by omega), by rw [hul]; exact h9.1, h9.2.1, h9.2.2.1, fun u hu => h9.2.2.2.1 _ (by rw [← HU.out]; exact List.mem_map.2 ⟨u, hu, rfl⟩), h9.2.2.2.2⟩
  have K8 : Hid (w8.heap[p]? = some (.cells (scs ⟨n, x1, [], [], [], ⟨0, 0, 0⟩, false, ⟨0, 0, 0⟩⟩ none none none none) SS (0, 0))) := (H8.out.cel.block p (Nat.lt_of_lt_of_le hpl hs3) hne).trans K3.out; have HO8 : Hid (Onl (fun k => k = p ∨ k = b) w w8) := HO3.out.trans ((cel_onl H8.out.cel).mono fun k hk => .inr hk); have KM8 : Hid (w8.heap[w4.heap.size]? = some (.cells #[.int .u64 x2.a, .int .u32 x2.b, .int .u32 x2.c] 36 (0, 0))) := by
   have hmb : w4.heap.size ≠ b := by omega
   exact (h8.cel.block _ (by omega) hmb).trans ((C7.out.block _ (by omega) hmb).trans ((C6.out.block _ hs5 hmb).trans KM.out))
  go_wp2_with fail
  clear h8 OH FH OE OV OH7 FH7 C6 C7 KM H5 H6 H7 H8 K3 H3; have m0 := Vs.cob (o := 0) KM8.out rfl; have m1 := Vs.cob (o := 1) KM8.out rfl; have m2 := Vs.cob (o := 2) KM8.out rfl; have hs8 : w.heap.size ≤ w8.heap.size := HO8.out.size; have hpl8 : p < w8.heap.size := by omega
  have hmp : ¬ w4.heap.size = p := by omega
  rcases HY.out.2 with hu1 | ⟨hu1, hr2⟩
  ·clear KM8 HY; have F1 : Hid (∀ W, Below w8.heap.size w8 W → Calls Tryz.prog 82 #[.pointer (some ⟨p, 1, none⟩), .slice aV vs.length cV, .agg #[.int .u64 x2.a, .int .u32 x2.b, .int .u32 x2.c]] W fun e w' => e = .returned (.bool false) ∧ Hid (false = true → ∃ F, Ys.St F w' p none none none [] [] s1 ∧ ∀ b, F b → b = p ∨ w8.heap.size ≤ b) ∧ Hid (Rws w' p w5.heap.size aH cH U aE cE es aV cV vs) ∧ Onl (fun b => b = p) w8 w') := fun W hb => by
    rw [← hu1, HS1.out]; refine (fv_is (R8.out.later hb) ((hb.block p hpl8).trans K8.out) x2).mono ?_; rintro e w' ⟨h1, h2, h3⟩; have h3' : Onl (fun b => b = p) w8 w' := (Onl.of_below hb).trans h3.out; exact ⟨h1, fun hq => (absurd (hu1.symm.trans hq) (by decide)), R8.out.onl h3', h3'⟩
   clear hu1; have hmix : Tryz.prog.follows .mixedOrders = true := by kernel_rfl
   refine wp_region_held (S := (fun z => z.cell? ⟨w4.heap.size, 0, none⟩ = some (.int .u64 x2.a) ∧ z.cell? ⟨w4.heap.size, 1, none⟩ = some (.int .u32 x2.b) ∧ z.cell? ⟨w4.heap.size, 2, none⟩ = some (.int .u32 x2.c) ∧ Onl (fun k => k = p) w8 z)) hmix ?_; change wpAnyH _ _ _ _ _ _ _ _ w8.drew
   have hS0 : w8.drew.cell? ⟨w4.heap.size, 0, none⟩ = some (.int .u64 x2.a) ∧ w8.drew.cell? ⟨w4.heap.size, 1, none⟩ = some (.int .u32 x2.b) ∧ w8.drew.cell? ⟨w4.heap.size, 2, none⟩ = some (.int .u32 x2.c) ∧ Onl (fun k => k = p) w8 w8.drew := ⟨m0, m1, m2, (Onl.refl _ _).drew⟩; refine tpt (i := 0) (d := 30) (v := .pointer (some ⟨p, 0, none⟩)) rfl rfl (by kernel_rfl) (by kernel_rfl) (by kernel_rfl) (fun _ _ _ h => h) (.inl ⟨by kernel_rfl, fun w' hS => ?_⟩) hS0 ?_
   ·simp [go_sem, execOp]
   simp only [sqa, sqb, sqc]; refine tpt (i := 1) (d := 31) (v := .pointer (some ⟨p, 0, none⟩)) rfl rfl (by kernel_rfl) (by kernel_rfl) (by kernel_rfl) (fun _ _ _ h => h) (.inl ⟨by kernel_rfl, fun w' hS => ?_⟩) hS0 ?_
   ·simp [go_sem, execOp]
   simp only [sqa, sqb, sqc]; refine tpt (i := 2) (d := 32) (v := .pointer (some ⟨p, 1, none⟩)) rfl rfl (by kernel_rfl) (by kernel_rfl) (by kernel_rfl) (fun _ _ _ h => h) (.inl ⟨by kernel_rfl, fun w' hS => ?_⟩) hS0 ?_
   ·simp [go_sem, execOp]
   simp only [sqa, sqb, sqc]; refine tpt (i := 3) (d := 33) (v := .slice aV vs.length cV) rfl rfl (by kernel_rfl) (by kernel_rfl) (by kernel_rfl) (fun _ _ _ h => h) (.inl ⟨by kernel_rfl, fun w' hS => ?_⟩) hS0 ?_
   ·simp [go_sem, execOp]
   simp only [sqa, sqb, sqc]; refine tpt (i := 4) (d := 34) (v := .agg #[.int .u64 x2.a, .int .u32 x2.b, .int .u32 x2.c]) rfl rfl (by kernel_rfl) (by kernel_rfl) (by kernel_rfl) (fun _ _ _ h => h) (.inl ⟨by kernel_rfl, fun w' hS => ?_⟩) hS0 ?_
   ·obtain ⟨s1, s2, s3, -⟩ := hS; simp [go_sem, execOp, s1, s2, s3]
   simp only [sqa, sqb, sqc]; refine wpAnyH_all (rs := [5]) (by kernel_rfl) (by simp) ?_; intro i hi; obtain rfl := List.mem_singleton.1 hi; unfold wpOp; simp only [List.getElem?_toArray, List.getElem?_cons_succ, List.getElem?_cons_zero]; rw [if_pos (by kernel_rfl)]; left
   go_wp2_with (go_at_call 82; refine (F1.out _ (by (repeat (first | with_reducible exact Below.refl _ _ | with_reducible assumption | with_reducible refine Below.drew ?_ | with_reducible refine Below.al ?_ _ | with_reducible refine Below.setCell ?_ (by first | exact Nat.le_refl _ | simp <;> omega) _ | with_reducible refine Below.on ?_ (by assumption))))).mono ?_; rintro e w9 ⟨rfl, S9, R9, hO9⟩)
   have hS9 : w9.cell? ⟨w4.heap.size, 0, none⟩ = some (.int .u64 x2.a) ∧ w9.cell? ⟨w4.heap.size, 1, none⟩ = some (.int .u32 x2.b) ∧ w9.cell? ⟨w4.heap.size, 2, none⟩ = some (.int .u32 x2.c) ∧ Onl (fun k => k = p) w8 w9 := ⟨hO9.cell hmp m0, hO9.cell hmp m1, hO9.cell hmp m2, hO9⟩; refine ⟨(by first | exact hS9 | exact ⟨hS9.1, hS9.2.1, hS9.2.2.1⟩), ?_⟩; refine tpt (i := 6) (d := 36) (v := .bool false) rfl rfl (by kernel_rfl) (by kernel_rfl) (by kernel_rfl) (fun _ _ _ h => h) (.inl ⟨by kernel_rfl, fun w' hS => ?_⟩) hS9 ?_
   ·simp [go_sem, execOp]
   simp only [sqa, sqb, sqc]; refine tpt (i := 7) (d := 37) (v := undef) rfl rfl (by kernel_rfl) (by kernel_rfl) (by kernel_rfl) (fun _ _ _ h => h) (.inr ⟨by kernel_rfl, rfl⟩) hS9 ?_; simp only [sqa, sqb, sqc]; refine tpt (i := 8) (d := 38) (v := undef) rfl rfl (by kernel_rfl) (by kernel_rfl) (by kernel_rfl) (fun _ _ _ h => h) (.inr ⟨by kernel_rfl, rfl⟩) hS9 ?_; simp only [sqa, sqb, sqc]; refine tpt (i := 9) (d := 39) (v := undef) rfl rfl (by kernel_rfl) (by kernel_rfl) (by kernel_rfl) (fun _ _ _ h => h) (.inr ⟨by kernel_rfl, rfl⟩) hS9 ?_; simp only [sqa, sqb, sqc]
   refine tpt (i := 10) (d := 40) (v := undef) rfl rfl (by kernel_rfl) (by kernel_rfl) (by kernel_rfl) (fun _ _ _ h => h) (.inr ⟨by kernel_rfl, rfl⟩) hS9 ?_; simp only [sqa, sqb, sqc]; refine tpt (i := 11) (d := 41) (v := undef) rfl rfl (by kernel_rfl) (by kernel_rfl) (by kernel_rfl) (fun _ _ _ h => h) (.inr ⟨by kernel_rfl, rfl⟩) hS9 ?_; simp only [sqa, sqb, sqc]; refine tpt (i := 12) (d := 42) (v := .bool false) rfl rfl (by kernel_rfl) (by kernel_rfl) (by kernel_rfl) (fun _ _ _ h => h) (.inl ⟨by kernel_rfl, fun w' hS => ?_⟩) hS9 ?_
   ·simp [go_sem, execOp]
   simp only [sqa, sqb, sqc]; refine tpt (i := 13) (d := 43) (v := .bool false) rfl rfl (by kernel_rfl) (by kernel_rfl) (by kernel_rfl) (fun _ _ _ h => h) (.inl ⟨by kernel_rfl, fun w' hS => ?_⟩) hS9 ?_
   ·simp [go_sem, execOp]
   simp only [sqa, sqb, sqc]; refine tpt (i := 14) (d := 44) (v := undef) rfl rfl (by kernel_rfl) (by kernel_rfl) (by kernel_rfl) (fun _ _ _ h => h) (.inr ⟨by kernel_rfl, rfl⟩) hS9 ?_; simp only [sqa, sqb, sqc]; refine tpt (i := 15) (d := 45) (v := undef) rfl rfl (by kernel_rfl) (by kernel_rfl) (by kernel_rfl) (fun _ _ _ h => h) (.inr ⟨by kernel_rfl, rfl⟩) hS9 ?_; simp only [sqa, sqb, sqc]; refine tpt (i := 16) (d := 46) (v := undef) rfl rfl (by kernel_rfl) (by kernel_rfl) (by kernel_rfl) (fun _ _ _ h => h) (.inr ⟨by kernel_rfl, rfl⟩) hS9 ?_; simp only [sqa, sqb, sqc]
   refine tpt (i := 17) (d := 47) (v := undef) rfl rfl (by kernel_rfl) (by kernel_rfl) (by kernel_rfl) (fun _ _ _ h => h) (.inr ⟨by kernel_rfl, rfl⟩) hS9 ?_; simp only [sqa, sqb, sqc]; refine tpt (i := 18) (d := 48) (v := undef) rfl rfl (by kernel_rfl) (by kernel_rfl) (by kernel_rfl) (fun _ _ _ h => h) (.inr ⟨by kernel_rfl, rfl⟩) hS9 ?_; simp only [sqa, sqb, sqc]; refine tpt (i := 19) (d := 49) (v := .bool false) rfl rfl (by kernel_rfl) (by kernel_rfl) (by kernel_rfl) (fun _ _ _ h => h) (.inl ⟨by kernel_rfl, fun w' hS => ?_⟩) hS9 ?_
   ·simp [go_sem, execOp]
   simp only [sqa, sqb, sqc]; refine tpt (i := 20) (d := 50) (v := .bool false) rfl rfl (by kernel_rfl) (by kernel_rfl) (by kernel_rfl) (fun _ _ _ h => h) (.inl ⟨by kernel_rfl, fun w' hS => ?_⟩) hS9 ?_
   ·simp [go_sem, execOp]
   simp only [sqa, sqb, sqc]; refine tpt (i := 21) (d := 51) (v := undef) rfl rfl (by kernel_rfl) (by kernel_rfl) (by kernel_rfl) (fun _ _ _ h => h) (.inr ⟨by kernel_rfl, rfl⟩) hS9 ?_; simp only [sqa, sqb, sqc]; refine tpt (i := 22) (d := 52) (v := undef) rfl rfl (by kernel_rfl) (by kernel_rfl) (by kernel_rfl) (fun _ _ _ h => h) (.inr ⟨by kernel_rfl, rfl⟩) hS9 ?_; simp only [sqa, sqb, sqc]; refine tpt (i := 23) (d := 53) (v := undef) rfl rfl (by kernel_rfl) (by kernel_rfl) (by kernel_rfl) (fun _ _ _ h => h) (.inr ⟨by kernel_rfl, rfl⟩) hS9 ?_; simp only [sqa, sqb, sqc]
   refine tpt (i := 24) (d := 54) (v := undef) rfl rfl (by kernel_rfl) (by kernel_rfl) (by kernel_rfl) (fun _ _ _ h => h) (.inr ⟨by kernel_rfl, rfl⟩) hS9 ?_; simp only [sqa, sqb, sqc]; refine tpt (i := 25) (d := 55) (v := .bool false) rfl rfl (by kernel_rfl) (by kernel_rfl) (by kernel_rfl) (fun _ _ _ h => h) (.inl ⟨by kernel_rfl, fun w' hS => ?_⟩) hS9 ?_
   ·simp [go_sem, execOp]
   simp only [sqa, sqb, sqc]; refine tpt (i := 26) (d := 4) (v := .bool false) rfl rfl (by kernel_rfl) (by kernel_rfl) (by kernel_rfl) (fun _ _ _ h => h) (.inl ⟨by kernel_rfl, fun w' hS => ?_⟩) hS9 ?_
   ·simp [go_sem, execOp]
   simp only [sqa, sqb, sqc]; refine wpAnyH_done (by kernel_rfl) ?_ _; all_goals (try go_wp2_with fail)
   all_goals go_ret
   all_goals exact ⟨(by first | rfl | simp [go_sem]), HO8.out.trans (hO9.mono fun k hk => .inl hk)⟩
  ·rcases hr2 with hfe | ⟨s2, hfe, hr3⟩
   ·have HFE9 : Hid ((feS s1 es).isSome = false) := by rw [hfe]; exact hid rfl
    clear KM8 HY hfe; have F1 : Hid (∀ W, Below w8.heap.size w8 W → Calls Tryz.prog 82 #[.pointer (some ⟨p, 1, none⟩), .slice aV vs.length cV, .agg #[.int .u64 x2.a, .int .u32 x2.b, .int .u32 x2.c]] W fun e w' => e = .returned (.bool true) ∧ Hid (true = true → ∃ F, Ys.St F w' p none none none [] [] s1 ∧ ∀ b, F b → b = p ∨ w8.heap.size ≤ b) ∧ Hid (Rws w' p w5.heap.size aH cH U aE cE es aV cV vs) ∧ Onl (fun b => b = p) w8 w') := fun W hb => by
     rw [← hu1, HS1.out]; refine (fv_is (R8.out.later hb) ((hb.block p hpl8).trans K8.out) x2).mono ?_; rintro e w' ⟨h1, h2, h3⟩; have h3' : Onl (fun b => b = p) w8 w' := (Onl.of_below hb).trans h3.out; exact ⟨h1, fun hq => (by obtain ⟨F, q1, q2⟩ := h2.out hu1; exact ⟨F, q1, fun k hk => (q2 k hk).imp id (fun h8 => Nat.le_trans hb.size h8)⟩), R8.out.onl h3', h3'⟩
    clear hu1; have hmix : Tryz.prog.follows .mixedOrders = true := by kernel_rfl
    refine wp_region_held (S := (fun z => z.cell? ⟨w4.heap.size, 0, none⟩ = some (.int .u64 x2.a) ∧ z.cell? ⟨w4.heap.size, 1, none⟩ = some (.int .u32 x2.b) ∧ z.cell? ⟨w4.heap.size, 2, none⟩ = some (.int .u32 x2.c) ∧ Onl (fun k => k = p) w8 z)) hmix ?_; change wpAnyH _ _ _ _ _ _ _ _ w8.drew
    have hS0 : w8.drew.cell? ⟨w4.heap.size, 0, none⟩ = some (.int .u64 x2.a) ∧ w8.drew.cell? ⟨w4.heap.size, 1, none⟩ = some (.int .u32 x2.b) ∧ w8.drew.cell? ⟨w4.heap.size, 2, none⟩ = some (.int .u32 x2.c) ∧ Onl (fun k => k = p) w8 w8.drew := ⟨m0, m1, m2, (Onl.refl _ _).drew⟩; refine tpt (i := 0) (d := 30) (v := .pointer (some ⟨p, 0, none⟩)) rfl rfl (by kernel_rfl) (by kernel_rfl) (by kernel_rfl) (fun _ _ _ h => h) (.inl ⟨by kernel_rfl, fun w' hS => ?_⟩) hS0 ?_
    ·simp [go_sem, execOp]
    simp only [sqa, sqb, sqc]; refine tpt (i := 1) (d := 31) (v := .pointer (some ⟨p, 0, none⟩)) rfl rfl (by kernel_rfl) (by kernel_rfl) (by kernel_rfl) (fun _ _ _ h => h) (.inl ⟨by kernel_rfl, fun w' hS => ?_⟩) hS0 ?_
    ·simp [go_sem, execOp]
    simp only [sqa, sqb, sqc]; refine tpt (i := 2) (d := 32) (v := .pointer (some ⟨p, 1, none⟩)) rfl rfl (by kernel_rfl) (by kernel_rfl) (by kernel_rfl) (fun _ _ _ h => h) (.inl ⟨by kernel_rfl, fun w' hS => ?_⟩) hS0 ?_
    ·simp [go_sem, execOp]
    simp only [sqa, sqb, sqc]; refine tpt (i := 3) (d := 33) (v := .slice aV vs.length cV) rfl rfl (by kernel_rfl) (by kernel_rfl) (by kernel_rfl) (fun _ _ _ h => h) (.inl ⟨by kernel_rfl, fun w' hS => ?_⟩) hS0 ?_
    ·simp [go_sem, execOp]
    simp only [sqa, sqb, sqc]; refine tpt (i := 4) (d := 34) (v := .agg #[.int .u64 x2.a, .int .u32 x2.b, .int .u32 x2.c]) rfl rfl (by kernel_rfl) (by kernel_rfl) (by kernel_rfl) (fun _ _ _ h => h) (.inl ⟨by kernel_rfl, fun w' hS => ?_⟩) hS0 ?_
    ·obtain ⟨s1, s2, s3, -⟩ := hS; simp [go_sem, execOp, s1, s2, s3]
    simp only [sqa, sqb, sqc]; refine wpAnyH_all (rs := [5]) (by kernel_rfl) (by simp) ?_; intro i hi; obtain rfl := List.mem_singleton.1 hi; unfold wpOp; simp only [List.getElem?_toArray, List.getElem?_cons_succ, List.getElem?_cons_zero]; rw [if_pos (by kernel_rfl)]; left
    go_wp2_with (go_at_call 82; refine (F1.out _ (by (repeat (first | with_reducible exact Below.refl _ _ | with_reducible assumption | with_reducible refine Below.drew ?_ | with_reducible refine Below.al ?_ _ | with_reducible refine Below.setCell ?_ (by first | exact Nat.le_refl _ | simp <;> omega) _ | with_reducible refine Below.on ?_ (by assumption))))).mono ?_; rintro e w9 ⟨rfl, S9, R9, hO9⟩; obtain ⟨F9, T9, B9⟩ := S9.out rfl; have F2 : Hid (∀ W, Below w9.heap.size w9 W → Calls Tryz.prog 83 #[.pointer (some ⟨p, 1, none⟩), .slice aE es.length cE] W fun e w' => e = .returned (.bool false) ∧ Hid (∀ s', feS s1 es = some s' → ∃ m, Ys.St F9 w' p none none m [] [] s' ∧ ∀ b, m = some b → w8.heap.size ≤ b) ∧ Hid (Rws w' p w5.heap.size aH cH U aE cE es aV cV vs) ∧ Onl (fun b => b = p) w8 w') := fe_for HFE9.out hO9 R9.out T9; have HT9 := hid T9; clear T9)
    have hS9 : w9.cell? ⟨w4.heap.size, 0, none⟩ = some (.int .u64 x2.a) ∧ w9.cell? ⟨w4.heap.size, 1, none⟩ = some (.int .u32 x2.b) ∧ w9.cell? ⟨w4.heap.size, 2, none⟩ = some (.int .u32 x2.c) ∧ Onl (fun k => k = p) w8 w9 := ⟨hO9.cell hmp m0, hO9.cell hmp m1, hO9.cell hmp m2, hO9⟩; refine ⟨(by first | exact hS9 | exact ⟨hS9.1, hS9.2.1, hS9.2.2.1⟩), ?_⟩; refine tpt (i := 6) (d := 36) (v := .bool true) rfl rfl (by kernel_rfl) (by kernel_rfl) (by kernel_rfl) (fun _ _ _ h => h) (.inl ⟨by kernel_rfl, fun w' hS => ?_⟩) hS9 ?_
    ·simp [go_sem, execOp]
    simp only [sqa, sqb, sqc]; refine tpt (i := 7) (d := 37) (v := .pointer (some ⟨p, 0, none⟩)) rfl rfl (by kernel_rfl) (by kernel_rfl) (by kernel_rfl) (fun _ _ _ h => h) (.inl ⟨by kernel_rfl, fun w' hS => ?_⟩) hS9 ?_
    ·simp [go_sem, execOp]
    simp only [sqa, sqb, sqc]; refine tpt (i := 8) (d := 38) (v := .pointer (some ⟨p, 0, none⟩)) rfl rfl (by kernel_rfl) (by kernel_rfl) (by kernel_rfl) (fun _ _ _ h => h) (.inl ⟨by kernel_rfl, fun w' hS => ?_⟩) hS9 ?_
    ·simp [go_sem, execOp]
    simp only [sqa, sqb, sqc]; refine tpt (i := 9) (d := 39) (v := .pointer (some ⟨p, 1, none⟩)) rfl rfl (by kernel_rfl) (by kernel_rfl) (by kernel_rfl) (fun _ _ _ h => h) (.inl ⟨by kernel_rfl, fun w' hS => ?_⟩) hS9 ?_
    ·simp [go_sem, execOp]
    simp only [sqa, sqb, sqc]; refine tpt (i := 10) (d := 40) (v := .slice aE es.length cE) rfl rfl (by kernel_rfl) (by kernel_rfl) (by kernel_rfl) (fun _ _ _ h => h) (.inl ⟨by kernel_rfl, fun w' hS => ?_⟩) hS9 ?_
    ·simp [go_sem, execOp]
    simp only [sqa, sqb, sqc]; refine wpAnyH_all (rs := [11]) (by kernel_rfl) (by simp) ?_; intro i hi; obtain rfl := List.mem_singleton.1 hi; unfold wpOp; simp only [List.getElem?_toArray, List.getElem?_cons_succ, List.getElem?_cons_zero]; rw [if_pos (by kernel_rfl)]; left
    go_wp2_with (go_at_call 83; refine (F2.out _ (by (repeat (first | with_reducible exact Below.refl _ _ | with_reducible assumption | with_reducible refine Below.drew ?_ | with_reducible refine Below.al ?_ _ | with_reducible refine Below.setCell ?_ (by first | exact Nat.le_refl _ | simp <;> omega) _ | with_reducible refine Below.on ?_ (by assumption))))).mono ?_; rintro e w10 ⟨rfl, S10, R10, hO10⟩)
    have hS10 : w10.cell? ⟨w4.heap.size, 0, none⟩ = some (.int .u64 x2.a) ∧ w10.cell? ⟨w4.heap.size, 1, none⟩ = some (.int .u32 x2.b) ∧ w10.cell? ⟨w4.heap.size, 2, none⟩ = some (.int .u32 x2.c) ∧ Onl (fun k => k = p) w8 w10 := ⟨hO10.cell hmp m0, hO10.cell hmp m1, hO10.cell hmp m2, hO10⟩; refine ⟨(by first | exact hS10 | exact ⟨hS10.1, hS10.2.1, hS10.2.2.1⟩), ?_⟩; refine tpt (i := 12) (d := 42) (v := .bool false) rfl rfl (by kernel_rfl) (by kernel_rfl) (by kernel_rfl) (fun _ _ _ h => h) (.inl ⟨by kernel_rfl, fun w' hS => ?_⟩) hS10 ?_
    ·simp [go_sem, execOp]
    simp only [sqa, sqb, sqc]; refine tpt (i := 13) (d := 43) (v := .bool false) rfl rfl (by kernel_rfl) (by kernel_rfl) (by kernel_rfl) (fun _ _ _ h => h) (.inl ⟨by kernel_rfl, fun w' hS => ?_⟩) hS10 ?_
    ·simp [go_sem, execOp]
    simp only [sqa, sqb, sqc]; refine tpt (i := 14) (d := 44) (v := undef) rfl rfl (by kernel_rfl) (by kernel_rfl) (by kernel_rfl) (fun _ _ _ h => h) (.inr ⟨by kernel_rfl, rfl⟩) hS10 ?_; simp only [sqa, sqb, sqc]; refine tpt (i := 15) (d := 45) (v := undef) rfl rfl (by kernel_rfl) (by kernel_rfl) (by kernel_rfl) (fun _ _ _ h => h) (.inr ⟨by kernel_rfl, rfl⟩) hS10 ?_; simp only [sqa, sqb, sqc]; refine tpt (i := 16) (d := 46) (v := undef) rfl rfl (by kernel_rfl) (by kernel_rfl) (by kernel_rfl) (fun _ _ _ h => h) (.inr ⟨by kernel_rfl, rfl⟩) hS10 ?_; simp only [sqa, sqb, sqc]
    refine tpt (i := 17) (d := 47) (v := undef) rfl rfl (by kernel_rfl) (by kernel_rfl) (by kernel_rfl) (fun _ _ _ h => h) (.inr ⟨by kernel_rfl, rfl⟩) hS10 ?_; simp only [sqa, sqb, sqc]; refine tpt (i := 18) (d := 48) (v := undef) rfl rfl (by kernel_rfl) (by kernel_rfl) (by kernel_rfl) (fun _ _ _ h => h) (.inr ⟨by kernel_rfl, rfl⟩) hS10 ?_; simp only [sqa, sqb, sqc]; refine tpt (i := 19) (d := 49) (v := .bool false) rfl rfl (by kernel_rfl) (by kernel_rfl) (by kernel_rfl) (fun _ _ _ h => h) (.inl ⟨by kernel_rfl, fun w' hS => ?_⟩) hS10 ?_
    ·simp [go_sem, execOp]
    simp only [sqa, sqb, sqc]; refine tpt (i := 20) (d := 50) (v := .bool false) rfl rfl (by kernel_rfl) (by kernel_rfl) (by kernel_rfl) (fun _ _ _ h => h) (.inl ⟨by kernel_rfl, fun w' hS => ?_⟩) hS10 ?_
    ·simp [go_sem, execOp]
    simp only [sqa, sqb, sqc]; refine tpt (i := 21) (d := 51) (v := undef) rfl rfl (by kernel_rfl) (by kernel_rfl) (by kernel_rfl) (fun _ _ _ h => h) (.inr ⟨by kernel_rfl, rfl⟩) hS10 ?_; simp only [sqa, sqb, sqc]; refine tpt (i := 22) (d := 52) (v := undef) rfl rfl (by kernel_rfl) (by kernel_rfl) (by kernel_rfl) (fun _ _ _ h => h) (.inr ⟨by kernel_rfl, rfl⟩) hS10 ?_; simp only [sqa, sqb, sqc]; refine tpt (i := 23) (d := 53) (v := undef) rfl rfl (by kernel_rfl) (by kernel_rfl) (by kernel_rfl) (fun _ _ _ h => h) (.inr ⟨by kernel_rfl, rfl⟩) hS10 ?_; simp only [sqa, sqb, sqc]
    refine tpt (i := 24) (d := 54) (v := undef) rfl rfl (by kernel_rfl) (by kernel_rfl) (by kernel_rfl) (fun _ _ _ h => h) (.inr ⟨by kernel_rfl, rfl⟩) hS10 ?_; simp only [sqa, sqb, sqc]; refine tpt (i := 25) (d := 55) (v := .bool false) rfl rfl (by kernel_rfl) (by kernel_rfl) (by kernel_rfl) (fun _ _ _ h => h) (.inl ⟨by kernel_rfl, fun w' hS => ?_⟩) hS10 ?_
    ·simp [go_sem, execOp]
    simp only [sqa, sqb, sqc]; refine tpt (i := 26) (d := 4) (v := .bool false) rfl rfl (by kernel_rfl) (by kernel_rfl) (by kernel_rfl) (fun _ _ _ h => h) (.inl ⟨by kernel_rfl, fun w' hS => ?_⟩) hS10 ?_
    ·simp [go_sem, execOp]
    simp only [sqa, sqb, sqc]; refine wpAnyH_done (by kernel_rfl) ?_ _; all_goals (try go_wp2_with fail)
    all_goals go_ret
    all_goals exact ⟨(by first | rfl | simp [go_sem]), HO8.out.trans (hO10.mono fun k hk => .inl hk)⟩
   ·rcases hr3 with hfh | ⟨s3, hfh, hov⟩
    ·have HFE : Hid (feS s1 es = some s2) := hid hfe; have HFE9 : Hid ((feS s1 es).isSome = true) := by rw [hfe]; exact hid rfl
     have HFH9 : Hid ((fhS s2 hs).isSome = false) := by rw [hfh]; exact hid rfl
     clear KM8 HY hfe hfh; have F1 : Hid (∀ W, Below w8.heap.size w8 W → Calls Tryz.prog 82 #[.pointer (some ⟨p, 1, none⟩), .slice aV vs.length cV, .agg #[.int .u64 x2.a, .int .u32 x2.b, .int .u32 x2.c]] W fun e w' => e = .returned (.bool true) ∧ Hid (true = true → ∃ F, Ys.St F w' p none none none [] [] s1 ∧ ∀ b, F b → b = p ∨ w8.heap.size ≤ b) ∧ Hid (Rws w' p w5.heap.size aH cH U aE cE es aV cV vs) ∧ Onl (fun b => b = p) w8 w') := fun W hb => by
      rw [← hu1, HS1.out]; refine (fv_is (R8.out.later hb) ((hb.block p hpl8).trans K8.out) x2).mono ?_; rintro e w' ⟨h1, h2, h3⟩; have h3' : Onl (fun b => b = p) w8 w' := (Onl.of_below hb).trans h3.out; exact ⟨h1, fun hq => (by obtain ⟨F, q1, q2⟩ := h2.out hu1; exact ⟨F, q1, fun k hk => (q2 k hk).imp id (fun h8 => Nat.le_trans hb.size h8)⟩), R8.out.onl h3', h3'⟩
     clear hu1; have hmix : Tryz.prog.follows .mixedOrders = true := by kernel_rfl
     refine wp_region_held (S := (fun z => z.cell? ⟨w4.heap.size, 0, none⟩ = some (.int .u64 x2.a) ∧ z.cell? ⟨w4.heap.size, 1, none⟩ = some (.int .u32 x2.b) ∧ z.cell? ⟨w4.heap.size, 2, none⟩ = some (.int .u32 x2.c) ∧ Onl (fun k => k = p) w8 z)) hmix ?_; change wpAnyH _ _ _ _ _ _ _ _ w8.drew
     have hS0 : w8.drew.cell? ⟨w4.heap.size, 0, none⟩ = some (.int .u64 x2.a) ∧ w8.drew.cell? ⟨w4.heap.size, 1, none⟩ = some (.int .u32 x2.b) ∧ w8.drew.cell? ⟨w4.heap.size, 2, none⟩ = some (.int .u32 x2.c) ∧ Onl (fun k => k = p) w8 w8.drew := ⟨m0, m1, m2, (Onl.refl _ _).drew⟩; refine tpt (i := 0) (d := 30) (v := .pointer (some ⟨p, 0, none⟩)) rfl rfl (by kernel_rfl) (by kernel_rfl) (by kernel_rfl) (fun _ _ _ h => h) (.inl ⟨by kernel_rfl, fun w' hS => ?_⟩) hS0 ?_
     ·simp [go_sem, execOp]
     simp only [sqa, sqb, sqc]; refine tpt (i := 1) (d := 31) (v := .pointer (some ⟨p, 0, none⟩)) rfl rfl (by kernel_rfl) (by kernel_rfl) (by kernel_rfl) (fun _ _ _ h => h) (.inl ⟨by kernel_rfl, fun w' hS => ?_⟩) hS0 ?_
     ·simp [go_sem, execOp]
     simp only [sqa, sqb, sqc]; refine tpt (i := 2) (d := 32) (v := .pointer (some ⟨p, 1, none⟩)) rfl rfl (by kernel_rfl) (by kernel_rfl) (by kernel_rfl) (fun _ _ _ h => h) (.inl ⟨by kernel_rfl, fun w' hS => ?_⟩) hS0 ?_
     ·simp [go_sem, execOp]
     simp only [sqa, sqb, sqc]; refine tpt (i := 3) (d := 33) (v := .slice aV vs.length cV) rfl rfl (by kernel_rfl) (by kernel_rfl) (by kernel_rfl) (fun _ _ _ h => h) (.inl ⟨by kernel_rfl, fun w' hS => ?_⟩) hS0 ?_
     ·simp [go_sem, execOp]
     simp only [sqa, sqb, sqc]; refine tpt (i := 4) (d := 34) (v := .agg #[.int .u64 x2.a, .int .u32 x2.b, .int .u32 x2.c]) rfl rfl (by kernel_rfl) (by kernel_rfl) (by kernel_rfl) (fun _ _ _ h => h) (.inl ⟨by kernel_rfl, fun w' hS => ?_⟩) hS0 ?_
     ·obtain ⟨s1, s2, s3, -⟩ := hS; simp [go_sem, execOp, s1, s2, s3]
     simp only [sqa, sqb, sqc]; refine wpAnyH_all (rs := [5]) (by kernel_rfl) (by simp) ?_; intro i hi; obtain rfl := List.mem_singleton.1 hi; unfold wpOp; simp only [List.getElem?_toArray, List.getElem?_cons_succ, List.getElem?_cons_zero]; rw [if_pos (by kernel_rfl)]; left
     go_wp2_with (go_at_call 82; refine (F1.out _ (by (repeat (first | with_reducible exact Below.refl _ _ | with_reducible assumption | with_reducible refine Below.drew ?_ | with_reducible refine Below.al ?_ _ | with_reducible refine Below.setCell ?_ (by first | exact Nat.le_refl _ | simp <;> omega) _ | with_reducible refine Below.on ?_ (by assumption))))).mono ?_; rintro e w9 ⟨rfl, S9, R9, hO9⟩; obtain ⟨F9, T9, B9⟩ := S9.out rfl; have F2 : Hid (∀ W, Below w9.heap.size w9 W → Calls Tryz.prog 83 #[.pointer (some ⟨p, 1, none⟩), .slice aE es.length cE] W fun e w' => e = .returned (.bool true) ∧ Hid (∀ s', feS s1 es = some s' → ∃ m, Ys.St F9 w' p none none m [] [] s' ∧ ∀ b, m = some b → w8.heap.size ≤ b) ∧ Hid (Rws w' p w5.heap.size aH cH U aE cE es aV cV vs) ∧ Onl (fun b => b = p) w8 w') := fe_for HFE9.out hO9 R9.out T9; have HT9 := hid T9; clear T9)
     have hS9 : w9.cell? ⟨w4.heap.size, 0, none⟩ = some (.int .u64 x2.a) ∧ w9.cell? ⟨w4.heap.size, 1, none⟩ = some (.int .u32 x2.b) ∧ w9.cell? ⟨w4.heap.size, 2, none⟩ = some (.int .u32 x2.c) ∧ Onl (fun k => k = p) w8 w9 := ⟨hO9.cell hmp m0, hO9.cell hmp m1, hO9.cell hmp m2, hO9⟩; refine ⟨(by first | exact hS9 | exact ⟨hS9.1, hS9.2.1, hS9.2.2.1⟩), ?_⟩; refine tpt (i := 6) (d := 36) (v := .bool true) rfl rfl (by kernel_rfl) (by kernel_rfl) (by kernel_rfl) (fun _ _ _ h => h) (.inl ⟨by kernel_rfl, fun w' hS => ?_⟩) hS9 ?_
     ·simp [go_sem, execOp]
     simp only [sqa, sqb, sqc]; refine tpt (i := 7) (d := 37) (v := .pointer (some ⟨p, 0, none⟩)) rfl rfl (by kernel_rfl) (by kernel_rfl) (by kernel_rfl) (fun _ _ _ h => h) (.inl ⟨by kernel_rfl, fun w' hS => ?_⟩) hS9 ?_
     ·simp [go_sem, execOp]
     simp only [sqa, sqb, sqc]; refine tpt (i := 8) (d := 38) (v := .pointer (some ⟨p, 0, none⟩)) rfl rfl (by kernel_rfl) (by kernel_rfl) (by kernel_rfl) (fun _ _ _ h => h) (.inl ⟨by kernel_rfl, fun w' hS => ?_⟩) hS9 ?_
     ·simp [go_sem, execOp]
     simp only [sqa, sqb, sqc]; refine tpt (i := 9) (d := 39) (v := .pointer (some ⟨p, 1, none⟩)) rfl rfl (by kernel_rfl) (by kernel_rfl) (by kernel_rfl) (fun _ _ _ h => h) (.inl ⟨by kernel_rfl, fun w' hS => ?_⟩) hS9 ?_
     ·simp [go_sem, execOp]
     simp only [sqa, sqb, sqc]; refine tpt (i := 10) (d := 40) (v := .slice aE es.length cE) rfl rfl (by kernel_rfl) (by kernel_rfl) (by kernel_rfl) (fun _ _ _ h => h) (.inl ⟨by kernel_rfl, fun w' hS => ?_⟩) hS9 ?_
     ·simp [go_sem, execOp]
     simp only [sqa, sqb, sqc]; refine wpAnyH_all (rs := [11]) (by kernel_rfl) (by simp) ?_; intro i hi; obtain rfl := List.mem_singleton.1 hi; unfold wpOp; simp only [List.getElem?_toArray, List.getElem?_cons_succ, List.getElem?_cons_zero]; rw [if_pos (by kernel_rfl)]; left
     go_wp2_with (go_at_call 83; refine (F2.out _ (by (repeat (first | with_reducible exact Below.refl _ _ | with_reducible assumption | with_reducible refine Below.drew ?_ | with_reducible refine Below.al ?_ _ | with_reducible refine Below.setCell ?_ (by first | exact Nat.le_refl _ | simp <;> omega) _ | with_reducible refine Below.on ?_ (by assumption))))).mono ?_; rintro e w10 ⟨rfl, S10, R10, hO10⟩; obtain ⟨mm, T10, B10⟩ := S10.out s2 HFE.out; have F3 : Hid (∀ W, Below w10.heap.size w10 W → Calls Tryz.prog 84 #[.pointer (some ⟨p, 1, none⟩), .slice aH U.length cH] W fun e w' => e = .returned (.bool false) ∧ Hid (∀ s', fhS s2 hs = some s' → ∃ m1 m2 V I, Ys.St F9 w' p m1 m2 mm V I s' ∧ ∀ b, m1 = some b ∨ m2 = some b → b = p ∨ w8.heap.size ≤ b) ∧ Hid (Rws w' p w5.heap.size aH cH U aE cE es aV cV vs) ∧ Onl (fun b => b = p) w8 w') := fh_for HFH9.out HU.out hO10 R10.out T10; clear T10)
     have hS10 : w10.cell? ⟨w4.heap.size, 0, none⟩ = some (.int .u64 x2.a) ∧ w10.cell? ⟨w4.heap.size, 1, none⟩ = some (.int .u32 x2.b) ∧ w10.cell? ⟨w4.heap.size, 2, none⟩ = some (.int .u32 x2.c) ∧ Onl (fun k => k = p) w8 w10 := ⟨hO10.cell hmp m0, hO10.cell hmp m1, hO10.cell hmp m2, hO10⟩; refine ⟨(by first | exact hS10 | exact ⟨hS10.1, hS10.2.1, hS10.2.2.1⟩), ?_⟩; refine tpt (i := 12) (d := 42) (v := .bool true) rfl rfl (by kernel_rfl) (by kernel_rfl) (by kernel_rfl) (fun _ _ _ h => h) (.inl ⟨by kernel_rfl, fun w' hS => ?_⟩) hS10 ?_
     ·simp [go_sem, execOp]
     simp only [sqa, sqb, sqc]; refine tpt (i := 13) (d := 43) (v := .bool true) rfl rfl (by kernel_rfl) (by kernel_rfl) (by kernel_rfl) (fun _ _ _ h => h) (.inl ⟨by kernel_rfl, fun w' hS => ?_⟩) hS10 ?_
     ·simp [go_sem, execOp]
     simp only [sqa, sqb, sqc]; refine tpt (i := 14) (d := 44) (v := .pointer (some ⟨p, 0, none⟩)) rfl rfl (by kernel_rfl) (by kernel_rfl) (by kernel_rfl) (fun _ _ _ h => h) (.inl ⟨by kernel_rfl, fun w' hS => ?_⟩) hS10 ?_
     ·simp [go_sem, execOp]
     simp only [sqa, sqb, sqc]; refine tpt (i := 15) (d := 45) (v := .pointer (some ⟨p, 0, none⟩)) rfl rfl (by kernel_rfl) (by kernel_rfl) (by kernel_rfl) (fun _ _ _ h => h) (.inl ⟨by kernel_rfl, fun w' hS => ?_⟩) hS10 ?_
     ·simp [go_sem, execOp]
     simp only [sqa, sqb, sqc]; refine tpt (i := 16) (d := 46) (v := .pointer (some ⟨p, 1, none⟩)) rfl rfl (by kernel_rfl) (by kernel_rfl) (by kernel_rfl) (fun _ _ _ h => h) (.inl ⟨by kernel_rfl, fun w' hS => ?_⟩) hS10 ?_
     ·simp [go_sem, execOp]
     simp only [sqa, sqb, sqc]; refine tpt (i := 17) (d := 47) (v := .slice aH U.length cH) rfl rfl (by kernel_rfl) (by kernel_rfl) (by kernel_rfl) (fun _ _ _ h => h) (.inl ⟨by kernel_rfl, fun w' hS => ?_⟩) hS10 ?_
     ·simp [go_sem, execOp]
     simp only [sqa, sqb, sqc]; refine wpAnyH_all (rs := [18]) (by kernel_rfl) (by simp) ?_; intro i hi; obtain rfl := List.mem_singleton.1 hi; unfold wpOp; simp only [List.getElem?_toArray, List.getElem?_cons_succ, List.getElem?_cons_zero]; rw [if_pos (by kernel_rfl)]; left
     go_wp2_with (go_at_call 84; refine (F3.out _ (by (repeat (first | with_reducible exact Below.refl _ _ | with_reducible assumption | with_reducible refine Below.drew ?_ | with_reducible refine Below.al ?_ _ | with_reducible refine Below.setCell ?_ (by first | exact Nat.le_refl _ | simp <;> omega) _ | with_reducible refine Below.on ?_ (by assumption))))).mono ?_; rintro e w11 ⟨rfl, S11, R11, hO11⟩)
     have hS11 : w11.cell? ⟨w4.heap.size, 0, none⟩ = some (.int .u64 x2.a) ∧ w11.cell? ⟨w4.heap.size, 1, none⟩ = some (.int .u32 x2.b) ∧ w11.cell? ⟨w4.heap.size, 2, none⟩ = some (.int .u32 x2.c) ∧ Onl (fun k => k = p) w8 w11 := ⟨hO11.cell hmp m0, hO11.cell hmp m1, hO11.cell hmp m2, hO11⟩; refine ⟨(by first | exact hS11 | exact ⟨hS11.1, hS11.2.1, hS11.2.2.1⟩), ?_⟩; refine tpt (i := 19) (d := 49) (v := .bool false) rfl rfl (by kernel_rfl) (by kernel_rfl) (by kernel_rfl) (fun _ _ _ h => h) (.inl ⟨by kernel_rfl, fun w' hS => ?_⟩) hS11 ?_
     ·simp [go_sem, execOp]
     simp only [sqa, sqb, sqc]; refine tpt (i := 20) (d := 50) (v := .bool false) rfl rfl (by kernel_rfl) (by kernel_rfl) (by kernel_rfl) (fun _ _ _ h => h) (.inl ⟨by kernel_rfl, fun w' hS => ?_⟩) hS11 ?_
     ·simp [go_sem, execOp]
     simp only [sqa, sqb, sqc]; refine tpt (i := 21) (d := 51) (v := undef) rfl rfl (by kernel_rfl) (by kernel_rfl) (by kernel_rfl) (fun _ _ _ h => h) (.inr ⟨by kernel_rfl, rfl⟩) hS11 ?_; simp only [sqa, sqb, sqc]; refine tpt (i := 22) (d := 52) (v := undef) rfl rfl (by kernel_rfl) (by kernel_rfl) (by kernel_rfl) (fun _ _ _ h => h) (.inr ⟨by kernel_rfl, rfl⟩) hS11 ?_; simp only [sqa, sqb, sqc]; refine tpt (i := 23) (d := 53) (v := undef) rfl rfl (by kernel_rfl) (by kernel_rfl) (by kernel_rfl) (fun _ _ _ h => h) (.inr ⟨by kernel_rfl, rfl⟩) hS11 ?_; simp only [sqa, sqb, sqc]
     refine tpt (i := 24) (d := 54) (v := undef) rfl rfl (by kernel_rfl) (by kernel_rfl) (by kernel_rfl) (fun _ _ _ h => h) (.inr ⟨by kernel_rfl, rfl⟩) hS11 ?_; simp only [sqa, sqb, sqc]; refine tpt (i := 25) (d := 55) (v := .bool false) rfl rfl (by kernel_rfl) (by kernel_rfl) (by kernel_rfl) (fun _ _ _ h => h) (.inl ⟨by kernel_rfl, fun w' hS => ?_⟩) hS11 ?_
     ·simp [go_sem, execOp]
     simp only [sqa, sqb, sqc]; refine tpt (i := 26) (d := 4) (v := .bool false) rfl rfl (by kernel_rfl) (by kernel_rfl) (by kernel_rfl) (fun _ _ _ h => h) (.inl ⟨by kernel_rfl, fun w' hS => ?_⟩) hS11 ?_
     ·simp [go_sem, execOp]
     simp only [sqa, sqb, sqc]; refine wpAnyH_done (by kernel_rfl) ?_ _; all_goals (try go_wp2_with fail)
     all_goals go_ret
     all_goals exact ⟨(by first | rfl | simp [go_sem]), HO8.out.trans (hO11.mono fun k hk => .inl hk)⟩
    ·have HFE : Hid (feS s1 es = some s2) := hid hfe; have HFE9 : Hid ((feS s1 es).isSome = true) := by rw [hfe]; exact hid rfl
     have HFH : Hid (fhS s2 hs = some s3) := hid hfh; have HFH9 : Hid ((fhS s2 hs).isSome = true) := by rw [hfh]; exact hid rfl
     have HU4 : Hid (ovT vs hs = true) := hid hov; clear KM8 HY hfe hfh hov; have F1 : Hid (∀ W, Below w8.heap.size w8 W → Calls Tryz.prog 82 #[.pointer (some ⟨p, 1, none⟩), .slice aV vs.length cV, .agg #[.int .u64 x2.a, .int .u32 x2.b, .int .u32 x2.c]] W fun e w' => e = .returned (.bool true) ∧ Hid (true = true → ∃ F, Ys.St F w' p none none none [] [] s1 ∧ ∀ b, F b → b = p ∨ w8.heap.size ≤ b) ∧ Hid (Rws w' p w5.heap.size aH cH U aE cE es aV cV vs) ∧ Onl (fun b => b = p) w8 w') := fun W hb => by
      rw [← hu1, HS1.out]; refine (fv_is (R8.out.later hb) ((hb.block p hpl8).trans K8.out) x2).mono ?_; rintro e w' ⟨h1, h2, h3⟩; have h3' : Onl (fun b => b = p) w8 w' := (Onl.of_below hb).trans h3.out; exact ⟨h1, fun hq => (by obtain ⟨F, q1, q2⟩ := h2.out hu1; exact ⟨F, q1, fun k hk => (q2 k hk).imp id (fun h8 => Nat.le_trans hb.size h8)⟩), R8.out.onl h3', h3'⟩
     clear hu1; have hmix : Tryz.prog.follows .mixedOrders = true := by kernel_rfl
     refine wp_region_held (S := (fun z => z.cell? ⟨w4.heap.size, 0, none⟩ = some (.int .u64 x2.a) ∧ z.cell? ⟨w4.heap.size, 1, none⟩ = some (.int .u32 x2.b) ∧ z.cell? ⟨w4.heap.size, 2, none⟩ = some (.int .u32 x2.c) ∧ Onl (fun k => k = p) w8 z)) hmix ?_; change wpAnyH _ _ _ _ _ _ _ _ w8.drew
     have hS0 : w8.drew.cell? ⟨w4.heap.size, 0, none⟩ = some (.int .u64 x2.a) ∧ w8.drew.cell? ⟨w4.heap.size, 1, none⟩ = some (.int .u32 x2.b) ∧ w8.drew.cell? ⟨w4.heap.size, 2, none⟩ = some (.int .u32 x2.c) ∧ Onl (fun k => k = p) w8 w8.drew := ⟨m0, m1, m2, (Onl.refl _ _).drew⟩; refine tpt (i := 0) (d := 30) (v := .pointer (some ⟨p, 0, none⟩)) rfl rfl (by kernel_rfl) (by kernel_rfl) (by kernel_rfl) (fun _ _ _ h => h) (.inl ⟨by kernel_rfl, fun w' hS => ?_⟩) hS0 ?_
     ·simp [go_sem, execOp]
     simp only [sqa, sqb, sqc]; refine tpt (i := 1) (d := 31) (v := .pointer (some ⟨p, 0, none⟩)) rfl rfl (by kernel_rfl) (by kernel_rfl) (by kernel_rfl) (fun _ _ _ h => h) (.inl ⟨by kernel_rfl, fun w' hS => ?_⟩) hS0 ?_
     ·simp [go_sem, execOp]
     simp only [sqa, sqb, sqc]; refine tpt (i := 2) (d := 32) (v := .pointer (some ⟨p, 1, none⟩)) rfl rfl (by kernel_rfl) (by kernel_rfl) (by kernel_rfl) (fun _ _ _ h => h) (.inl ⟨by kernel_rfl, fun w' hS => ?_⟩) hS0 ?_
     ·simp [go_sem, execOp]
     simp only [sqa, sqb, sqc]; refine tpt (i := 3) (d := 33) (v := .slice aV vs.length cV) rfl rfl (by kernel_rfl) (by kernel_rfl) (by kernel_rfl) (fun _ _ _ h => h) (.inl ⟨by kernel_rfl, fun w' hS => ?_⟩) hS0 ?_
     ·simp [go_sem, execOp]
     simp only [sqa, sqb, sqc]; refine tpt (i := 4) (d := 34) (v := .agg #[.int .u64 x2.a, .int .u32 x2.b, .int .u32 x2.c]) rfl rfl (by kernel_rfl) (by kernel_rfl) (by kernel_rfl) (fun _ _ _ h => h) (.inl ⟨by kernel_rfl, fun w' hS => ?_⟩) hS0 ?_
     ·obtain ⟨s1, s2, s3, -⟩ := hS; simp [go_sem, execOp, s1, s2, s3]
     simp only [sqa, sqb, sqc]; refine wpAnyH_all (rs := [5]) (by kernel_rfl) (by simp) ?_; intro i hi; obtain rfl := List.mem_singleton.1 hi; unfold wpOp; simp only [List.getElem?_toArray, List.getElem?_cons_succ, List.getElem?_cons_zero]; rw [if_pos (by kernel_rfl)]; left
     go_wp2_with (go_at_call 82; refine (F1.out _ (by (repeat (first | with_reducible exact Below.refl _ _ | with_reducible assumption | with_reducible refine Below.drew ?_ | with_reducible refine Below.al ?_ _ | with_reducible refine Below.setCell ?_ (by first | exact Nat.le_refl _ | simp <;> omega) _ | with_reducible refine Below.on ?_ (by assumption))))).mono ?_; rintro e w9 ⟨rfl, S9, R9, hO9⟩; obtain ⟨F9, T9, B9⟩ := S9.out rfl; have F2 : Hid (∀ W, Below w9.heap.size w9 W → Calls Tryz.prog 83 #[.pointer (some ⟨p, 1, none⟩), .slice aE es.length cE] W fun e w' => e = .returned (.bool true) ∧ Hid (∀ s', feS s1 es = some s' → ∃ m, Ys.St F9 w' p none none m [] [] s' ∧ ∀ b, m = some b → w8.heap.size ≤ b) ∧ Hid (Rws w' p w5.heap.size aH cH U aE cE es aV cV vs) ∧ Onl (fun b => b = p) w8 w') := fe_for HFE9.out hO9 R9.out T9; have HT9 := hid T9; clear T9)
     have hS9 : w9.cell? ⟨w4.heap.size, 0, none⟩ = some (.int .u64 x2.a) ∧ w9.cell? ⟨w4.heap.size, 1, none⟩ = some (.int .u32 x2.b) ∧ w9.cell? ⟨w4.heap.size, 2, none⟩ = some (.int .u32 x2.c) ∧ Onl (fun k => k = p) w8 w9 := ⟨hO9.cell hmp m0, hO9.cell hmp m1, hO9.cell hmp m2, hO9⟩; refine ⟨(by first | exact hS9 | exact ⟨hS9.1, hS9.2.1, hS9.2.2.1⟩), ?_⟩; refine tpt (i := 6) (d := 36) (v := .bool true) rfl rfl (by kernel_rfl) (by kernel_rfl) (by kernel_rfl) (fun _ _ _ h => h) (.inl ⟨by kernel_rfl, fun w' hS => ?_⟩) hS9 ?_
     ·simp [go_sem, execOp]
     simp only [sqa, sqb, sqc]; refine tpt (i := 7) (d := 37) (v := .pointer (some ⟨p, 0, none⟩)) rfl rfl (by kernel_rfl) (by kernel_rfl) (by kernel_rfl) (fun _ _ _ h => h) (.inl ⟨by kernel_rfl, fun w' hS => ?_⟩) hS9 ?_
     ·simp [go_sem, execOp]
     simp only [sqa, sqb, sqc]; refine tpt (i := 8) (d := 38) (v := .pointer (some ⟨p, 0, none⟩)) rfl rfl (by kernel_rfl) (by kernel_rfl) (by kernel_rfl) (fun _ _ _ h => h) (.inl ⟨by kernel_rfl, fun w' hS => ?_⟩) hS9 ?_
     ·simp [go_sem, execOp]
     simp only [sqa, sqb, sqc]; refine tpt (i := 9) (d := 39) (v := .pointer (some ⟨p, 1, none⟩)) rfl rfl (by kernel_rfl) (by kernel_rfl) (by kernel_rfl) (fun _ _ _ h => h) (.inl ⟨by kernel_rfl, fun w' hS => ?_⟩) hS9 ?_
     ·simp [go_sem, execOp]
     simp only [sqa, sqb, sqc]; refine tpt (i := 10) (d := 40) (v := .slice aE es.length cE) rfl rfl (by kernel_rfl) (by kernel_rfl) (by kernel_rfl) (fun _ _ _ h => h) (.inl ⟨by kernel_rfl, fun w' hS => ?_⟩) hS9 ?_
     ·simp [go_sem, execOp]
     simp only [sqa, sqb, sqc]; refine wpAnyH_all (rs := [11]) (by kernel_rfl) (by simp) ?_; intro i hi; obtain rfl := List.mem_singleton.1 hi; unfold wpOp; simp only [List.getElem?_toArray, List.getElem?_cons_succ, List.getElem?_cons_zero]; rw [if_pos (by kernel_rfl)]; left
     go_wp2_with (go_at_call 83; refine (F2.out _ (by (repeat (first | with_reducible exact Below.refl _ _ | with_reducible assumption | with_reducible refine Below.drew ?_ | with_reducible refine Below.al ?_ _ | with_reducible refine Below.setCell ?_ (by first | exact Nat.le_refl _ | simp <;> omega) _ | with_reducible refine Below.on ?_ (by assumption))))).mono ?_; rintro e w10 ⟨rfl, S10, R10, hO10⟩; obtain ⟨mm, T10, B10⟩ := S10.out s2 HFE.out; have F3 : Hid (∀ W, Below w10.heap.size w10 W → Calls Tryz.prog 84 #[.pointer (some ⟨p, 1, none⟩), .slice aH U.length cH] W fun e w' => e = .returned (.bool true) ∧ Hid (∀ s', fhS s2 hs = some s' → ∃ m1 m2 V I, Ys.St F9 w' p m1 m2 mm V I s' ∧ ∀ b, m1 = some b ∨ m2 = some b → b = p ∨ w8.heap.size ≤ b) ∧ Hid (Rws w' p w5.heap.size aH cH U aE cE es aV cV vs) ∧ Onl (fun b => b = p) w8 w') := fh_for HFH9.out HU.out hO10 R10.out T10; clear T10)
     have hS10 : w10.cell? ⟨w4.heap.size, 0, none⟩ = some (.int .u64 x2.a) ∧ w10.cell? ⟨w4.heap.size, 1, none⟩ = some (.int .u32 x2.b) ∧ w10.cell? ⟨w4.heap.size, 2, none⟩ = some (.int .u32 x2.c) ∧ Onl (fun k => k = p) w8 w10 := ⟨hO10.cell hmp m0, hO10.cell hmp m1, hO10.cell hmp m2, hO10⟩; refine ⟨(by first | exact hS10 | exact ⟨hS10.1, hS10.2.1, hS10.2.2.1⟩), ?_⟩; refine tpt (i := 12) (d := 42) (v := .bool true) rfl rfl (by kernel_rfl) (by kernel_rfl) (by kernel_rfl) (fun _ _ _ h => h) (.inl ⟨by kernel_rfl, fun w' hS => ?_⟩) hS10 ?_
     ·simp [go_sem, execOp]
     simp only [sqa, sqb, sqc]; refine tpt (i := 13) (d := 43) (v := .bool true) rfl rfl (by kernel_rfl) (by kernel_rfl) (by kernel_rfl) (fun _ _ _ h => h) (.inl ⟨by kernel_rfl, fun w' hS => ?_⟩) hS10 ?_
     ·simp [go_sem, execOp]
     simp only [sqa, sqb, sqc]; refine tpt (i := 14) (d := 44) (v := .pointer (some ⟨p, 0, none⟩)) rfl rfl (by kernel_rfl) (by kernel_rfl) (by kernel_rfl) (fun _ _ _ h => h) (.inl ⟨by kernel_rfl, fun w' hS => ?_⟩) hS10 ?_
     ·simp [go_sem, execOp]
     simp only [sqa, sqb, sqc]; refine tpt (i := 15) (d := 45) (v := .pointer (some ⟨p, 0, none⟩)) rfl rfl (by kernel_rfl) (by kernel_rfl) (by kernel_rfl) (fun _ _ _ h => h) (.inl ⟨by kernel_rfl, fun w' hS => ?_⟩) hS10 ?_
     ·simp [go_sem, execOp]
     simp only [sqa, sqb, sqc]; refine tpt (i := 16) (d := 46) (v := .pointer (some ⟨p, 1, none⟩)) rfl rfl (by kernel_rfl) (by kernel_rfl) (by kernel_rfl) (fun _ _ _ h => h) (.inl ⟨by kernel_rfl, fun w' hS => ?_⟩) hS10 ?_
     ·simp [go_sem, execOp]
     simp only [sqa, sqb, sqc]; refine tpt (i := 17) (d := 47) (v := .slice aH U.length cH) rfl rfl (by kernel_rfl) (by kernel_rfl) (by kernel_rfl) (fun _ _ _ h => h) (.inl ⟨by kernel_rfl, fun w' hS => ?_⟩) hS10 ?_
     ·simp [go_sem, execOp]
     simp only [sqa, sqb, sqc]; refine wpAnyH_all (rs := [18]) (by kernel_rfl) (by simp) ?_; intro i hi; obtain rfl := List.mem_singleton.1 hi; unfold wpOp; simp only [List.getElem?_toArray, List.getElem?_cons_succ, List.getElem?_cons_zero]; rw [if_pos (by kernel_rfl)]; left
     go_wp2_with (go_at_call 84; refine (F3.out _ (by (repeat (first | with_reducible exact Below.refl _ _ | with_reducible assumption | with_reducible refine Below.drew ?_ | with_reducible refine Below.al ?_ _ | with_reducible refine Below.setCell ?_ (by first | exact Nat.le_refl _ | simp <;> omega) _ | with_reducible refine Below.on ?_ (by assumption))))).mono ?_; rintro e w11 ⟨rfl, S11, R11, hO11⟩; obtain ⟨q1, q2, V11, I11, T11, B11⟩ := S11.out s3 HFH.out; have F4 : Hid (∀ W, Below w11.heap.size w11 W → Calls Tryz.prog 85 #[.slice aV vs.length cV, .slice aH U.length cH] W fun e w' => e = .returned (.bool true) ∧ Hid (Ys.St F9 w' p q1 q2 mm V11 I11 s3) ∧ Onl (fun b => b = p) w8 w') := ov_for HU4.out HU.out hO11 R11.out T11; clear T11)
     have hS11 : w11.cell? ⟨w4.heap.size, 0, none⟩ = some (.int .u64 x2.a) ∧ w11.cell? ⟨w4.heap.size, 1, none⟩ = some (.int .u32 x2.b) ∧ w11.cell? ⟨w4.heap.size, 2, none⟩ = some (.int .u32 x2.c) ∧ Onl (fun k => k = p) w8 w11 := ⟨hO11.cell hmp m0, hO11.cell hmp m1, hO11.cell hmp m2, hO11⟩; refine ⟨(by first | exact hS11 | exact ⟨hS11.1, hS11.2.1, hS11.2.2.1⟩), ?_⟩; refine tpt (i := 19) (d := 49) (v := .bool true) rfl rfl (by kernel_rfl) (by kernel_rfl) (by kernel_rfl) (fun _ _ _ h => h) (.inl ⟨by kernel_rfl, fun w' hS => ?_⟩) hS11 ?_
     ·simp [go_sem, execOp]
     simp only [sqa, sqb, sqc]; refine tpt (i := 20) (d := 50) (v := .bool true) rfl rfl (by kernel_rfl) (by kernel_rfl) (by kernel_rfl) (fun _ _ _ h => h) (.inl ⟨by kernel_rfl, fun w' hS => ?_⟩) hS11 ?_
     ·simp [go_sem, execOp]
     simp only [sqa, sqb, sqc]; refine tpt (i := 21) (d := 51) (v := .slice aV vs.length cV) rfl rfl (by kernel_rfl) (by kernel_rfl) (by kernel_rfl) (fun _ _ _ h => h) (.inl ⟨by kernel_rfl, fun w' hS => ?_⟩) hS11 ?_
     ·simp [go_sem, execOp]
     simp only [sqa, sqb, sqc]; refine tpt (i := 22) (d := 52) (v := .slice aH U.length cH) rfl rfl (by kernel_rfl) (by kernel_rfl) (by kernel_rfl) (fun _ _ _ h => h) (.inl ⟨by kernel_rfl, fun w' hS => ?_⟩) hS11 ?_
     ·simp [go_sem, execOp]
     simp only [sqa, sqb, sqc]; refine wpAnyH_all (rs := [23]) (by kernel_rfl) (by simp) ?_; intro i hi; obtain rfl := List.mem_singleton.1 hi; unfold wpOp; simp only [List.getElem?_toArray, List.getElem?_cons_succ, List.getElem?_cons_zero]; rw [if_pos (by kernel_rfl)]; left
     go_wp2_with (go_at_call 85; refine (F4.out _ (by (repeat (first | with_reducible exact Below.refl _ _ | with_reducible assumption | with_reducible refine Below.drew ?_ | with_reducible refine Below.al ?_ _ | with_reducible refine Below.setCell ?_ (by first | exact Nat.le_refl _ | simp <;> omega) _ | with_reducible refine Below.on ?_ (by assumption))))).mono ?_; rintro e w12 ⟨rfl, T12, hO12⟩)
     have hS12 : w12.cell? ⟨w4.heap.size, 0, none⟩ = some (.int .u64 x2.a) ∧ w12.cell? ⟨w4.heap.size, 1, none⟩ = some (.int .u32 x2.b) ∧ w12.cell? ⟨w4.heap.size, 2, none⟩ = some (.int .u32 x2.c) ∧ Onl (fun k => k = p) w8 w12 := ⟨hO12.cell hmp m0, hO12.cell hmp m1, hO12.cell hmp m2, hO12⟩; refine ⟨(by first | exact hS12 | exact ⟨hS12.1, hS12.2.1, hS12.2.2.1⟩), ?_⟩; refine tpt (i := 24) (d := 54) (v := .bool false) rfl rfl (by kernel_rfl) (by kernel_rfl) (by kernel_rfl) (fun _ _ _ h => h) (.inl ⟨by kernel_rfl, fun w' hS => ?_⟩) hS12 ?_
     ·simp [go_sem, execOp]
     simp only [sqa, sqb, sqc]; refine tpt (i := 25) (d := 55) (v := .bool false) rfl rfl (by kernel_rfl) (by kernel_rfl) (by kernel_rfl) (fun _ _ _ h => h) (.inl ⟨by kernel_rfl, fun w' hS => ?_⟩) hS12 ?_
     ·simp [go_sem, execOp]
     simp only [sqa, sqb, sqc]; refine tpt (i := 26) (d := 4) (v := .bool false) rfl rfl (by kernel_rfl) (by kernel_rfl) (by kernel_rfl) (fun _ _ _ h => h) (.inl ⟨by kernel_rfl, fun w' hS => ?_⟩) hS12 ?_
     ·simp [go_sem, execOp]
     simp only [sqa, sqb, sqc]; refine wpAnyH_done (by kernel_rfl) ?_ _; all_goals (try go_wp2_with fail)
     all_goals go_ret
     all_goals exact ⟨(by first | rfl | simp [go_sem]), HO8.out.trans (hO12.mono fun k hk => .inl hk)⟩
end Go.Proofs.YtofpaldolcnmiaaGreat.Ig
