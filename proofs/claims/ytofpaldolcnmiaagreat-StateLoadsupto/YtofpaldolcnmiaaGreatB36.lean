import Derived.Test.YtofpaldolcnmiaaGreatB35
set_option linter.unusedVariables false
set_option maxHeartbeats 8000000
namespace Go.Proofs.YtofpaldolcnmiaaGreat.Ig
open Go.RowKit Go.Sort Ys
theorem cel_onl {w w' : World} {b o n : Nat} (h : Cel b o n w w') : Onl (fun k => k = b) w w' := ⟨h.os, h.tape, h.output, h.size, fun k hk hn => h.block k hk hn⟩
theorem DOk.setOther {w0 w : World} {b o q i : Nat} {d : Ds} (h : DOk w0 w b o d) (hq : q ≠ b) (v : Value) : DOk (w.setCell ⟨q, i, none⟩ v) (w.setCell ⟨q, i, none⟩ v) b o d :=
 ⟨Cel.refl _ _ _ _, ⟨⟨cell_setc (by intro e; injection e with e; exact hq e.symm) h.dec.raw.c0, cell_setc (by intro e; injection e with e; exact hq e.symm) h.dec.raw.c1, h.dec.raw.b8, h.dec.raw.loose.setc _ _⟩, h.dec.ok⟩, h.ln⟩
section
variable {w8 w9 : World} {p B : Nat} {aH : Option Addr} {cH : Nat} {U : List Lk.Hv} {aE : Option Addr} {cE : Nat} {es : List Lg.En} {aV : Option Addr} {cV : Nat} {vs : List Vs.Kv} {F : Nat → Prop}
theorem fe_for {s1 : Ps} {u : Bool} (hu : (feS s1 es).isSome = u) (ho : Onl (fun b => b = p) w8 w9) (R : Rws w9 p B aH cH U aE cE es aV cV vs) (T : Ys.St F w9 p none none none [] [] s1) :
  Hid (∀ W, Below w9.heap.size w9 W → Calls Tryz.prog 83 #[.pointer (some ⟨p, 1, none⟩), .slice aE es.length cE] W fun e w' => e = .returned (.bool u) ∧ Hid (∀ s', feS s1 es = some s' → ∃ m, Ys.St F w' p none none m [] [] s' ∧ ∀ b, m = some b → w8.heap.size ≤ b) ∧ Hid (Rws w' p B aH cH U aE cE es aV cV vs) ∧ Onl (fun b => b = p) w8 w') := fun W hb => by
 rw [← hu]; refine (fe_is (R.later hb) (T.later hb)).mono ?_; rintro e w' ⟨h1, h2, h3⟩; refine ⟨h1, fun s' hs => ?_, (R.later hb).onl h3.out, (ho.on hb).trans h3.out⟩; obtain ⟨m, q1, q2⟩ := h2.out s' hs; exact ⟨m, q1, fun k hk => Nat.le_trans (Nat.le_trans ho.size hb.size) (q2 k hk)⟩
theorem fh_for {s2 : Ps} {m : Option Nat} {hs : List Lk.Hd} {u : Bool} (hu : (fhS s2 hs).isSome = u) (hU : U.map Lk.Hv.h = hs) (ho : Onl (fun b => b = p) w8 w9) (R : Rws w9 p B aH cH U aE cE es aV cV vs) (T : Ys.St F w9 p none none m [] [] s2) :
  Hid (∀ W, Below w9.heap.size w9 W → Calls Tryz.prog 84 #[.pointer (some ⟨p, 1, none⟩), .slice aH U.length cH] W fun e w' => e = .returned (.bool u) ∧ Hid (∀ s', fhS s2 hs = some s' → ∃ m1 m2 V I, Ys.St F w' p m1 m2 m V I s' ∧ ∀ b, m1 = some b ∨ m2 = some b → b = p ∨ w8.heap.size ≤ b) ∧ Hid (Rws w' p B aH cH U aE cE es aV cV vs) ∧ Onl (fun b => b = p) w8 w') := fun W hb => by
 rw [← hu, ← hU]; refine (fh_is (R.later hb) (T.later hb)).mono ?_; rintro e w' ⟨h1, h2, h3⟩; refine ⟨h1, fun s' hs => ?_, (R.later hb).onl h3.out, (ho.on hb).trans h3.out⟩; obtain ⟨m1, m2, V, I, q1, q2⟩ := h2.out s' hs; exact ⟨m1, m2, V, I, q1, fun k hk => (q2 k hk).imp id (fun h8 => Nat.le_trans (Nat.le_trans ho.size hb.size) h8)⟩
theorem ov_for {s3 : Ps} {m1 m2 m : Option Nat} {V : List Lk.Hv} {I : Lk.It} {hs : List Lk.Hd} {u : Bool} (hu : ovT vs hs = u) (hU : U.map Lk.Hv.h = hs) (ho : Onl (fun b => b = p) w8 w9) (R : Rws w9 p B aH cH U aE cE es aV cV vs) (T : Ys.St F w9 p m1 m2 m V I s3) :
  Hid (∀ W, Below w9.heap.size w9 W → Calls Tryz.prog 85 #[.slice aV vs.length cV, .slice aH U.length cH] W fun e w' => e = .returned (.bool u) ∧ Hid (Ys.St F w' p m1 m2 m V I s3) ∧ Onl (fun b => b = p) w8 w') := fun W hb => by
 rw [← hu, ← hU]; refine (ov_is (R.later hb)).mono ?_; rintro e w' ⟨h1, h2⟩; exact ⟨h1, T.later (Below.on hb h2), (ho.on hb).on h2⟩
end
theorem take_no {w : World} {p b o : Nat} {n : Int} {d : Ds} (hx : (tU 4294967295 d).1 ≠ n) (kp : w.heap[p]? = some (.cells (scs (zero n) none none none none) SS (0, 0))) (h : DOk w w b o d) (hne : p ≠ b) :
  Calls Tryz.prog 38 #[.pointer (some ⟨p, 0, none⟩), .pointer (some ⟨b, o, none⟩)] w fun e w' => e = .returned (.bool false) ∧ Onl (fun k => k = p ∨ k = b) w w' := by
 obtain ⟨x0, d0, e0⟩ : ∃ y dd, tU 4294967295 d = (y, dd) := ⟨_, _, rfl⟩; have hx0 : x0 ≠ n := by rw [e0] at hx; exact hx
 have E0 := hid e0; have hbl := h.lt; have hpl : p < w.heap.size := (Array.getElem?_eq_some_iff.1 kp).1; have HK := hid kp; have H := hid h; have c0 := Vs.cob (o := 0) kp rfl; clear h kp e0 hx; go_enter Tryz.func38, Tryz.ntmps38
 go_wp2_with fail
 go_region_with (go_at_call 73; refine (takeNumber_is H.out.drew E0.out).mono ?_; rintro e w1 ⟨rfl, h1⟩; have H1 := hid (H.out.drew.step h1); have K1 := hid ((h1.cel.block p hpl hne).trans HK.out); have c0 := Vs.cob (o := 0) K1.out rfl; clear h1)
 ·have hxb : (x0 != n) = true := by simpa using hx0
  clear hx0; go_wp2_with fail
  go_ret
  exact ⟨rfl, (cel_onl H1.out.cel).mono fun k hk => .inr hk⟩
 ·have hxb : (x0 != n) = true := by simpa using hx0
  clear hx0; go_wp2_with fail
  go_ret
  exact ⟨rfl, (cel_onl H1.out.cel).mono fun k hk => .inr hk⟩
theorem take_yes {w : World} {p b o : Nat} {n : Int} {d : Ds} {s3 : Ps} (hok : takeP n d = some s3) (kp : w.heap[p]? = some (.cells (scs (zero n) none none none none) SS (0, 0))) (h : DOk w w b o d) (hne : p ≠ b) :
  Calls Tryz.prog 38 #[.pointer (some ⟨p, 0, none⟩), .pointer (some ⟨b, o, none⟩)] w fun e w' => e = .returned (.bool true) ∧ (∃ F m1 m2 m V I, Ys.St F w' p m1 m2 m V I s3 ∧ ∀ k, F k ∨ Bm p m1 m2 m k → k = p ∨ w.heap.size ≤ k) ∧ Onl (fun k => k = p ∨ k = b) w w' := by
 obtain ⟨x0, d0, e0⟩ : ∃ y dd, tU 4294967295 d = (y, dd) := ⟨_, _, rfl⟩; obtain ⟨x1, d1, e1⟩ : ∃ y dd, tU 18446744073709551615 d0 = (y, dd) := ⟨_, _, rfl⟩; obtain ⟨x2, d2, e2⟩ : ∃ y dd, tS d1 = (y, dd) := ⟨_, _, rfl⟩; obtain ⟨hs, d3, e3⟩ : ∃ y dd, tL tHeld d2 = (y, dd) := ⟨_, _, rfl⟩; obtain ⟨es, d4, e4⟩ : ∃ y dd, tL tEntry d3 = (y, dd) := ⟨_, _, rfl⟩; obtain ⟨vs, d5, e5⟩ : ∃ y dd, tL tVersion d4 = (y, dd) := ⟨_, _, rfl⟩; have hP : takeP n d = if x0 = n then fillP n x1 x2 hs es vs else none := by
  have hE : tImg d = ((x0, x1, x2, hs, es, vs), d5) := by simp only [tImg, tP, e0, e1, e2, e3, e4, e5]
  unfold takeP; rw [hE]
 obtain ⟨s1, hs1⟩ : ∃ s1 : Ps, s1 = ⟨n, x1, [], [], Vs.loadM vs, x2, false, ⟨0, 0, 0⟩⟩ := ⟨_, rfl⟩; obtain ⟨s2, hy⟩ : ∃ s2, x0 = n ∧ fvB x1 vs x2 = true ∧ feS s1 es = some s2 ∧ fhS s2 hs = some s3 ∧ ovT vs hs = false := by
  rw [hP] at hok; split at hok
  ·rename_i g0; unfold fillP at hok; rw [← hs1] at hok; split at hok
   ·rename_i g1; cases hfe : feS s1 es with
    | none => rw [hfe] at hok; cases hok
    | some s2 =>
     rw [hfe] at hok; simp only at hok; cases hfh : fhS s2 hs with
     | none => rw [hfh] at hok; cases hok
     | some s4 =>
      rw [hfh] at hok; simp only at hok; cases hov : ovT vs hs with
      | true => rw [hov] at hok; cases hok
      | false =>
       rw [hov] at hok; have e4 : s4 = s3 := by simpa using hok
       subst e4; exact ⟨s2, g0, g1, rfl, hfh, rfl⟩
   ·cases hok
  ·cases hok
 have HY := hid hy; have HS1 := hid hs1; clear hP hok hy hs1; have hd := h.ln; have l0 : d0.left.length ≤ 1099511627776 := by have := u_sh 4294967295 d; rw [e0] at this; exact Nat.le_trans this hd
 have l1 : d1.left.length ≤ 1099511627776 := by have := u_sh 18446744073709551615 d0; rw [e1] at this; exact Nat.le_trans this l0
 have l2 : d2.left.length ≤ 1099511627776 := by have := stamp_sh d1; rw [← show (tS d1).2 = d2 from congrArg Prod.snd e2]; exact Nat.le_trans this l1
 have l3 : d3.left.length ≤ 1099511627776 := by have := l_sh held_sh d2; rw [e3] at this; exact Nat.le_trans this l2
 have l4 : d4.left.length ≤ 1099511627776 := by have := l_sh entry_sh d3; rw [e4] at this; exact Nat.le_trans this l3
 have q3 : hs.length ≤ 1099511627776 := by have := tL_left held_eat d2; rw [e3] at this; exact Nat.le_trans this l2
 have q4 : es.length ≤ 1099511627776 := by have := tL_left entry_eat d3; rw [e4] at this; exact Nat.le_trans this l3
 have q5 : vs.length ≤ 1099511627776 := by have := tL_left version_eat d4; rw [e5] at this; exact Nat.le_trans this l4
 have r3 : ∀ x ∈ hs, HdR x := by have := tL_all (P := HdR) held_sh (fun dd h9 => tHeld_r dd h9) d2 l2; rw [e3] at this; exact this
 have r4 : ∀ x ∈ es, EnR x := by have := tL_all (P := EnR) entry_sh (fun dd _ => tEntry_r dd) d3 l3; rw [e4] at this; exact this
 have HQ : Hid (hs.length ≤ 1099511627776 ∧ es.length ≤ 1099511627776 ∧ vs.length ≤ 1099511627776 ∧ (∀ x ∈ hs, HdR x) ∧ (∀ x ∈ es, EnR x)) := ⟨q3, q4, q5, r3, r4⟩; have E0 := hid e0; have E1 := hid e1; have E2 := hid e2; have E3 := hid e3; have E4 := hid e4; have E5 := hid e5; have hbl := h.lt; have hpl : p < w.heap.size := (Array.getElem?_eq_some_iff.1 kp).1; have HK := hid kp; have H := hid h; have c0 := Vs.cob (o := 0) kp rfl; clear h kp e0 e1 e2 e3 e4 e5 hd l0 l1 l2 l3 l4 q3 q4 q5 r3 r4; go_enter Tryz.func38, Tryz.ntmps38
 go_wp2_with fail
 go_region_with (go_at_call 73; refine (takeNumber_is H.out.drew E0.out).mono ?_; rintro e w1 ⟨rfl, h1⟩; have H1 := hid (H.out.drew.step h1); have K1 := hid ((h1.cel.block p hpl hne).trans HK.out); have c0 := Vs.cob (o := 0) K1.out rfl; clear h1)
 ·have hxb : (x0 != n) = false := by simpa using HY.out.1
  clear c0; have c1 := Vs.cob (o := 1) K1.out rfl; have cf : ∀ j, w1.frozen? ⟨p, j, none⟩ = false := fun j => frozen_of_row w1 p j _ _ K1.out
  go_wp2_with (go_at_call 74; refine (dok_var (m := 18446744073709551615) (mi := 18446744073709551615) H1.out rfl E1.out).mono ?_; rintro e w2 ⟨rfl, h2⟩; have H2 := hid (H1.out.step h2); have K2 := hid ((h2.cel.block p (Nat.lt_of_lt_of_le hpl H1.out.cel.size) hne).trans K1.out); have c1 := Vs.cob (o := 1) K2.out rfl; have cf : ∀ j, w2.frozen? ⟨p, j, none⟩ = false := (fun j => frozen_of_row w2 p j _ _ K2.out); clear h2)
  obtain ⟨w3, hw3⟩ : ∃ w3, w3 = w2.setCell ⟨p, 1, none⟩ (.int .u64 x1) := ⟨_, rfl⟩; have H3 : Hid (DOk w3 w3 b o d1) := by rw [hw3]; exact hid (H2.out.setOther hne _)
  have K3 : Hid (w3.heap[p]? = some (.cells (scs ⟨n, x1, [], [], [], ⟨0, 0, 0⟩, false, ⟨0, 0, 0⟩⟩ none none none none) SS (0, 0))) := by
   rw [hw3]; exact hid (heap_put _ K2.out)
  have HO3 : Hid (Onl (fun k => k = p ∨ k = b) w w3) := by
   rw [hw3]; exact hid (((cel_onl H2.out.cel).mono fun k hk => .inr hk).set (p := p) (.inl rfl) _ _)
  have hs3 : w.heap.size ≤ w3.heap.size := HO3.out.size; rw [← hw3]; clear hw3 H2 K2 H1 K1 c1 cf; go_wp2_with fail
  refine (dok_stamp H3.out E2.out).mono ?_; rintro e w4 ⟨rfl, h4⟩; have H4 := hid (H3.out.step h4); clear h4; go_wp2_with fail
  obtain ⟨w5, hw5⟩ : ∃ w5, w5 = w4.alloc (.cells #[.int .u64 x2.a, .int .u32 x2.b, .int .u32 x2.c] 36) := ⟨_, rfl⟩; have hb5 : Below w4.heap.size w4 w5 := by rw [hw5]; exact Below.al (Below.refl _ _) _
  have k5 : w5.heap[w4.heap.size]? = some (.cells #[.int .u64 x2.a, .int .u32 x2.b, .int .u32 x2.c] 36 (0, 0)) := by rw [hw5]; exact World.alloc_heap_new _ _
  have hs5 : w4.heap.size < w5.heap.size := by rw [hw5]; simp
  have H5 := hid (H4.out.later hb5); have hs4 : w3.heap.size ≤ w4.heap.size := H4.out.cel.size; rw [← hw5]; have KM := hid k5; clear hw5 hb5 k5 H4; refine (takeHelds_is H5.out E3.out).mono ?_; rintro e w6 ⟨U, aH, cH, rfl, HU, OH, FH, h6⟩; have H6 := hid (H5.out.step h6); have hl6 := h6.cel.size; have C6 := hid h6.cel; clear h6; go_wp2_with fail
  refine (takeEntries_is H6.out E4.out).mono ?_; rintro e w7 ⟨aE, cE, rfl, OE, h7⟩; have H7 := hid (H6.out.step h7); have hbB : b < w5.heap.size := Nat.lt_of_lt_of_le hbl (by omega); have hpB : p < w5.heap.size := Nat.lt_of_lt_of_le hpl (by omega); have OH7 := hid (own_cel OH.out h7.cel hbB); have FH7 : Hid (∀ u ∈ U, u.fresh w5.heap.size w7) := fun u hu => fresh_cel (FH.out u hu) h7.cel hbB
  have hl7 := h7.cel.size; have C7 := hid h7.cel; clear h7; go_wp2_with fail
  refine (takeVersions_is H7.out E5.out).mono ?_; rintro e w8 ⟨aV, cV, rfl, OV, h8⟩; have H8 := hid (H7.out.step h8); have R8 : Hid (Rws w8 p w5.heap.size aH cH U aE cE es aV cV vs) := by
   have h9 := HQ.out; have hul : U.length = hs.length := by rw [← HU.out, List.length_map]
   exact ⟨hpB, own_cel OH7.out h8.cel hbB, fun u hu => fresh_cel (FH7.out u hu) h8.cel hbB, Lk.owb (own_cel OE.out h8.cel (by omega)) (by omega), Lk.owb OV.out (by omega), by rw [hul]; exact h9.1, h9.2.1, h9.2.2.1, fun u hu => h9.2.2.2.1 _ (by rw [← HU.out]; exact List.mem_map.2 ⟨u, hu, rfl⟩), h9.2.2.2.2⟩
  have K8 : Hid (w8.heap[p]? = some (.cells (scs ⟨n, x1, [], [], [], ⟨0, 0, 0⟩, false, ⟨0, 0, 0⟩⟩ none none none none) SS (0, 0))) := (H8.out.cel.block p (Nat.lt_of_lt_of_le hpl hs3) hne).trans K3.out; have HO8 : Hid (Onl (fun k => k = p ∨ k = b) w w8) := HO3.out.trans ((cel_onl H8.out.cel).mono fun k hk => .inr hk); have KM8 : Hid (w8.heap[w4.heap.size]? = some (.cells #[.int .u64 x2.a, .int .u32 x2.b, .int .u32 x2.c] 36 (0, 0))) := by
   have hmb : w4.heap.size ≠ b := by omega
   exact (h8.cel.block _ (by omega) hmb).trans ((C7.out.block _ (by omega) hmb).trans ((C6.out.block _ hs5 hmb).trans KM.out))
  go_wp2_with fail
  clear h8 OH FH OE OV OH7 FH7 C6 C7 KM H5 H6 H7 H8 K3 H3; have m0 := Vs.cob (o := 0) KM8.out rfl; have m1 := Vs.cob (o := 1) KM8.out rfl; have m2 := Vs.cob (o := 2) KM8.out rfl; have hs8 : w.heap.size ≤ w8.heap.size := HO8.out.size; have hpl8 : p < w8.heap.size := by omega
  have hu1 := HY.out.2.1; have F1 : Hid (∀ W, Below w8.heap.size w8 W → Calls Tryz.prog 82 #[.pointer (some ⟨p, 1, none⟩), .slice aV vs.length cV, .agg #[.int .u64 x2.a, .int .u32 x2.b, .int .u32 x2.c]] W fun e w' => e = .returned (.bool true) ∧ Hid (true = true → ∃ F, Ys.St F w' p none none none [] [] s1 ∧ ∀ b, F b → b = p ∨ w8.heap.size ≤ b) ∧ Hid (Rws w' p w5.heap.size aH cH U aE cE es aV cV vs) ∧ Onl (fun b => b = p) w8 w') := fun W hb => by
   rw [← hu1, HS1.out]; refine (fv_is (R8.out.later hb) ((hb.block p hpl8).trans K8.out) x2).mono ?_; rintro e w' ⟨h1, h2, h3⟩; have h3' : Onl (fun b => b = p) w8 w' := (Onl.of_below hb).trans h3.out; exact ⟨h1, fun _ => (by
    obtain ⟨F, q1, q2⟩ := h2.out hu1; exact ⟨F, q1, fun k hk => (q2 k hk).imp id (fun h8 => Nat.le_trans hb.size h8)⟩), R8.out.onl h3', h3'⟩
  have hmp : ¬ w4.heap.size = p := by omega
  have HU1 := hid hu1; clear hu1 KM8; have HFE : Hid (feS s1 es = some s2) := HY.out.2.2.1; have HFE9 : Hid ((feS s1 es).isSome = true) := by rw [HY.out.2.2.1]; exact hid rfl
  have HFH : Hid (fhS s2 hs = some s3) := HY.out.2.2.2.1; have HFH9 : Hid ((fhS s2 hs).isSome = true) := by rw [HY.out.2.2.2.1]; exact hid rfl
  have HU4 : Hid (ovT vs hs = false) := HY.out.2.2.2.2; go_region_held3 (fun z => z.cell? ⟨w4.heap.size, 0, none⟩ = some (.int .u64 x2.a) ∧ z.cell? ⟨w4.heap.size, 1, none⟩ = some (.int .u32 x2.b) ∧ z.cell? ⟨w4.heap.size, 2, none⟩ = some (.int .u32 x2.c) ∧ Onl (fun k => k = p) w8 z)
   ((refine (fun (hO : Onl (fun k => k = p) w8 _) => ⟨hO.cell hmp m0, hO.cell hmp m1, hO.cell hmp m2, hO⟩) ?_; (repeat (first | with_reducible exact Onl.refl _ _ | with_reducible assumption | with_reducible refine Onl.drew ?_))))
   (first
    | (go_at_call 82; refine (F1.out _ (by (repeat (first | with_reducible exact Below.refl _ _ | with_reducible assumption | with_reducible refine Below.drew ?_ | with_reducible refine Below.al ?_ _ | with_reducible refine Below.setCell ?_ (by first | exact Nat.le_refl _ | simp <;> omega) _ | with_reducible refine Below.on ?_ (by assumption))))).mono ?_; rintro e w9 ⟨rfl, S9, R9, hO9⟩; obtain ⟨F9, T9, B9⟩ := S9.out rfl; have F2 : Hid (∀ W, Below w9.heap.size w9 W → Calls Tryz.prog 83 #[.pointer (some ⟨p, 1, none⟩), .slice aE es.length cE] W fun e w' => e = .returned (.bool true) ∧ Hid (∀ s', feS s1 es = some s' → ∃ m, Ys.St F9 w' p none none m [] [] s' ∧ ∀ b, m = some b → w8.heap.size ≤ b) ∧ Hid (Rws w' p w5.heap.size aH cH U aE cE es aV cV vs) ∧ Onl (fun b => b = p) w8 w') := fe_for HFE9.out hO9 R9.out T9; have HT9 := hid T9; clear T9)
    | (go_at_call 83; refine (F2.out _ (by (repeat (first | with_reducible exact Below.refl _ _ | with_reducible assumption | with_reducible refine Below.drew ?_ | with_reducible refine Below.al ?_ _ | with_reducible refine Below.setCell ?_ (by first | exact Nat.le_refl _ | simp <;> omega) _ | with_reducible refine Below.on ?_ (by assumption))))).mono ?_; rintro e w10 ⟨rfl, S10, R10, hO10⟩; obtain ⟨mm, T10, B10⟩ := S10.out s2 HFE.out; have F3 : Hid (∀ W, Below w10.heap.size w10 W → Calls Tryz.prog 84 #[.pointer (some ⟨p, 1, none⟩), .slice aH U.length cH] W fun e w' => e = .returned (.bool true) ∧ Hid (∀ s', fhS s2 hs = some s' → ∃ m1 m2 V I, Ys.St F9 w' p m1 m2 mm V I s' ∧ ∀ b, m1 = some b ∨ m2 = some b → b = p ∨ w8.heap.size ≤ b) ∧ Hid (Rws w' p w5.heap.size aH cH U aE cE es aV cV vs) ∧ Onl (fun b => b = p) w8 w') := fh_for HFH9.out HU.out hO10 R10.out T10; clear T10)
    | (go_at_call 84; refine (F3.out _ (by (repeat (first | with_reducible exact Below.refl _ _ | with_reducible assumption | with_reducible refine Below.drew ?_ | with_reducible refine Below.al ?_ _ | with_reducible refine Below.setCell ?_ (by first | exact Nat.le_refl _ | simp <;> omega) _ | with_reducible refine Below.on ?_ (by assumption))))).mono ?_; rintro e w11 ⟨rfl, S11, R11, hO11⟩; obtain ⟨q1, q2, V11, I11, T11, B11⟩ := S11.out s3 HFH.out; have F4 : Hid (∀ W, Below w11.heap.size w11 W → Calls Tryz.prog 85 #[.slice aV vs.length cV, .slice aH U.length cH] W fun e w' => e = .returned (.bool false) ∧ Hid (Ys.St F9 w' p q1 q2 mm V11 I11 s3) ∧ Onl (fun b => b = p) w8 w') := ov_for HU4.out HU.out hO11 R11.out T11; clear T11)
    | (go_at_call 85; refine (F4.out _ (by (repeat (first | with_reducible exact Below.refl _ _ | with_reducible assumption | with_reducible refine Below.drew ?_ | with_reducible refine Below.al ?_ _ | with_reducible refine Below.setCell ?_ (by first | exact Nat.le_refl _ | simp <;> omega) _ | with_reducible refine Below.on ?_ (by assumption))))).mono ?_; rintro e w12 ⟨rfl, T12, hO12⟩))
  all_goals (try go_wp2_with fail)
  all_goals go_ret
  all_goals refine ⟨rfl, ⟨F9, q1, q2, mm, V11, I11, T12.out, fun k hk => ?_⟩, HO8.out.trans (hO12.mono fun k hk => .inl hk)⟩
  all_goals (
   rcases hk with hk | hk | hk | hk | hk
   ·exact (B9 k hk).imp id (fun h8 => Nat.le_trans hs8 h8)
   ·exact .inl hk
   ·exact (B11 k (.inl hk)).imp id (fun h8 => Nat.le_trans hs8 h8)
   ·exact (B11 k (.inr hk)).imp id (fun h8 => Nat.le_trans hs8 h8)
   ·exact .inr (Nat.le_trans hs8 (B10 k hk)))
 ·have hxb : (x0 != n) = false := by simpa using HY.out.1
  clear c0; have c1 := Vs.cob (o := 1) K1.out rfl; have cf : ∀ j, w1.frozen? ⟨p, j, none⟩ = false := fun j => frozen_of_row w1 p j _ _ K1.out
  go_wp2_with (go_at_call 74; refine (dok_var (m := 18446744073709551615) (mi := 18446744073709551615) H1.out rfl E1.out).mono ?_; rintro e w2 ⟨rfl, h2⟩; have H2 := hid (H1.out.step h2); have K2 := hid ((h2.cel.block p (Nat.lt_of_lt_of_le hpl H1.out.cel.size) hne).trans K1.out); have c1 := Vs.cob (o := 1) K2.out rfl; have cf : ∀ j, w2.frozen? ⟨p, j, none⟩ = false := (fun j => frozen_of_row w2 p j _ _ K2.out); clear h2)
  obtain ⟨w3, hw3⟩ : ∃ w3, w3 = w2.setCell ⟨p, 1, none⟩ (.int .u64 x1) := ⟨_, rfl⟩; have H3 : Hid (DOk w3 w3 b o d1) := by rw [hw3]; exact hid (H2.out.setOther hne _)
  have K3 : Hid (w3.heap[p]? = some (.cells (scs ⟨n, x1, [], [], [], ⟨0, 0, 0⟩, false, ⟨0, 0, 0⟩⟩ none none none none) SS (0, 0))) := by
   rw [hw3]; exact hid (heap_put _ K2.out)
  have HO3 : Hid (Onl (fun k => k = p ∨ k = b) w w3) := by
   rw [hw3]; exact hid (((cel_onl H2.out.cel).mono fun k hk => .inr hk).set (p := p) (.inl rfl) _ _)
  have hs3 : w.heap.size ≤ w3.heap.size := HO3.out.size; rw [← hw3]; clear hw3 H2 K2 H1 K1 c1 cf; go_wp2_with fail
  refine (dok_stamp H3.out E2.out).mono ?_; rintro e w4 ⟨rfl, h4⟩; have H4 := hid (H3.out.step h4); clear h4; go_wp2_with fail
  obtain ⟨w5, hw5⟩ : ∃ w5, w5 = w4.alloc (.cells #[.int .u64 x2.a, .int .u32 x2.b, .int .u32 x2.c] 36) := ⟨_, rfl⟩; have hb5 : Below w4.heap.size w4 w5 := by rw [hw5]; exact Below.al (Below.refl _ _) _
  have k5 : w5.heap[w4.heap.size]? = some (.cells #[.int .u64 x2.a, .int .u32 x2.b, .int .u32 x2.c] 36 (0, 0)) := by rw [hw5]; exact World.alloc_heap_new _ _
  have hs5 : w4.heap.size < w5.heap.size := by rw [hw5]; simp
  have H5 := hid (H4.out.later hb5); have hs4 : w3.heap.size ≤ w4.heap.size := H4.out.cel.size; rw [← hw5]; have KM := hid k5; clear hw5 hb5 k5 H4; refine (takeHelds_is H5.out E3.out).mono ?_; rintro e w6 ⟨U, aH, cH, rfl, HU, OH, FH, h6⟩; have H6 := hid (H5.out.step h6); have hl6 := h6.cel.size; have C6 := hid h6.cel; clear h6; go_wp2_with fail
  refine (takeEntries_is H6.out E4.out).mono ?_; rintro e w7 ⟨aE, cE, rfl, OE, h7⟩; have H7 := hid (H6.out.step h7); have hbB : b < w5.heap.size := Nat.lt_of_lt_of_le hbl (by omega); have hpB : p < w5.heap.size := Nat.lt_of_lt_of_le hpl (by omega); have OH7 := hid (own_cel OH.out h7.cel hbB); have FH7 : Hid (∀ u ∈ U, u.fresh w5.heap.size w7) := fun u hu => fresh_cel (FH.out u hu) h7.cel hbB
  have hl7 := h7.cel.size; have C7 := hid h7.cel; clear h7; go_wp2_with fail
  refine (takeVersions_is H7.out E5.out).mono ?_; rintro e w8 ⟨aV, cV, rfl, OV, h8⟩; have H8 := hid (H7.out.step h8); have R8 : Hid (Rws w8 p w5.heap.size aH cH U aE cE es aV cV vs) := by
   have h9 := HQ.out; have hul : U.length = hs.length := by rw [← HU.out, List.length_map]
   exact ⟨hpB, own_cel OH7.out h8.cel hbB, fun u hu => fresh_cel (FH7.out u hu) h8.cel hbB, Lk.owb (own_cel OE.out h8.cel (by omega)) (by omega), Lk.owb OV.out (by omega), by rw [hul]; exact h9.1, h9.2.1, h9.2.2.1, fun u hu => h9.2.2.2.1 _ (by rw [← HU.out]; exact List.mem_map.2 ⟨u, hu, rfl⟩), h9.2.2.2.2⟩
  have K8 : Hid (w8.heap[p]? = some (.cells (scs ⟨n, x1, [], [], [], ⟨0, 0, 0⟩, false, ⟨0, 0, 0⟩⟩ none none none none) SS (0, 0))) := (H8.out.cel.block p (Nat.lt_of_lt_of_le hpl hs3) hne).trans K3.out; have HO8 : Hid (Onl (fun k => k = p ∨ k = b) w w8) := HO3.out.trans ((cel_onl H8.out.cel).mono fun k hk => .inr hk); have KM8 : Hid (w8.heap[w4.heap.size]? = some (.cells #[.int .u64 x2.a, .int .u32 x2.b, .int .u32 x2.c] 36 (0, 0))) := by
   have hmb : w4.heap.size ≠ b := by omega
   exact (h8.cel.block _ (by omega) hmb).trans ((C7.out.block _ (by omega) hmb).trans ((C6.out.block _ hs5 hmb).trans KM.out))
  go_wp2_with fail
  clear h8 OH FH OE OV OH7 FH7 C6 C7 KM H5 H6 H7 H8 K3 H3; have m0 := Vs.cob (o := 0) KM8.out rfl; have m1 := Vs.cob (o := 1) KM8.out rfl; have m2 := Vs.cob (o := 2) KM8.out rfl; have hs8 : w.heap.size ≤ w8.heap.size := HO8.out.size; have hpl8 : p < w8.heap.size := by omega
  have hu1 := HY.out.2.1; have F1 : Hid (∀ W, Below w8.heap.size w8 W → Calls Tryz.prog 82 #[.pointer (some ⟨p, 1, none⟩), .slice aV vs.length cV, .agg #[.int .u64 x2.a, .int .u32 x2.b, .int .u32 x2.c]] W fun e w' => e = .returned (.bool true) ∧ Hid (true = true → ∃ F, Ys.St F w' p none none none [] [] s1 ∧ ∀ b, F b → b = p ∨ w8.heap.size ≤ b) ∧ Hid (Rws w' p w5.heap.size aH cH U aE cE es aV cV vs) ∧ Onl (fun b => b = p) w8 w') := fun W hb => by
   rw [← hu1, HS1.out]; refine (fv_is (R8.out.later hb) ((hb.block p hpl8).trans K8.out) x2).mono ?_; rintro e w' ⟨h1, h2, h3⟩; have h3' : Onl (fun b => b = p) w8 w' := (Onl.of_below hb).trans h3.out; exact ⟨h1, fun _ => (by
    obtain ⟨F, q1, q2⟩ := h2.out hu1; exact ⟨F, q1, fun k hk => (q2 k hk).imp id (fun h8 => Nat.le_trans hb.size h8)⟩), R8.out.onl h3', h3'⟩
  have hmp : ¬ w4.heap.size = p := by omega
  have HU1 := hid hu1; clear hu1 KM8; have HFE : Hid (feS s1 es = some s2) := HY.out.2.2.1; have HFE9 : Hid ((feS s1 es).isSome = true) := by rw [HY.out.2.2.1]; exact hid rfl
  have HFH : Hid (fhS s2 hs = some s3) := HY.out.2.2.2.1; have HFH9 : Hid ((fhS s2 hs).isSome = true) := by rw [HY.out.2.2.2.1]; exact hid rfl
  have HU4 : Hid (ovT vs hs = false) := HY.out.2.2.2.2; go_region_held3 (fun z => z.cell? ⟨w4.heap.size, 0, none⟩ = some (.int .u64 x2.a) ∧ z.cell? ⟨w4.heap.size, 1, none⟩ = some (.int .u32 x2.b) ∧ z.cell? ⟨w4.heap.size, 2, none⟩ = some (.int .u32 x2.c) ∧ Onl (fun k => k = p) w8 z)
   ((refine (fun (hO : Onl (fun k => k = p) w8 _) => ⟨hO.cell hmp m0, hO.cell hmp m1, hO.cell hmp m2, hO⟩) ?_; (repeat (first | with_reducible exact Onl.refl _ _ | with_reducible assumption | with_reducible refine Onl.drew ?_))))
   (first
    | (go_at_call 82; refine (F1.out _ (by (repeat (first | with_reducible exact Below.refl _ _ | with_reducible assumption | with_reducible refine Below.drew ?_ | with_reducible refine Below.al ?_ _ | with_reducible refine Below.setCell ?_ (by first | exact Nat.le_refl _ | simp <;> omega) _ | with_reducible refine Below.on ?_ (by assumption))))).mono ?_; rintro e w9 ⟨rfl, S9, R9, hO9⟩; obtain ⟨F9, T9, B9⟩ := S9.out rfl; have F2 : Hid (∀ W, Below w9.heap.size w9 W → Calls Tryz.prog 83 #[.pointer (some ⟨p, 1, none⟩), .slice aE es.length cE] W fun e w' => e = .returned (.bool true) ∧ Hid (∀ s', feS s1 es = some s' → ∃ m, Ys.St F9 w' p none none m [] [] s' ∧ ∀ b, m = some b → w8.heap.size ≤ b) ∧ Hid (Rws w' p w5.heap.size aH cH U aE cE es aV cV vs) ∧ Onl (fun b => b = p) w8 w') := fe_for HFE9.out hO9 R9.out T9; have HT9 := hid T9; clear T9)
    | (go_at_call 83; refine (F2.out _ (by (repeat (first | with_reducible exact Below.refl _ _ | with_reducible assumption | with_reducible refine Below.drew ?_ | with_reducible refine Below.al ?_ _ | with_reducible refine Below.setCell ?_ (by first | exact Nat.le_refl _ | simp <;> omega) _ | with_reducible refine Below.on ?_ (by assumption))))).mono ?_; rintro e w10 ⟨rfl, S10, R10, hO10⟩; obtain ⟨mm, T10, B10⟩ := S10.out s2 HFE.out; have F3 : Hid (∀ W, Below w10.heap.size w10 W → Calls Tryz.prog 84 #[.pointer (some ⟨p, 1, none⟩), .slice aH U.length cH] W fun e w' => e = .returned (.bool true) ∧ Hid (∀ s', fhS s2 hs = some s' → ∃ m1 m2 V I, Ys.St F9 w' p m1 m2 mm V I s' ∧ ∀ b, m1 = some b ∨ m2 = some b → b = p ∨ w8.heap.size ≤ b) ∧ Hid (Rws w' p w5.heap.size aH cH U aE cE es aV cV vs) ∧ Onl (fun b => b = p) w8 w') := fh_for HFH9.out HU.out hO10 R10.out T10; clear T10)
    | (go_at_call 84; refine (F3.out _ (by (repeat (first | with_reducible exact Below.refl _ _ | with_reducible assumption | with_reducible refine Below.drew ?_ | with_reducible refine Below.al ?_ _ | with_reducible refine Below.setCell ?_ (by first | exact Nat.le_refl _ | simp <;> omega) _ | with_reducible refine Below.on ?_ (by assumption))))).mono ?_; rintro e w11 ⟨rfl, S11, R11, hO11⟩; obtain ⟨q1, q2, V11, I11, T11, B11⟩ := S11.out s3 HFH.out; have F4 : Hid (∀ W, Below w11.heap.size w11 W → Calls Tryz.prog 85 #[.slice aV vs.length cV, .slice aH U.length cH] W fun e w' => e = .returned (.bool false) ∧ Hid (Ys.St F9 w' p q1 q2 mm V11 I11 s3) ∧ Onl (fun b => b = p) w8 w') := ov_for HU4.out HU.out hO11 R11.out T11; clear T11)
    | (go_at_call 85; refine (F4.out _ (by (repeat (first | with_reducible exact Below.refl _ _ | with_reducible assumption | with_reducible refine Below.drew ?_ | with_reducible refine Below.al ?_ _ | with_reducible refine Below.setCell ?_ (by first | exact Nat.le_refl _ | simp <;> omega) _ | with_reducible refine Below.on ?_ (by assumption))))).mono ?_; rintro e w12 ⟨rfl, T12, hO12⟩))
  all_goals (try go_wp2_with fail)
  all_goals go_ret
  all_goals refine ⟨rfl, ⟨F9, q1, q2, mm, V11, I11, T12.out, fun k hk => ?_⟩, HO8.out.trans (hO12.mono fun k hk => .inl hk)⟩
  all_goals (
   rcases hk with hk | hk | hk | hk | hk
   ·exact (B9 k hk).imp id (fun h8 => Nat.le_trans hs8 h8)
   ·exact .inl hk
   ·exact (B11 k (.inl hk)).imp id (fun h8 => Nat.le_trans hs8 h8)
   ·exact (B11 k (.inr hk)).imp id (fun h8 => Nat.le_trans hs8 h8)
   ·exact .inr (Nat.le_trans hs8 (B10 k hk)))
end Go.Proofs.YtofpaldolcnmiaaGreat.Ig
