import Derived.Test.YtbgmbbmnnfmbpaaQStands
/- tries: one Hold. -/
namespace Go.Proofs.Ytbgmbbmnnfmbpaa.Lk
open Go.RowKit Go.Sort
set_option linter.unusedVariables false

theorem RowH.onl {B : Nat} {w w' : World} {a : Option Addr} {n c p : Nat} {m1 m2 : Option Nat} {U V : List Hv} {I : It} (h : RowH B w a n c U) (T : Tb w p m1 m2 V I) (ho : Onl (Its p m1 m2) w w') : RowH B w' a n c U := by
  refine ⟨owns_keep h.own fun g hg => ho.block g (h.own.lt g hg).2 (fun hI => ?_), h.len, fun u hu => (h.ok u hu).onl ho (fun b hb => T.bare hb)⟩
  obtain ⟨cur, hc⟩ := own_type h.own hg
  rcases hI with rfl | rfl | rfl
  · have := T.blk
    rw [hc] at this
    injection this with this
    injection this with _ this
    revert this; decide
  · obtain ⟨es, clock, hb, _⟩ := T.held.at
    rw [hc] at hb; cases hb
  · obtain ⟨es, clock, hb, _⟩ := T.ints.at
    rw [hc] at hb; cases hb
theorem Tb.its_lt {w : World} {p : Nat} {m1 m2 : Option Nat} {V : List Hv} {I : It} (T : Tb w p m1 m2 V I) {b : Nat} (h : Its p m1 m2 b) : b < w.heap.size := by
  rcases h with rfl | h | h
  · exact T.lt
  · exact T.held.lt b h
  · exact T.ints.lt b h
/-- All, in plain words -/
theorem allT_is {w : World} {p : Nat} {m1 m2 : Option Nat} {V : List Hv} {I : It} (T : Tb w p m1 m2 V I) (hlen : V.length ≤ 1759218604441) :
    Calls Try.prog 15 #[.pointer (some ⟨p, 0, none⟩)] w fun e w' => ∃ (a : Option Addr) (n c : Nat) (U : List Hv), e = .returned (.slice a n c) ∧ Hid (RowH w.heap.size w' a n c U) ∧ Hid (Told (U.map Hv.h) (V.map Hv.h)) ∧ Hid (Below w.heap.size w w') :=
  (all_is T hlen).mono fun e w' ⟨a, n, c, U, h1, h2, h3, h4, h5, h6, h7⟩ => ⟨a, n, c, U, h1, ⟨h3, h2, fun u hu => (h4 u hu).2⟩, ⟨h5, h6⟩, h7⟩
/-- copied, in plain words -/
theorem copiedT_is {w : World} {v : Hv} (h : v.ok w) :
    Calls Try.prog 20 #[.agg #[.int .u32 v.h.id.1, .int .u32 v.h.id.2, .int .u32 v.h.home, .int .u64 v.h.w, .int .u32 v.h.l, .int .u32 v.h.n, .slice v.ra v.h.rs.length v.rc, .slice v.wa v.h.ws.length v.wc]] w fun e w' => ∃ g1 g2 : Nat, e = .returned (.agg #[.int .u32 v.h.id.1, .int .u32 v.h.id.2, .int .u32 v.h.home, .int .u64 v.h.w, .int .u32 v.h.l, .int .u32 v.h.n, .slice (some ⟨g1, 0, none⟩) v.h.rs.length (v.h.rs.length + 1), .slice (some ⟨g2, 0, none⟩) v.h.ws.length (v.h.ws.length + 1)]) ∧ Hid ((v.roomy g1 g2).ok w') ∧ Hid (Below w.heap.size w w') :=
  (copied_is h).mono fun e w' ⟨g1, g2, h1, h2, h3⟩ => ⟨g1, g2, h1, ⟨h2.row, h3.row, h.rl, h.wl⟩, h2.bl⟩

set_option maxRecDepth 8000 in
set_option maxHeartbeats 4000000 in
theorem tries_is {w : World} {p : Nat} {m1 m2 : Option Nat} {V : List Hv} {I : It} {v : Hv} (T : Tb w p m1 m2 V I) (hv : v.ok w) (hlen : V.length + 1 ≤ 1759218604441) :
    Calls Try.prog 25 #[.pointer (some ⟨p, 0, none⟩), v.val] w fun e w' => e = .returned (.bool true) ∧
      ∃ m1' m2' V' I', Tb w' p m1' m2' V' I' ∧ V'.map Hv.h = holdM (V.map Hv.h) v.h ∧ Onl (Its p m1 m2) w w' ∧ ∀ b, Its p m1' m2' b → Its p m1 m2 b ∨ w.heap.size ≤ b := by
  obtain ⟨wx, hwx⟩ : ∃ wx, wx = w.alloc (.cells #[.int .u32 v.h.id.1, .int .u32 v.h.id.2, .int .u32 v.h.home, .int .u64 v.h.w, .int .u32 v.h.l, .int .u32 v.h.n, .slice v.ra v.h.rs.length v.rc, .slice v.wa v.h.ws.length v.wc] 42) := ⟨_, rfl⟩
  have hbx : Below w.heap.size w wx := by rw [hwx]; exact Below.al (Below.refl _ _) _
  have HK : Hid (∀ o u, (hcs v)[o]? = some u → wx.cell? ⟨w.heap.size, o, none⟩ = some u) := box_cells (by rw [hwx]; exact (MapKept.heap_alloc _ _).1)
  have hsx : w.heap.size < wx.heap.size := by rw [hwx]; simp
  have AL := hid (allT_is (T.later hbx) (by omega))
  have HT := hid T
  have HV := hid hv
  have HBX := hid hbx
  have HLEN := hid hlen
  clear T hv hbx hlen
  go_enter Try.func25, Try.ntmps25
  go_wp2_with fail
  rw [← hwx]
  clear hwx
  refine AL.out.mono ?_
  rintro e w1 ⟨a, n, c, U, rfl, HR, HTo, HB1⟩
  have hln := HR.out.len
  have hnl := own_le HR.out.own
  have HLN := hid hln
  have HBX1 : Hid (Below w.heap.size w w1) := Below.on HBX.out HB1.out
  clear AL hln
  go_wp2_with fail
  go_loopg [6, 7, 8] n (fun g s6 s7 s8 wr => ∃ (k : Nat) (t m : Bool), k ≤ n ∧ g = n - k ∧ s8 = .int .i64 k ∧ s7 = .bool t ∧ s6 = .bool m ∧ Hid (t = anyN (fun j => sameI (nthH U j).h.id v.h.id) k) ∧ Hid (m = anyN (fun j => clashB (nthH U j).h v.h) k) ∧ Hid (Below w1.heap.size w1 wr))
  case atStart => exact ⟨0, false, false, by omega, by omega, rfl, rfl, rfl, rfl, rfl, Below.refl _ _⟩
  case round =>
    obtain ⟨k, t, m, hk, rfl, rfl, rfl, rfl, HTh, HMe, HB⟩ := hrel
    by_cases hlt : k < n
    · have hk1 : (k : Int) < (n : Int) := by omega
      obtain ⟨x, hxe⟩ : ∃ x, x = nthH U k := ⟨_, rfl⟩
      have HX := hid hxe
      clear hxe
      go_wp2_with fail
      go_cut [7] (fun s7 wz => ∃ t' : Bool, s7 = .bool t' ∧ Hid (t' = anyN (fun j => sameI (nthH U j).h.id v.h.id) (k + 1)) ∧ Hid (Below w1.heap.size w1 wz))
      case first =>
        obtain ⟨g, eg, hc⟩ := ownH_at (HR.out.later HB.out).own HLN.out hlt
        subst eg
        rw [← HX.out] at hc
        have s0 := cell_regrown (show wr.cell? ⟨g, k * 8, none⟩ = _ from hc 0 _ rfl)
        have s1 := cell_regrown (hc 1 _ rfl)
        have hq : ∀ o u, (hcs v)[o]? = some u → wr.cell? ⟨w.heap.size, o, none⟩ = some u := fun o u h => cell_later (Below.on HB1.out HB.out) (HK.out o u h)
        have t0 := cell_regrown (hq 0 _ rfl)
        have t1 := cell_regrown (hq 1 _ rfl)
        clear hc hq
        cases t with
        | true =>
          refine wp_region_quiet_below (by kernel_rfl) (by kernel_rfl) ?_
          repeat (go_big_quiet_step (fail))
          refine wpQuiet_nil ?_
          intro wn hwn
          replace hwn := below_of_regrown hwn
          go_wp2_with fail
          go_meet
          exact ⟨true, rfl, by show _ = _; rw [anyN, ← HTh.out]; rfl, hid (Below.on HB.out hwn)⟩
        | false =>
          obtain ⟨z, hz⟩ : ∃ z, sameI x.h.id v.h.id = z := ⟨_, rfl⟩
          have qq : ∀ W, (binOp .eql 35 (.agg #[.int .u32 x.h.id.1, .int .u32 x.h.id.2]) (.agg #[.int .u32 v.h.id.1, .int .u32 v.h.id.2])).run Try.prog W = .ok (.bool z) W := fun W => by rw [← hz]; exact run_eqI x.h.id v.h.id W
          have HZ := hid hz
          clear hz
          refine wp_region_quiet_below (by kernel_rfl) (by kernel_rfl) ?_
          repeat (go_big_quiet_step (fail))
          refine wpQuiet_nil ?_
          intro wn hwn
          replace hwn := below_of_regrown hwn
          go_wp2_with fail
          go_meet
          exact ⟨z, rfl, by show _ = _; rw [anyN, ← HTh.out, ← HX.out, HZ.out]; rfl, hid (Below.on HB.out hwn)⟩
      case rest =>
        obtain ⟨t', rfl, HTh', HC⟩ := hcut
        obtain ⟨wr, rfl⟩ : ∃ W, W = wc := ⟨_, rfl⟩
        obtain ⟨g, eg, hc⟩ := ownH_at (HR.out.later HC.out).own HLN.out hlt
        subst eg
        have hx := (HR.out.later HC.out).ok _ (nthH_mem (i := k) (by rw [HLN.out]; exact hlt))
        rw [← HX.out] at hc hx
        have hq : ∀ o u, (hcs v)[o]? = some u → wr.cell? ⟨w.heap.size, o, none⟩ = some u := fun o u h => cell_later (Below.on HB1.out HC.out) (HK.out o u h)
        have hvv : v.ok wr := HV.out.later (Below.on HBX1.out HC.out)
        have s0 := cell_regrown (show wr.cell? ⟨g, k * 8, none⟩ = _ from hc 0 _ rfl)
        have s1 := cell_regrown (hc 1 _ rfl)
        have s2 := cell_regrown (hc 2 _ rfl)
        have s3 := cell_regrown (hc 3 _ rfl)
        have s4 := cell_regrown (hc 4 _ rfl)
        have s5 := cell_regrown (hc 5 _ rfl)
        have s6 := cell_regrown (hc 6 _ rfl)
        have s7 := cell_regrown (hc 7 _ rfl)
        have t0 := cell_regrown (hq 0 _ rfl)
        have t1 := cell_regrown (hq 1 _ rfl)
        have t2 := cell_regrown (hq 2 _ rfl)
        have t3 := cell_regrown (hq 3 _ rfl)
        have t4 := cell_regrown (hq 4 _ rfl)
        have t5 := cell_regrown (hq 5 _ rfl)
        have t6 := cell_regrown (hq 6 _ rfl)
        have t7 := cell_regrown (hq 7 _ rfl)
        cases m with
        | true =>
          clear hc hq hx hvv
          go_wp2_with fail
          refine wp_region_quiet_below (by kernel_rfl) (by kernel_rfl) ?_
          repeat (go_big_quiet_step (fail))
          refine wpQuiet_nil ?_
          intro wn hwn
          replace hwn := below_of_regrown hwn
          go_wp2_with fail
          go_roundg (n - (k + 1))
          case measure => omega
          case rel => exact ⟨k + 1, t', true, by omega, rfl, by go_num, rfl, rfl, HTh', by show _ = _; rw [anyN, ← HMe.out]; rfl, Below.on HC.out hwn⟩
        | false =>
          obtain ⟨z, hz⟩ : ∃ z, clashB x.h v.h = z := ⟨_, rfl⟩
          have CL : Hid (∀ W, Below wr.heap.size wr W → Calls Try.prog 39 #[.agg #[.int .u32 x.h.id.1, .int .u32 x.h.id.2, .int .u32 x.h.home, .int .u64 x.h.w, .int .u32 x.h.l, .int .u32 x.h.n, .slice x.ra x.h.rs.length x.rc, .slice x.wa x.h.ws.length x.wc], .agg #[.int .u32 v.h.id.1, .int .u32 v.h.id.2, .int .u32 v.h.home, .int .u64 v.h.w, .int .u32 v.h.l, .int .u32 v.h.n, .slice v.ra v.h.rs.length v.rc, .slice v.wa v.h.ws.length v.wc]] W fun e w' => e = .returned (.bool z) ∧ Below W.heap.size W w') := fun W hb => clash_is hz (hx.later hb) (hvv.later hb)
          have HZ := hid hz
          clear hz hc hq hx hvv
          go_wp2_with fail
          refine wp_region_quiet_below (by kernel_rfl) (by kernel_rfl) ?_
          repeat (go_big_quiet_step (((go_at_call 39; exact Calls.regrown_of (CL.out _ (below_of_regrown ⟨⟨_, _⟩, rfl⟩))))))
          refine wpQuiet_nil ?_
          intro wn hwn
          replace hwn := below_of_regrown hwn
          go_wp2_with fail
          go_roundg (n - (k + 1))
          case measure => omega
          case rel => exact ⟨k + 1, t', z, by omega, rfl, by go_num, rfl, rfl, HTh', by show _ = _; rw [anyN, ← HMe.out, ← HX.out, HZ.out]; rfl, Below.on HC.out hwn⟩
    · obtain rfl : k = n := by omega
      have HT2 : Hid (t = hasB (V.map Hv.h) v.h.id) := by
        show _ = _
        rw [HTh.out, ← HLN.out, anyN_H (q := fun g => sameI g.id v.h.id), ← hasB_any, HTo.out.hasB]
      have HM2 : Hid (m = (V.map Hv.h).any (fun g => clashB g v.h)) := by
        show _ = _
        rw [HMe.out, ← HLN.out, anyN_H (q := fun g => clashB g v.h), HTo.out.any]
      have hBwr : Below w.heap.size w wr := Below.on HBX1.out HB.out
      have hq : ∀ o u, (hcs v)[o]? = some u → wr.cell? ⟨w.heap.size, o, none⟩ = some u := fun o u h => cell_later (Below.on HB1.out HB.out) (HK.out o u h)
      have q0 := hq 0 _ rfl
      have q1 := hq 1 _ rfl
      have q2 := hq 2 _ rfl
      have q3 := hq 3 _ rfl
      have q4 := hq 4 _ rfl
      have q5 := hq 5 _ rfl
      have q6 := hq 6 _ rfl
      have q7 := hq 7 _ rfl
      have CP := hid (copiedT_is (HV.out.later hBwr))
      have HBR := hid hBwr
      have HRr := hid (HR.out.later HB.out)
      have HBQ : Hid (Below wx.heap.size wx wr) := Below.on HB1.out HB.out
      clear hq hBwr HTh HMe HB HR hlt
      go_wp2_with fail
      refine CP.out.mono ?_
      rintro e w3 ⟨g1, g2, rfl, HVR, HB3⟩
      have T3 := HT.out.later (Below.on HBR.out HB3.out)
      have HO := hid (hold_is T3 HVR.out)
      simp only [Hv.val, Hv.roomy] at HO
      obtain ⟨C, hC⟩ : ∃ C, C = holdC (V.map Hv.h) v.h := ⟨_, rfl⟩
      rw [← hC] at HO
      have HC := hid hC
      have HT3 := hid T3
      have HBw3 : Hid (Below w.heap.size w w3) := Below.on HBR.out HB3.out
      have HR3 := hid (HRr.out.later HB3.out)
      have hq : ∀ o u, (hcs v)[o]? = some u → w3.cell? ⟨w.heap.size, o, none⟩ = some u := fun o u h => cell_later (Below.on HBQ.out HB3.out) (HK.out o u h)
      clear hC T3 CP
      go_wp2_with fail
      refine HO.out.mono ?_
      rintro e w4 ⟨rfl, m1', m2', V', I', T4, hV4, hO4, hnew⟩
      have HT4 := hid T4
      have HV4 := hid hV4
      have HO4 := hid hO4
      have hlen4 : V'.length ≤ 1759218604441 := by
        have h1 := congrArg List.length hV4
        have h2 := holdM_len (V.map Hv.h) v.h
        have h3 := HLEN.out
        simp at h1 h2
        omega
      have AL := hid (allT_is T4 hlen4)
      have HR4 := hid (HR3.out.onl HT3.out hO4)
      have HNW : Hid (∀ b, Its p m1' m2' b → Its p m1 m2 b ∨ w.heap.size ≤ b) := fun b hb => by
        rcases hnew b hb with h | h
        · exact .inl h
        · exact .inr (Nat.le_trans HBw3.out.size h)
      have hOw : Onl (Its p m1 m2) w w4 := (Onl.of_below HBw3.out).trans hO4
      have HOw := hid hOw
      have nI : ¬ Its p m1 m2 w.heap.size := fun h => by have := HT.out.its_lt h; omega
      have hq4 : ∀ o u, (hcs v)[o]? = some u → w4.cell? ⟨w.heap.size, o, none⟩ = some u := fun o u h => hO4.cell nI (hq o u h)
      have HQ4 := hid hq4
      have HV4o : Hid (v.ok w4) := HV.out.onl hOw (fun b hb => HT.out.bare hb)
      clear T4 hV4 hO4 hnew hOw nI hq hq4 HO hlen4
      go_wp2_with fail
      refine AL.out.mono ?_
      rintro e w5 ⟨a', n', c', U', rfl, HR5, HTo5, HB5⟩
      have HR45 := hid (HR4.out.later HB5.out)
      have HT5 := hid (HT4.out.later HB5.out)
      have hq5 : ∀ o u, (hcs v)[o]? = some u → w5.cell? ⟨w.heap.size, o, none⟩ = some u := fun o u h => cell_later HB5.out (HQ4.out o u h)
      have r0 := hq5 0 _ rfl
      have r1 := hq5 1 _ rfl
      have r2 := hq5 2 _ rfl
      have r3 := hq5 3 _ rfl
      have r4 := hq5 4 _ rfl
      have r5 := hq5 5 _ rfl
      have r6 := hq5 6 _ rfl
      have r7 := hq5 7 _ rfl
      have FIN : Hid (∀ w6, Below w5.heap.size w5 w6 → ∃ m1' m2' V' I', Tb w6 p m1' m2' V' I' ∧ V'.map Hv.h = holdM (V.map Hv.h) v.h ∧ Onl (Its p m1 m2) w w6 ∧ ∀ b, Its p m1' m2' b → Its p m1 m2 b ∨ w.heap.size ≤ b) := fun w6 h6 => ⟨m1', m2', V', I', HT5.out.later h6, HV4.out, (HOw.out.on HB5.out).on h6, HNW.out⟩
      clear AL hq5
      cases t with
      | true =>
        obtain ⟨e1, e2⟩ := hold_there HT2.out.symm
        have hC1 : C = 101 := HC.out.trans e1
        subst hC1
        have hLL : U.map Hv.h = U'.map Hv.h := by
          have h5 := HTo5.out
          rw [HV4.out, e2] at h5
          exact HTo.out.uniq HT.out.ok.ids h5
        have SL := hid (sameList_is (u := true) ⟨fun _ => hLL, fun _ => rfl⟩ HR45.out HR5.out)
        clear hLL e1 e2
        go_wp2_with fail
        refine SL.out.mono ?_
        rintro e w6 ⟨rfl, hw6⟩
        have hF := hid (FIN.out w6 hw6)
        go_wp2_with fail
        go_ret
        exact ⟨rfl, hF.out⟩
      | false =>
        cases m with
        | true =>
          obtain ⟨e1, e2⟩ := hold_met HT2.out.symm HM2.out.symm
          have hC1 : C = 100 := HC.out.trans e1
          subst hC1
          have hLL : U.map Hv.h = U'.map Hv.h := by
            have h5 := HTo5.out
            rw [HV4.out, e2] at h5
            exact HTo.out.uniq HT.out.ok.ids h5
          have SL := hid (sameList_is (u := true) ⟨fun _ => hLL, fun _ => rfl⟩ HR45.out HR5.out)
          clear hLL e1 e2
          go_wp2_with fail
          refine SL.out.mono ?_
          rintro e w6 ⟨rfl, hw6⟩
          have hF := hid (FIN.out w6 hw6)
          go_wp2_with fail
          go_ret
          exact ⟨rfl, hF.out⟩
        | false =>
          obtain ⟨e1, e2⟩ := hold_ok HT2.out.symm HM2.out.symm
          have hC1 : C = 0 := HC.out.trans e1
          subst hC1
          have h5 := HTo5.out
          rw [HV4.out, e2] at h5
          have hn' : n' = k + 1 := by
            have h1 := h5.len
            have h2 := HTo.out.len
            have h3 := HR5.out.len
            have h4 := HLN.out
            simp at h1 h2
            omega
          have hin : v.h ∈ U'.map Hv.h := h5.perm.mem_iff.2 (by simp)
          have LE := hid (len_is HT5.out)
          have hVl : V'.length = n' := by
            have h1 := HTo5.out.len
            have h2 := HR5.out.len
            simp at h1
            omega
          rw [hVl] at LE
          have ST : Hid (∀ W, Below w5.heap.size w5 W → Calls Try.prog 26 #[.slice a' n' c', .agg #[.int .u32 v.h.id.1, .int .u32 v.h.id.2, .int .u32 v.h.home, .int .u64 v.h.w, .int .u32 v.h.l, .int .u32 v.h.n, .slice v.ra v.h.rs.length v.rc, .slice v.wa v.h.ws.length v.wc]] W fun e w' => e = .returned (.bool true) ∧ Below W.heap.size W w') := fun W hb => stands_is ⟨fun _ => hin, fun _ => rfl⟩ (HR5.out.later hb) ((HV4o.out.later HB5.out).later hb)
          have hkb : k ≤ 1759218604441 := by
            have h2 := HTo.out.len
            have h4 := HLN.out
            have h3 := HLEN.out
            simp at h2
            omega
          have hw1 : IntKind.i64.wrap ((k : Int) + 1) = (n' : Int) := by rw [IntKind.wrap_i64, hn']; omega
          have HNN := hid hn'
          clear h5 hin e1 e2 hVl hn' hkb
          go_wp2_with fail
          refine LE.out.mono ?_
          rintro e w6 ⟨rfl, hw6⟩
          have r0 := cell_later hw6 r0
          have r1 := cell_later hw6 r1
          have r2 := cell_later hw6 r2
          have r3 := cell_later hw6 r3
          have r4 := cell_later hw6 r4
          have r5 := cell_later hw6 r5
          have r6 := cell_later hw6 r6
          have r7 := cell_later hw6 r7
          have HW6 := hid hw6
          clear hw6
          go_wp2_with fail
          refine (ST.out _ HW6.out).mono ?_
          rintro e w7 ⟨rfl, hw7⟩
          have hF := hid (FIN.out w7 (Below.on HW6.out hw7))
          go_wp2_with fail
          go_ret
          exact ⟨rfl, hF.out⟩
end Go.Proofs.Ytbgmbbmnnfmbpaa.Lk
