import Derived.Test.YtfdbffadajepfaaGreatB39
import Derived.Test.YtfdbffadajepfaaGreatStateChecksC01
import Derived.Test.YtfdbffadajepfaaGreatStateChecksC02
import Derived.Test.YtfdbffadajepfaaGreatB40
/- StateChecks. -/
namespace Go.Proofs.YtfdbffadajepfaaGreat.Ys
open Go.RowKit Go.Sort
set_option linter.unusedVariables false

/-- what stands behind each of the later records -/
structure Chs (wx wr : World) (B p : Nat) (s : Ps) (U : List Cv) (a : Option Addr) (n c : Nat) : Prop where
  st : Sta B wr p s
  cs : OwnC B wr (.slice a n c) n U
  hist : ∃ R, Hist s (U.map Cv.c) R
  bl : Below wx.heap.size wx wr
  hB : wx.heap.size ≤ B ∧ B ≤ wr.heap.size
section
variable {wx wr w' : World} {B p : Nat} {s : Ps} {U : List Cv} {a : Option Addr} {n c : Nat}
theorem Chs.later (S : Chs wx wr B p s U a n c) (hb : Below wr.heap.size wr w') : Chs wx w' B p s U a n c :=
  ⟨S.st.later hb, S.cs.later hb, S.hist, Below.on S.bl hb, S.hB.1, Nat.le_trans S.hB.2 hb.size⟩
theorem Chs.cnt (S : Chs wx wr B p s U a n c) (hl : U.length ≤ 1048577) : Vs.countM s.M ≤ 268435456 := by
  obtain ⟨R, h⟩ := S.hist
  exact h.cnt28 (by rw [List.length_map]; omega)
theorem Chs.jb (S : Chs wx wr B p s U a n c) {u : Vs.Sp} (h : acB s u = true) : jbB u = true := by
  obtain ⟨R, h'⟩ := S.hist
  exact h'.jb h
/-- the last commit -/
theorem Chs.top (S : Chs wx wr B p s U a n c) : ∃ v, U[U.length - 1]? = some v ∧ v.c.t = s.lc ∧ 0 < U.length := by
  obtain ⟨R, h⟩ := S.hist
  obtain ⟨d, hd, e⟩ := h.last
  rw [List.getLast?_eq_getElem?, List.getElem?_map, List.length_map] at hd
  obtain ⟨v, hv, rfl⟩ := Option.map_eq_some_iff.1 hd
  exact ⟨v, hv, e, by have := (List.getElem?_eq_some_iff.1 hv).1; omega⟩
theorem Chs.step (S : Chs wx wr B p s U a n c) {r : Rg} (hr : RgR r) (he : r.err = 0) (hk : r.k = 2) (T : Sta B w' p (apS s r)) (hc : Chg B wr w') : Chs wx w' B p (apS s r) U a n c := by
  have hbl : Below wx.heap.size wx w' := S.bl.trans (by obtain ⟨G, ho, hg⟩ := hc; exact ho.below (fun b hb => Nat.le_trans S.hB.1 (hg b hb).1) S.bl.size)
  refine ⟨T, S.cs.chg hc, ?_, hbl, S.hB.1, Nat.le_trans S.hB.2 hc.size⟩
  obtain ⟨R, H⟩ := S.hist
  by_cases h0 : apE s r = 0
  · obtain ⟨I, hI⟩ := S.st.okI
    exact ⟨_, (H.step S.st.good hI hr (by omega) h0).2 (fun h => by omega)⟩
  · rw [ap_no h0]; exact ⟨R, H⟩
end
abbrev z3 : Obj := .cells #[.int .u64 0, .int .u32 0, .int .u32 0] 28
theorem two_alloc {w : World} {o1 : Obj} {w' : World} (hb : Below ((w.alloc o1).alloc z3).heap.size ((w.alloc o1).alloc z3) w') : w'.heap[w.heap.size + 1]? = some (.cells #[.int .u64 0, .int .u32 0, .int .u32 0] 28 (0, 0)) := by
  have h := World.alloc_heap_new (w.alloc o1) z3
  rw [World.size_alloc] at h
  exact (hb.block _ (by simp)).trans h
theorem one_alloc {w : World} {o2 : Obj} {w' : World} (hb : Below ((w.alloc z3).alloc o2).heap.size ((w.alloc z3).alloc o2) w') : w'.heap[w.heap.size]? = some (.cells #[.int .u64 0, .int .u32 0, .int .u32 0] 28 (0, 0)) := by
  have h := World.alloc_heap_new w z3
  have h2 : Below (w.alloc z3).heap.size (w.alloc z3) ((w.alloc z3).alloc o2) := Below.al (Below.refl _ _) _
  exact ((Below.on h2 hb).block _ (by simp)).trans h
theorem zero_alloc {w : World} {w' : World} (hb : Below (w.drew.alloc z3).heap.size (w.drew.alloc z3) w') : w'.heap[w.heap.size]? = some (.cells #[.int .u64 0, .int .u32 0, .int .u32 0] 28 (0, 0)) := by
  have h := World.alloc_heap_new w.drew z3
  exact (hb.block _ (by simp)).trans h
theorem more_alloc {w : World} {o : Obj} {w' : World} {q : Nat} {x : Obj} (h : w.heap[q]? = some x) (hb : Below (w.alloc o).heap.size (w.alloc o) w') : w'.heap[q]? = some x := by
  have h2 : Below w.heap.size w (w.alloc o) := Below.al (Below.refl _ _) _
  exact ((Below.on h2 hb).block _ (Array.getElem?_eq_some_iff.1 h).1).trans h
theorem stamp_put {w : World} {q : Nat} {a0 a1 a2 : Value} {t : TypeId} {z : Nat × Nat} (h : w.heap[q]? = some (.cells #[a0, a1, a2] t z)) (m : Go.Proofs.YtfdbffadajepfaaGreat.St) :
    (((w.setCell ⟨q, 0, none⟩ (.int .u64 m.w)).setCell ⟨q, 1, none⟩ (.int .u32 m.l)).setCell ⟨q, 2, none⟩ (.int .u32 m.n)).heap[q]? = some (.cells #[.int .u64 m.w, .int .u32 m.l, .int .u32 m.n] t z) := by
  have h := heap_put (o := 2) (.int .u32 m.n) (heap_put (o := 1) (.int .u32 m.l) (heap_put (o := 0) (.int .u64 m.w) h))
  simp only [List.setIfInBounds_toArray, List.set_cons_zero, List.set_cons_succ] at h
  exact h
/-- is a later record passed over? -/
def skC (s : Ps) (r : Rg) (L : Bool) : Bool := !decide (r.err = 0) || !decide (r.k = 2) || !L || decide (s.ceil ≤ r.w)

set_option maxRecDepth 16000 in
set_option maxHeartbeats 8000000 in
theorem law_checks {w : World} {x : Pa} (hL : RowG w x.la x.ls) (hl : x.ls.length ≤ 1048576) (hY : RowG w x.ya x.ys) (hy : x.ys.length ≤ 1048576) :
    Calls Tryz.prog 5 #[x.val] w fun e w' => e = .returned (.bool true) ∧ Below w.heap.size w w' := by
  obtain ⟨wx, hwx⟩ : ∃ wx, wx = w.alloc (.cells x.cells 30) := ⟨_, rfl⟩
  have hbx : Below w.heap.size w wx := by rw [hwx]; exact Below.al (Below.refl _ _) _
  have BP : BoxP wx w.heap.size x := by rw [hwx]; exact boxP w x _
  have x0 := BP.c0; have x1 := BP.c1; have x2 := BP.c2; have x3 := BP.c3; have x4 := BP.c4; have x5 := BP.c5; have x6 := BP.c6; have x7 := BP.c7
  have HI := hid (history_is (hL.later hbx) hl)
  have HY := hid (hY.later hbx)
  have HBX := hid hbx
  obtain ⟨M, hM⟩ : ∃ M, x.ys.length = M := ⟨_, rfl⟩
  have HM := hid hM
  rw [hM] at hy
  have X7 : Hid (wx.cell? ⟨w.heap.size, 7, none⟩ = some (.slice x.ya M x.yc)) := hid (by rw [← hM]; exact x7)
  clear hL hY hbx BP hM
  go_enter Tryz.func5, Tryz.ntmps5
  go_wp2_with fail
  rw [← hwx]
  clear hwx
  refine HI.out.mono ?_
  rintro e w1 ⟨p, a, n, c, rfl, HO, hb1⟩
  obtain ⟨B, s, U, R, hB1, hB2, T, hC, hUn, _, hH, hn, hRn⟩ := HO.out
  have HS0 : Hid (Chs wx w1 B p s U a n c) := hid ⟨T, hC, ⟨R, hH⟩, hb1, hB1, hB2⟩
  have HUL : Hid (U.length ≤ 1048577) := hid (by omega)
  obtain ⟨m, rfl⟩ : ∃ m, n = m + 1 := by
    obtain ⟨v, _, _, h⟩ := HS0.out.top
    exact ⟨n - 1, by omega⟩
  have HUN := hid hUn
  clear HI HO T hC hH hb1 hB1 hB2 x0 x1 x2 x3 x4 x5 x6 x7 hRn hUn
  go_wp2_with fail
  go_loopg [5] M (fun gg s5 wr => ∃ (k : Nat) (s : Ps), k ≤ M ∧ gg = M - k ∧ s5 = .int .i64 k ∧ Hid (Chs wx wr B p s U a (m + 1) c))
  case atStart => exact ⟨0, s, by omega, by omega, rfl, HS0⟩
  case round =>
    obtain ⟨k, s, hk, rfl, rfl, HS⟩ := hrel
    clear HS0
    have hbr := HS.out.bl
    have v7 := cell_later hbr X7.out
    by_cases hlt : k < M
    · obtain ⟨r, hr⟩ : ∃ r, x.ys[k]? = some r := ⟨x.ys[k]'(by rw [HM.out]; exact hlt), by simp⟩
      obtain ⟨⟨rb, ro, hla, BX⟩, RA⟩ := HY.out k r hr
      rw [hla] at v7
      have bx := BX.later hbr
      have b0 := bx.c0; have b1 := bx.c1; have b2 := bx.c2; have b3 := bx.c3; have b4 := bx.c4; have b5 := bx.c5; have b6 := bx.c6; have b7 := bx.c7; have b8 := bx.c8; have b9 := bx.c9; have b10 := bx.c10; have b11 := bx.c11
      have HRA := hid RA
      obtain ⟨wa, hwa⟩ : ∃ wa, wa = wr.alloc (.cells r.cells 48) := ⟨_, rfl⟩
      have hba : Below wr.heap.size wr wa := by rw [hwa]; exact Below.al (Below.refl _ _) _
      have BQ : BoxG wa wr.heap.size r := by rw [hwa]; exact boxG wr r _
      have obq : wa.heap[wr.heap.size]? = some (.cells r.cells 48 (0, 0)) := by rw [hwa]; exact World.alloc_heap_new _ _
      have HSA := hid (HS.out.later hba)
      have HBQ := hid BQ
      have HOQ := hid obq
      have VA := hid (refValid_is (HRA.out.ok.later HSA.out.bl))
      obtain ⟨E, hE⟩ : ∃ E, r.err = E := ⟨_, rfl⟩
      rw [hE] at VA
      have HE := hid hE
      clear BX RA hla hr bx hba hbr BQ obq hE
      go_wp2_with fail
      rw [← hwa]
      clear hwa b0 b1 b2 b3 b4 b5 b6 b7 b8 b9 b10 b11 v7
      refine VA.out.mono ?_
      rintro e w2 ⟨rfl, hb2⟩
      have HS2 := hid (HSA.out.later hb2)
      have HBQ2 := hid (HBQ.out.later hb2)
      have hlq : wr.heap.size < wa.heap.size := (Array.getElem?_eq_some_iff.1 HOQ.out).1
      have HOQ2 : Hid (w2.heap[wr.heap.size]? = some (.cells r.cells 48 (0, 0))) := hid ((hb2.block _ hlq).trans HOQ.out)
      obtain ⟨v, hv, hvt, _⟩ := HS2.out.top
      have hv' : U[m]? = some v := by rw [HUN.out] at hv; simpa using hv
      obtain ⟨gc, hgc, CA⟩ := HS2.out.cs.at hv' (by omega)
      have t0 := CA.c0; have t1 := CA.c1; have t2 := CA.c2
      rw [hvt] at t0 t1 t2
      subst hgc
      clear VA hb2 HSA HBQ HOQ hv hv' CA hvt
      go_upto_region 10 with fail
      obtain ⟨w3, hw3⟩ : ∃ w3, w3 = w2.alloc (.cells #[.int .u64 s.lc.a, .int .u32 s.lc.b, .int .u32 s.lc.c] 28) := ⟨_, rfl⟩
      rw [← hw3]
      have hb3 : Below w2.heap.size w2 w3 := by rw [hw3]; exact Below.al (Below.refl _ _) _
      have obt : w3.heap[w2.heap.size]? = some (.cells #[.int .u64 s.lc.a, .int .u32 s.lc.b, .int .u32 s.lc.c] 28 (0, 0)) := by rw [hw3]; exact World.alloc_heap_new _ _
      have HS3 := hid (HS2.out.later hb3)
      have hlq2 : wr.heap.size < w2.heap.size := (Array.getElem?_eq_some_iff.1 HOQ2.out).1
      have HOQ3 : Hid (w3.heap[wr.heap.size]? = some (.cells r.cells 48 (0, 0))) := hid ((hb3.block _ hlq2).trans HOQ2.out)
      have HOT := hid obt
      have bq := HBQ2.out.later hb3
      have HBQ3 := hid bq
      have u0 : w3.cell? ⟨w2.heap.size, 0, none⟩ = some (.int .u64 s.lc.a) := Vs.cell_of_obj obt rfl
      have u1 : w3.cell? ⟨w2.heap.size, 1, none⟩ = some (.int .u32 s.lc.b) := Vs.cell_of_obj obt rfl
      have u2 : w3.cell? ⟨w2.heap.size, 2, none⟩ = some (.int .u32 s.lc.c) := Vs.cell_of_obj obt rfl
      have g0 := cell_regrown bq.c0; have g6 := cell_regrown bq.c6; have g7 := cell_regrown bq.c7; have g8 := cell_regrown bq.c8
      have g1 := cell_regrown u0; have g2 := cell_regrown u1; have g3 := cell_regrown u2
      obtain ⟨L, hL⟩ : ∃ L, s.lc.lt (at' r) = L := ⟨_, rfl⟩
      have HL := hid hL
      have LS : Hid (∀ W, Calls Tryz.prog 9 #[.agg #[.int .u64 s.lc.a, .int .u32 s.lc.b, .int .u32 s.lc.c], .agg #[.int .u64 r.w, .int .u32 r.l, .int .u32 r.n]] W fun e w' => e = .returned (.bool L) ∧ Below W.heap.size W w') := hid fun W => less_is hL W
      have CE : Hid (∀ W, Below w3.heap.size w3 W → Calls Tryz.prog 15 #[.pointer (some ⟨p, 0, none⟩)] W fun e w' => e = .returned (.int .u64 s.ceil) ∧ Below W.heap.size W w') := hid fun W hb => (HS3.out.st.later hb).ceil
      obtain ⟨q, hq⟩ : ∃ q, q = wr.heap.size := ⟨_, rfl⟩
      obtain ⟨qt, hqt⟩ : ∃ qt, qt = w2.heap.size := ⟨_, rfl⟩
      rw [← hq] at HOQ3 HBQ3 g0 g6 g7 g8 ⊢
      rw [← hqt] at HOT g1 g2 g3 ⊢
      clear hw3 hb3 obt bq HS2 HBQ2 HOQ2 t0 t1 t2 hL hq hqt u0 u1 u2 hlq hlq2
      go_cut [63] from 21 to 140 (fun s63 wz => ∃ w4, w4 = wz ∧ s63 = .bool (skC s r L) ∧ Below w3.heap.size w3 w4)
      case first =>
        by_cases h0 : E = 0
        · have e0 : (E != 0) = false := by simpa using h0
          by_cases h2 : r.k = 2
          · have e2 : (r.k != 2) = false := by simpa using h2
            by_cases hc : s.ceil ≤ r.w
            · have ec : decide (s.ceil ≤ r.w) = true := by simpa using hc
              have ec' : decide (r.w ≥ s.ceil) = true := by simpa using hc
              have HK : Hid (skC s r L = true) := hid (by unfold skC; rw [ec, Bool.or_true])
              clear h0 h2 hc
              cases L
              · refine wp_region_quiet_below (by kernel_rfl) (by kernel_rfl) ?_
                repeat (go_big_quiet_step (first | (go_at_call 9; exact Calls.regrown_of (LS.out _)) | (go_at_call 15; exact Calls.regrown_of (CE.out _ (below_regrown _ _ _)))))
                refine wpQuiet_nil ?_
                intro wq hq
                replace hq := below_of_regrown hq
                go_wp2_with fail
                go_meet
                exact ⟨_, rfl, by rw [HK.out], hq⟩
              · refine wp_region_quiet_below (by kernel_rfl) (by kernel_rfl) ?_
                repeat (go_big_quiet_step (first | (go_at_call 9; exact Calls.regrown_of (LS.out _)) | (go_at_call 15; exact Calls.regrown_of (CE.out _ (below_regrown _ _ _)))))
                refine wpQuiet_nil ?_
                intro wq hq
                replace hq := below_of_regrown hq
                go_wp2_with fail
                go_meet
                exact ⟨_, rfl, by rw [HK.out], hq⟩
            · have ec : decide (s.ceil ≤ r.w) = false := by simpa using hc
              have ec' : decide (r.w ≥ s.ceil) = false := by simpa using hc
              have HK : Hid (skC s r L = !L) := hid (by unfold skC; rw [ec, HE.out]; simp [h0, h2])
              clear h0 h2 hc
              cases L
              · refine wp_region_quiet_below (by kernel_rfl) (by kernel_rfl) ?_
                repeat (go_big_quiet_step (first | (go_at_call 9; exact Calls.regrown_of (LS.out _)) | (go_at_call 15; exact Calls.regrown_of (CE.out _ (below_regrown _ _ _)))))
                refine wpQuiet_nil ?_
                intro wq hq
                replace hq := below_of_regrown hq
                go_wp2_with fail
                go_meet
                exact ⟨_, rfl, by rw [HK.out]; rfl, hq⟩
              · refine wp_region_quiet_below (by kernel_rfl) (by kernel_rfl) ?_
                repeat (go_big_quiet_step (first | (go_at_call 9; exact Calls.regrown_of (LS.out _)) | (go_at_call 15; exact Calls.regrown_of (CE.out _ (below_regrown _ _ _)))))
                refine wpQuiet_nil ?_
                intro wq hq
                replace hq := below_of_regrown hq
                go_wp2_with fail
                go_meet
                exact ⟨_, rfl, by rw [HK.out]; rfl, hq⟩
          · have e2 : (r.k != 2) = true := by simpa using h2
            have HK : Hid (skC s r L = true) := hid (by unfold skC; simp [h2])
            clear h0 h2
            refine wp_region_quiet_below (by kernel_rfl) (by kernel_rfl) ?_
            repeat (go_big_quiet_step (fail))
            refine wpQuiet_nil ?_
            intro wq hq
            replace hq := below_of_regrown hq
            go_wp2_with fail
            go_meet
            exact ⟨_, rfl, by rw [HK.out], hq⟩
        · have e0 : (E != 0) = true := by simpa using h0
          have HK : Hid (skC s r L = true) := hid (by unfold skC; rw [HE.out]; simp [h0])
          clear h0
          refine wp_region_quiet_below (by kernel_rfl) (by kernel_rfl) ?_
          repeat (go_big_quiet_step (fail))
          refine wpQuiet_nil ?_
          intro wq hq
          replace hq := below_of_regrown hq
          go_wp2_with fail
          go_meet
          exact ⟨_, rfl, by rw [HK.out], hq⟩
      case rest =>
        obtain ⟨w4, rfl, rfl, hb4⟩ := hcut
        have HS4 := hid (HS3.out.later hb4)
        obtain ⟨K, hK⟩ : ∃ K, skC s r L = K := ⟨_, rfl⟩
        rw [hK]
        have HK := hid hK
        have hql : q < w3.heap.size := (Array.getElem?_eq_some_iff.1 HOQ3.out).1
        have hqtl : qt < w3.heap.size := (Array.getElem?_eq_some_iff.1 HOT.out).1
        have HOQ4 := hid ((hb4.block _ hql).trans HOQ3.out)
        have HOT4 := hid ((hb4.block _ hqtl).trans HOT.out)
        have HBQ4 := hid (HBQ3.out.later hb4)
        clear hb4 hK HS3 HOQ3 HOT HBQ3 g0 g1 g2 g3 g6 g7 g8 LS CE hql hqtl
        cases K
        · obtain ⟨h0, h2, hl', hc⟩ : r.err = 0 ∧ r.k = 2 ∧ L = true ∧ r.w < s.ceil := by
            have := HK.out
            unfold skC at this
            simp only [Bool.or_eq_false_iff, Bool.not_eq_false', decide_eq_true_eq, decide_eq_false_iff_not] at this
            exact ⟨this.1.1.1, this.1.1.2, this.1.2, by omega⟩
          have HR := hid (And.intro h0 (And.intro h2 (And.intro (HL.out.trans hl') hc)))
          clear h0 h2 hl' hc HK
          have u0 : w4.cell? ⟨qt, 0, none⟩ = some (.int .u64 s.lc.a) := Vs.cell_of_obj HOT4.out rfl
          have u1 : w4.cell? ⟨qt, 1, none⟩ = some (.int .u32 s.lc.b) := Vs.cell_of_obj HOT4.out rfl
          have u2 : w4.cell? ⟨qt, 2, none⟩ = some (.int .u32 s.lc.c) := Vs.cell_of_obj HOT4.out rfl
          obtain ⟨ma, mb, mc, hwm⟩ : ∃ a b c, s.wm = ⟨a, b, c⟩ := ⟨_, _, _, rfl⟩
          have WM : Hid (∀ W, Below w4.heap.size w4 W → Calls Tryz.prog 17 #[.pointer (some ⟨p, 0, none⟩)] W fun e w' => e = .returned (.agg #[.int .u64 ma, .int .u32 mb, .int .u32 mc]) ∧ Below W.heap.size W w') := hid fun W hb => (HS4.out.st.later hb).wmark hwm
          obtain ⟨mm, hmm⟩ : ∃ mm, maxSt zst [⟨s.lc.a, s.lc.b, s.lc.c⟩, ⟨ma, mb, mc⟩] = mm := ⟨_, rfl⟩
          have HMM := hid hmm
          have HMX : Hid (ofSt mm = mxS s.lc s.wm) := hid (by rw [← hmm, hwm]; rfl)
          clear hwm hmm
          go_upto_region 11 with fail
          go_cut [9] from 21 to 140 (fun s9 wz => ∃ (qs : Nat) (w6 : World), s9 = .pointer (some ⟨qs, 0, none⟩) ∧ w6 = wz ∧ Hid (w6.heap[qs]? = some (.cells #[.int .u64 mm.w, .int .u32 mm.l, .int .u32 mm.n] 28 (0, 0))) ∧ Below w4.heap.size w4 w6)
          case first =>
            go_region_held3 (fun w' => w'.cell? ⟨qt, 0, none⟩ = some (.int .u64 s.lc.a) ∧ w'.cell? ⟨qt, 1, none⟩ = some (.int .u32 s.lc.b) ∧ w'.cell? ⟨qt, 2, none⟩ = some (.int .u32 s.lc.c) ∧ Below w4.heap.size w4 w')
              ((refine (fun (hB : Below w4.heap.size w4 _) => ⟨cell_later hB u0, cell_later hB u1, cell_later hB u2, hB⟩) ?_; (repeat (first | with_reducible exact Below.refl _ _ | with_reducible assumption | with_reducible refine Below.drew ?_ | with_reducible refine Below.al ?_ _ | with_reducible refine Below.setCell ?_ (by first | exact Nat.le_refl _ | (simp; omega) | (simp; done)) _ | with_reducible refine Below.on ?_ (by assumption)))))
              (first
                | (go_at_call 17; refine (WM.out _ (by (repeat (first | with_reducible exact Below.refl _ _ | with_reducible assumption | with_reducible refine Below.drew ?_ | with_reducible refine Below.al ?_ _ | with_reducible refine Below.setCell ?_ (by first | exact Nat.le_refl _ | (simp; omega) | (simp; done)) _ | with_reducible refine Below.on ?_ (by assumption))))).mono ?_; rintro e wm ⟨rfl, hbm⟩; have hBm : Below w4.heap.size w4 wm := (by refine Below.on ?_ hbm; (repeat (first | with_reducible exact Below.refl _ _ | with_reducible assumption | with_reducible refine Below.drew ?_ | with_reducible refine Below.al ?_ _ | with_reducible refine Below.setCell ?_ (by first | exact Nat.le_refl _ | (simp; omega) | (simp; done)) _ | with_reducible refine Below.on ?_ (by assumption)))); (first | (have HK0 := hid (zero_alloc hbm)) | skip))
                | (go_at_call 16; refine (max2_any HMM.out _ (row2 ⟨s.lc.a, s.lc.b, s.lc.c⟩ ⟨ma, mb, mc⟩ (by simp [go_sem]) (by simp [go_sem]) (by simp [go_sem]) (by simp [go_sem]) (by simp [go_sem]) (by simp [go_sem]))).mono ?_; rintro e wn ⟨rfl, hbn⟩; have hBn : Below w4.heap.size w4 wn := (by refine Below.on ?_ hbn; (repeat (first | with_reducible exact Below.refl _ _ | with_reducible assumption | with_reducible refine Below.drew ?_ | with_reducible refine Below.al ?_ _ | with_reducible refine Below.setCell ?_ (by first | exact Nat.le_refl _ | (simp; omega) | (simp; done)) _ | with_reducible refine Below.on ?_ (by assumption)))); (first | (have hk3 := two_alloc hbn; have r0 : wn.cell? ⟨wm.heap.size + 1, 0, none⟩ = some (.int .u64 0) := Vs.cell_of_obj hk3 rfl; have r1 : wn.cell? ⟨wm.heap.size + 1, 1, none⟩ = some (.int .u32 0) := Vs.cell_of_obj hk3 rfl; have r2 : wn.cell? ⟨wm.heap.size + 1, 2, none⟩ = some (.int .u32 0) := Vs.cell_of_obj hk3 rfl; have rf : ∀ o, wn.frozen? ⟨wm.heap.size + 1, o, none⟩ = false := (fun o => by simp [World.frozen?, hk3]); have hsm : w4.heap.size ≤ wm.heap.size + 1 := (by have := hBm.size; omega); have HK3 := hid hk3; clear hk3) | (have hk3 := one_alloc hbn; have r0 : wn.cell? ⟨wm.heap.size, 0, none⟩ = some (.int .u64 0) := Vs.cell_of_obj hk3 rfl; have r1 : wn.cell? ⟨wm.heap.size, 1, none⟩ = some (.int .u32 0) := Vs.cell_of_obj hk3 rfl; have r2 : wn.cell? ⟨wm.heap.size, 2, none⟩ = some (.int .u32 0) := Vs.cell_of_obj hk3 rfl; have rf : ∀ o, wn.frozen? ⟨wm.heap.size, o, none⟩ = false := (fun o => by simp [World.frozen?, hk3]); have hsm : w4.heap.size ≤ wm.heap.size := (by have := hBm.size; omega); have HK3 := hid hk3; clear hk3) | (have hk3 := more_alloc HK0.out hbn; have r0 : wn.cell? ⟨w4.heap.size, 0, none⟩ = some (.int .u64 0) := Vs.cell_of_obj hk3 rfl; have r1 : wn.cell? ⟨w4.heap.size, 1, none⟩ = some (.int .u32 0) := Vs.cell_of_obj hk3 rfl; have r2 : wn.cell? ⟨w4.heap.size, 2, none⟩ = some (.int .u32 0) := Vs.cell_of_obj hk3 rfl; have rf : ∀ o, wn.frozen? ⟨w4.heap.size, o, none⟩ = false := (fun o => by simp [World.frozen?, hk3]); have hsm : w4.heap.size ≤ w4.heap.size := (by have := hBm.size; omega); have HK3 := hid hk3; clear hk3) | skip)))
            all_goals (try go_wp2_with fail)
            all_goals go_meet
            all_goals first
              | exact ⟨_, _, rfl, rfl, hid (World.alloc_heap_new wn _), Below.al hBn _⟩
              | exact ⟨_, _, rfl, rfl, hid (stamp_put HK3.out mm), Below.setCell (Below.setCell (Below.setCell hBn hsm _) hsm _) hsm _⟩
          case rest =>
            obtain ⟨qs, w6, rfl, rfl, HQS, hb6⟩ := hcut
            have HS6 := hid (HS4.out.later hb6)
            have hql : q < w4.heap.size := (Array.getElem?_eq_some_iff.1 HOQ4.out).1
            have HOQ6 := hid ((hb6.block _ hql).trans HOQ4.out)
            have HBQ6 := hid (HBQ4.out.later hb6)
            have c0 : w6.cell? ⟨qs, 0, none⟩ = some (.int .u64 mm.w) := Vs.cell_of_obj HQS.out rfl
            have c1 : w6.cell? ⟨qs, 1, none⟩ = some (.int .u32 mm.l) := Vs.cell_of_obj HQS.out rfl
            have c2 : w6.cell? ⟨qs, 2, none⟩ = some (.int .u32 mm.n) := Vs.cell_of_obj HQS.out rfl
            have b2 := HBQ6.out.c2; have b3 := HBQ6.out.c3; have b9 := HBQ6.out.c9; have b10 := HBQ6.out.c10
            have CK := hid (HS6.out.st.check (HS6.out.cnt HUL.out) (idR r) (ofSt mm) (rc := r.rc) (wc := r.wc) (HRA.out.ok.later HS6.out.bl).r (HRA.out.ok.later HS6.out.bl).w HRA.out.ok.rl HRA.out.ok.wl)
            have HCE : Hid (∃ R, Hist s (U.map Cv.c) R ∧ (ofSt mm).lt s.lc = false ∧ (ofSt mm).lt s.wm = false ∧ (ofSt mm).a ≠ 18446744073709551615) := hid (by
              obtain ⟨R, H⟩ := HS6.out.hist
              refine ⟨R, H, ?_⟩
              rw [HMX.out, mxS_is H.lcok.1]
              split
              · rename_i hlt'
                exact ⟨Vs.Sp.lt_asymm hlt', Vs.Sp.irr _, by have := H.wmu; omega⟩
              · rename_i hlt'
                exact ⟨Vs.Sp.irr _, by simpa using hlt', by have := H.lcok.2; omega⟩)
            have HOU := hid HS6.out.st.good
            obtain ⟨D, hD⟩ : ∃ D, (Lg.outM s.E (idR r)).isSome = D := ⟨_, rfl⟩
            obtain ⟨Hb, hHb⟩ : ∃ Hb, Lk.hasB s.H (idR r) = Hb := ⟨_, rfl⟩
            obtain ⟨Cf, hCf⟩ : ∃ Cf, Lk.confl s.H (idR r) r.rs r.ws = Cf := ⟨_, rfl⟩
            obtain ⟨ck, hck⟩ : ∃ ck, chk s (idR r) (ofSt mm) r.rs r.ws = ck := ⟨_, rfl⟩
            have HC1 : Hid (ck = if D then 110 else if Hb then 101 else if Cf then 100 else 0) := hid (by
              obtain ⟨R, H, h1, h2, h3⟩ := HCE.out
              rw [← hck, H.check HOU.out (idR r) r.rs r.ws h1 h2 h3, hD, hHb, hCf])
            have HC2 : Hid (apE s r = if D then 130 else if Hb then 130 else if Cf then 130 else 0) := hid (by
              obtain ⟨R, H, _⟩ := HCE.out
              rw [(ap_2 HR.out.1 HR.out.2.1).1, H.prep HOU.out HRA.out.rg HR.out.2.2.1 HR.out.2.2.2, hD, hHb, hCf])
            rw [hck] at CK
            clear hD hHb hCf hck HCE HMM u0 u1 u2 HS4 HOQ4 HBQ4 HOT4 WM hb6 hql
            go_wp2_with fail
            refine CK.out.mono ?_
            rintro e w7 ⟨rfl, hb7⟩
            have HS7 := hid (HS6.out.later hb7)
            have hql : q < w6.heap.size := (Array.getElem?_eq_some_iff.1 HOQ6.out).1
            have hqsl : qs < w6.heap.size := (Array.getElem?_eq_some_iff.1 HQS.out).1
            have HOQ7 := hid ((hb7.block _ hql).trans HOQ6.out)
            have HQS7 := hid ((hb7.block _ hqsl).trans HQS.out)
            have bq := HBQ6.out.later hb7
            have d0 := bq.c0; have d1 := bq.c1; have d2 := bq.c2; have d3 := bq.c3; have d4 := bq.c4; have d5 := bq.c5; have d6 := bq.c6; have d7 := bq.c7; have d8 := bq.c8; have d9 := bq.c9; have d10 := bq.c10; have d11 := bq.c11
            clear CK hb7 hql hqsl HS6 HOQ6 HQS HBQ6 bq c0 c1 c2 b2 b3 b9 b10
            go_wp2_with fail
            refine (copied_is (HRA.out.ok.later HS7.out.bl) HRA.out.rl HRA.out.wl).mono ?_
            rintro e w8 ⟨g1, g2, rfl, hr1, hr2, hne⟩
            have hb8 : Below w7.heap.size w7 w8 := hr1.bl
            have HS8 := hid (HS7.out.later hb8)
            have hql : q < w7.heap.size := (Array.getElem?_eq_some_iff.1 HOQ7.out).1
            have hqsl : qs < w7.heap.size := (Array.getElem?_eq_some_iff.1 HQS7.out).1
            have HOQ8 := hid ((hb8.block _ hql).trans HOQ7.out)
            have HQS8 := hid ((hb8.block _ hqsl).trans HQS7.out)
            have OK8 := own_ok ((HRA.out.ok.later HS7.out.bl).later hb8) hr1 hr2
            have AP := hid (HS8.out.st.applyOwn HS8.out.hB.2 OK8 HRA.out.rg (by have := HR.out.2.1; omega) (HS8.out.cnt HUL.out) (fun _ => HS8.out.jb))
            obtain ⟨E2, hE2⟩ : ∃ E2, apE s r = E2 := ⟨_, rfl⟩
            rw [hE2] at AP HC2
            have HE2 := hid hE2
            clear hr1 hr2 hne hb8 OK8 hE2 hql hqsl d0 d1 d2 d3 d4 d5 d6 d7 d8 d9 d10 d11 HOQ7 HQS7
            go_wp2_with fail
            refine AP.out.mono ?_
            rintro e w9 ⟨rfl, HA9⟩
            have HS9 := hid (HS8.out.step HRA.out.rg HR.out.1 HR.out.2.1 HA9.out.1 HA9.out.2)
            have obq : w9.heap[q]? = some (.cells r.cells 48 (0, 0)) := (HA9.out.2.block HOQ8.out (by decide) (by decide)).trans HOQ8.out
            have obs : w9.heap[qs]? = some (.cells #[.int .u64 mm.w, .int .u32 mm.l, .int .u32 mm.n] 28 (0, 0)) := (HA9.out.2.block HQS8.out (by decide) (by decide)).trans HQS8.out
            have d2 : w9.cell? ⟨q, 2, none⟩ = some (.int .u32 r.c) := Vs.cell_of_obj obq rfl
            have d3 : w9.cell? ⟨q, 3, none⟩ = some (.int .u32 r.s) := Vs.cell_of_obj obq rfl
            have HGT := hid (HS9.out.st.get (idR r))
            have HOQ9 := hid obq
            have HOS9 := hid obs
            clear AP HA9 obq obs HS8 HOQ8 HQS8 HS7
            cases D
            · cases Hb
              · cases Cf
                · obtain rfl : ck = 0 := HC1.out
                  obtain rfl : E2 = 0 := HC2.out
                  obtain ⟨PG1, PG2, PG3⟩ := prep_get (s := s) (r := r) (by rw [← (ap_2 HR.out.1 HR.out.2.1).1]; exact HE2.out)
                  rw [← (ap_2 HR.out.1 HR.out.2.1).2] at PG1 PG2 PG3
                  have HPG := hid (And.intro PG1 (And.intro PG2 PG3))
                  clear PG1 PG2 PG3
                  go_wp2_with fail
                  refine HGT.out.mono ?_
                  rintro e w10 ⟨u, ok, rfl, HG, hb10⟩
                  have hok : ok = true := by
                    cases ok with
                    | true => rfl
                    | false => have := HG.out.2 rfl; rw [HPG.out.1] at this; cases this
                  subst hok
                  have hu : u.h = ⟨(r.c, r.s), r.h, r.w, r.l, r.n, r.rs, r.ws⟩ := by
                    have := HG.out.1 rfl
                    rw [HPG.out.1] at this
                    injection this with this
                    exact this.symm
                  obtain ⟨uh, ura, urc, uwa, uwc⟩ := u
                  simp only at hu
                  subst hu
                  have HS10 := hid (HS9.out.later hb10)
                  have hql : q < w9.heap.size := (Array.getElem?_eq_some_iff.1 HOQ9.out).1
                  have hqsl : qs < w9.heap.size := (Array.getElem?_eq_some_iff.1 HOS9.out).1
                  have HOQ10 := hid ((hb10.block _ hql).trans HOQ9.out)
                  have HOS10 := hid ((hb10.block _ hqsl).trans HOS9.out)
                  clear hb10 HGT HG hql hqsl HOQ9 HOS9 d2 d3 HS9
                  go_upto_region 19 with fail
                  obtain ⟨w11, hw11⟩ : ∃ w11, w11 = w10.alloc (.cells #[.int .u32 r.c, .int .u32 r.s, .int .u32 r.h, .int .u64 r.w, .int .u32 r.l, .int .u32 r.n, .slice ura r.rs.length urc, .slice uwa r.ws.length uwc] 62) := ⟨_, rfl⟩
                  rw [← hw11]
                  have hb11 : Below w10.heap.size w10 w11 := by rw [hw11]; exact Below.al (Below.refl _ _) _
                  have obh : w11.heap[w10.heap.size]? = some (.cells #[.int .u32 r.c, .int .u32 r.s, .int .u32 r.h, .int .u64 r.w, .int .u32 r.l, .int .u32 r.n, .slice ura r.rs.length urc, .slice uwa r.ws.length uwc] 62 (0, 0)) := by rw [hw11]; exact World.alloc_heap_new _ _
                  have HS11 := hid (HS10.out.later hb11)
                  have hql : q < w10.heap.size := (Array.getElem?_eq_some_iff.1 HOQ10.out).1
                  have hqsl : qs < w10.heap.size := (Array.getElem?_eq_some_iff.1 HOS10.out).1
                  have obq := (hb11.block _ hql).trans HOQ10.out
                  have obs := (hb11.block _ hqsl).trans HOS10.out
                  have f3 : w11.cell? ⟨w10.heap.size, 3, none⟩ = some (.int .u64 r.w) := Vs.cell_of_obj obh rfl
                  have f4 : w11.cell? ⟨w10.heap.size, 4, none⟩ = some (.int .u32 r.l) := Vs.cell_of_obj obh rfl
                  have f5 : w11.cell? ⟨w10.heap.size, 5, none⟩ = some (.int .u32 r.n) := Vs.cell_of_obj obh rfl
                  have d2 : w11.cell? ⟨q, 2, none⟩ = some (.int .u32 r.c) := Vs.cell_of_obj obq rfl
                  have d3 : w11.cell? ⟨q, 3, none⟩ = some (.int .u32 r.s) := Vs.cell_of_obj obq rfl
                  have d6 : w11.cell? ⟨q, 6, none⟩ = some (.int .u64 r.w) := Vs.cell_of_obj obq rfl
                  have d7 : w11.cell? ⟨q, 7, none⟩ = some (.int .u32 r.l) := Vs.cell_of_obj obq rfl
                  have d8 : w11.cell? ⟨q, 8, none⟩ = some (.int .u32 r.n) := Vs.cell_of_obj obq rfl
                  have d9 : w11.cell? ⟨q, 9, none⟩ = some (.slice r.ra r.rs.length r.rc) := Vs.cell_of_obj obq rfl
                  have d10 : w11.cell? ⟨q, 10, none⟩ = some (.slice r.wa r.ws.length r.wc) := Vs.cell_of_obj obq rfl
                  have c0 : w11.cell? ⟨qs, 0, none⟩ = some (.int .u64 mm.w) := Vs.cell_of_obj obs rfl
                  have c1 : w11.cell? ⟨qs, 1, none⟩ = some (.int .u32 mm.l) := Vs.cell_of_obj obs rfl
                  have c2 : w11.cell? ⟨qs, 2, none⟩ = some (.int .u32 mm.n) := Vs.cell_of_obj obs rfl
                  have hrn := Vs.run_neSt (at' r)
                  have CK2 := hid (HS11.out.st.check (HS11.out.cnt HUL.out) (idR r) (ofSt mm) (rc := r.rc) (wc := r.wc) (HRA.out.ok.later HS11.out.bl).r (HRA.out.ok.later HS11.out.bl).w HRA.out.ok.rl HRA.out.ok.wl)
                  rw [show chk (apS s r) (idR r) (ofSt mm) r.rs r.ws = 101 by unfold chk; rw [HPG.out.2.2, HPG.out.2.1]; rfl] at CK2
                  clear hw11 hb11 obh obq obs hql hqsl HS10 HOQ10 HOS10
                  go_wp2_with fail
                  refine CK2.out.mono ?_
                  rintro e w12 ⟨rfl, hb12⟩
                  have HS12 := hid (HS11.out.later hb12)
                  clear hb12 CK2 f3 f4 f5 d2 d3 d6 d7 d8 d9 d10 c0 c1 c2 hrn
                  go_wp2_with fail
                  go_roundg (M - (k + 1))
                  case measure => omega
                  case rel => exact ⟨k + 1, _, by omega, rfl, by go_num, HS12⟩
                · obtain rfl : ck = 100 := HC1.out
                  obtain rfl : E2 = 130 := HC2.out
                  go_wp2_with fail
                  refine HGT.out.mono ?_
                  rintro e w10 ⟨u, ok, rfl, HG, hb10⟩
                  have HS10 := hid (HS9.out.later hb10)
                  clear hb10 HGT
                  go_wp2_with fail
                  go_roundg (M - (k + 1))
                  case measure => omega
                  case rel => exact ⟨k + 1, _, by omega, rfl, by go_num, hid (HS10.out.later (Below.al (Below.refl _ _) _))⟩
              · obtain rfl : ck = 101 := HC1.out
                obtain rfl : E2 = 130 := HC2.out
                go_wp2_with fail
                refine HGT.out.mono ?_
                rintro e w10 ⟨u, ok, rfl, HG, hb10⟩
                have HS10 := hid (HS9.out.later hb10)
                clear hb10 HGT
                go_wp2_with fail
                go_roundg (M - (k + 1))
                case measure => omega
                case rel => exact ⟨k + 1, _, by omega, rfl, by go_num, hid (HS10.out.later (Below.al (Below.refl _ _) _))⟩
            · obtain rfl : ck = 110 := HC1.out
              obtain rfl : E2 = 130 := HC2.out
              go_wp2_with fail
              refine HGT.out.mono ?_
              rintro e w10 ⟨u, ok, rfl, HG, hb10⟩
              have HS10 := hid (HS9.out.later hb10)
              clear hb10 HGT
              go_wp2_with fail
              go_roundg (M - (k + 1))
              case measure => omega
              case rel => exact ⟨k + 1, _, by omega, rfl, by go_num, hid (HS10.out.later (Below.al (Below.refl _ _) _))⟩
        · go_wp2_with fail
          go_roundg (M - (k + 1))
          case measure => omega
          case rel => exact ⟨k + 1, s, by omega, rfl, by go_num, HS4⟩
    · obtain rfl : M = k := by omega
      have HBF := hid (Below.on HBX.out hbr)
      go_wp2_with fail
      go_ret
      exact ⟨rfl, HBF.out⟩
end Go.Proofs.YtfdbffadajepfaaGreat.Ys
namespace Go.Proofs.YtfdbffadajepfaaGreat
open Go.ChangeShapes Go.WideShapes Go.ChangeAt Go.RowKit Go.Deep Ys
set_option maxRecDepth 100000 in
theorem opened_stateChecks {H : Type} {enc : TypeId × Value → H} {W : World} {r : Reach} {b : Nat} {v : Value} {d : DataW H} {p : List MemPlace}
    (hv : Value.okWide Tryz.prog W r b 30 v) (h : DataW.Trod enc Tryz.prog W 0 (fun _ => true) true 30 v d p) (hk : Rows.uptoBulk d ≤ 1048576) :
    Calls Tryz.prog 5 #[v] W fun e w' => e = .returned (.bool true) ∧ Below W.heap.size W w' := by
  obtain ⟨x, rfl, h1, h2, h3, h4, _⟩ := open_past hv h hk
  exact law_checks h1 h2 h3 h4
end Go.Proofs.YtfdbffadajepfaaGreat
