import Derived.Test.YtfdbffadajepfaaGreatB38
import Derived.Test.YtfdbffadajepfaaGreatRows
import Derived.Test.YtfdbffadajepfaaGreatChecked
import Derived.OpenShut
import Derived.Deep.Slices
import Derived.Deep.DeepHandedRow
import Derived.ProofKit
import Derived.SizedLaws
/- history. -/
namespace Go.Proofs.YtfdbffadajepfaaGreat.Ys
open Go.RowKit Go.Sort
set_option linter.unusedVariables false

theorem run_eqT (c s d t : Int) (w : World) : (binOp .eql 43 (.agg #[.int .u32 c, .int .u32 s]) (.agg #[.int .u32 d, .int .u32 t])).run Tryz.prog w = .ok (.bool (sameT c s d t)) w := by
  by_cases h1 : c = d <;> by_cases h2 : s = t <;> simp [sameT, h1, h2, go_sem, Tryz.underlying43]
theorem own_new {B : Nat} {w : World} (hB : B ≤ w.heap.size) (v : Cv) : OwnC B (w.alloc (.cells #[.int .u64 v.c.t.a, .int .u32 v.c.t.b, .int .u32 v.c.t.c, .slice v.wa v.c.ws.length v.wc] 56)) (.slice (some ⟨w.heap.size, 0, none⟩) 1 1) 1 [v] :=
  ⟨rfl, .inr ⟨w.heap.size, 1, _, rfl, hB, World.alloc_heap_new _ _, Nat.le_refl _, by decide, rfl, rfl⟩⟩
/-- what history answers: a state, its commits -/
def HisO (w w' : World) (p : Nat) (a : Option Addr) (n c : Nat) : Prop := ∃ (B : Nat) (s : Ps) (U : List Cv) (R : List Rg), w.heap.size ≤ B ∧ B ≤ w'.heap.size ∧ Sta B w' p s ∧ OwnC B w' (.slice a n c) n U ∧ U.length = n ∧ (∀ v ∈ U, Wok B w' v) ∧ Hist s (U.map Cv.c) R ∧ n ≤ 1048577 ∧ R.length ≤ 1048576

set_option maxRecDepth 16000 in
set_option maxHeartbeats 4000000 in
theorem history_is {w : World} {x : Pa} (hL : RowG w x.la x.ls) (hl : x.ls.length ≤ 1048576) :
    Calls Tryz.prog 6 #[x.val] w fun e w' => ∃ (p : Nat) (a : Option Addr) (n c : Nat), e = .returned (.tuple #[sp p, .slice a n c]) ∧ Hid (HisO w w' p a n c) ∧ Below w.heap.size w w' := by
  obtain ⟨i0, hi, hz0, hz1, hz2⟩ := Go.Proofs.YtfdbffadajepfaaGreat.info_of infoR
  obtain ⟨wx, hwx⟩ : ∃ wx, wx = w.alloc (.cells x.cells 30) := ⟨_, rfl⟩
  have hbx : Below w.heap.size w wx := by rw [hwx]; exact Below.al (Below.refl _ _) _
  have BP : BoxP wx w.heap.size x := by rw [hwx]; exact boxP w x _
  have x0 := BP.c0
  have HL := hid (hL.later hbx)
  have BG := hid (begun_is wx x.node)
  have HDs := hid Head_is
  have HBX := hid hbx
  have X1 := hid BP.c1
  obtain ⟨N, hN⟩ : ∃ N, x.ls.length = N := ⟨_, rfl⟩
  rw [hN] at X1 hl
  have HN := hid hN
  have hqx : w.heap.size < wx.heap.size := by rw [hwx]; simp
  clear hL hbx BP
  go_enter Tryz.func6, Tryz.ntmps6
  go_wp2_with fail
  rw [← hwx]
  clear hwx hN
  refine BG.out.mono ?_
  rintro e w1 ⟨p, rfl, HT1, hb1⟩
  have HB1 := hid hb1
  clear BG hb1 x0
  go_wp2_with fail
  refine (HDs.out _).mono ?_
  rintro e w2 ⟨g, h, rfl, HA, hb2⟩
  have HT2 := hid (HT1.out.later hb2)
  have HB2 := hid (Below.on HB1.out hb2)
  have e30 : w2.cell? ⟨g, 30, none⟩ = some (.int .u64 2) := (HA.out.1.box 2 (by decide)).c6
  have e31 : w2.cell? ⟨g, 31, none⟩ = some (.int .u32 0) := (HA.out.1.box 2 (by decide)).c7
  have e32 : w2.cell? ⟨g, 32, none⟩ = some (.int .u32 0) := (HA.out.1.box 2 (by decide)).c8
  have e22 : w2.cell? ⟨g, 22, none⟩ = some (.slice (some ⟨h, 0, none⟩) 1 1) := (HA.out.1.box 1 (by decide)).c10
  have hs2 : wx.heap.size ≤ w2.heap.size := HB2.out.size
  clear HDs HT1 HB1 hb2
  go_wp2_with fail
  go_cut [6] (fun s6 wz => ∃ (g3 : Nat) (w3 : World), s6 = .slice (some ⟨g3, 0, none⟩) 1 1 ∧ w3 = wz ∧ Hid (OwnC wx.heap.size w3 (.slice (some ⟨g3, 0, none⟩) 1 1) 1 [⟨⟨⟨2, 0, 0⟩, [kv]⟩, some ⟨h, 0, none⟩, 1⟩]) ∧ Below w2.heap.size w2 w3)
  case first =>
    go_region_held3 (fun w' => w'.cell? ⟨g, 30, none⟩ = some (.int .u64 2) ∧ w'.cell? ⟨g, 31, none⟩ = some (.int .u32 0) ∧ w'.cell? ⟨g, 32, none⟩ = some (.int .u32 0) ∧ w'.cell? ⟨g, 22, none⟩ = some (.slice (some ⟨h, 0, none⟩) 1 1) ∧ Below w2.heap.size w2 w')
      ((refine (fun (hB : Below w2.heap.size w2 _) => ⟨cell_later hB e30, cell_later hB e31, cell_later hB e32, cell_later hB e22, hB⟩) ?_; (repeat (first | with_reducible exact Below.refl _ _ | with_reducible assumption | with_reducible refine Below.drew ?_ | with_reducible refine Below.al ?_ _ | with_reducible refine Below.setCell ?_ (by first | exact Nat.le_refl _ | (simp; omega) | (simp; done)) _ | with_reducible refine Below.on ?_ (by assumption)))))
      (fail)
    all_goals (try go_wp2_with fail)
    all_goals go_meet
    all_goals exact ⟨_, _, rfl, rfl, hid (own_new (v := ⟨⟨⟨2, 0, 0⟩, [kv]⟩, some ⟨h, 0, none⟩, 1⟩) hs2), by (repeat (first | with_reducible exact Below.refl _ _ | with_reducible assumption | with_reducible refine Below.drew ?_ | with_reducible refine Below.al ?_ _ | with_reducible refine Below.setCell ?_ (by first | exact Nat.le_refl _ | (simp; omega) | (simp; done)) _ | with_reducible refine Below.on ?_ (by assumption)))⟩
  case rest =>
    obtain ⟨g3, w3, rfl, rfl, HC, hb3⟩ := hcut
    have HM0 : Hid (Mid wx w3 p (hdS x.node 3) [⟨⟨⟨2, 0, 0⟩, [kv]⟩, some ⟨h, 0, none⟩, 1⟩] [] (some ⟨g3, 0, none⟩) 1 1 none 0 0 0) := hid ⟨HT2.out.later hb3, HC.out, rfl, fun v hv => by
      rw [List.mem_singleton] at hv
      subst hv
      have hA := HA.out.1.later hb3
      exact ⟨hA.row, fun _ b off e => by
        injection e with e
        injection e with e1 _
        subst e1
        exact .inr ⟨_, hA.typ⟩⟩, ⟨rfl, .inl ⟨rfl, rfl⟩⟩, rfl, fun r hr => (by cases hr), hist_hd x.node, Below.on HB2.out hb3, by omega, by omega⟩
    clear e30 e31 e32 e22 HA HT2 HB2 HC hb3 hs2
    go_wp2_with fail
    go_loopg [6, 7, 8] N (fun gg s6 s7 s8 wr => ∃ (k : Nat) (s : Ps) (U : List Cv) (R : List Rg) (a : Option Addr) (n c : Nat) (ra : Option Addr) (rn rc : Nat), k ≤ N ∧ gg = N - k ∧ s8 = .int .i64 k ∧ s6 = .slice a n c ∧ s7 = .slice ra rn rc ∧ Hid (Mid wx wr p s U R a n c ra rn rc k))
    case atStart => exact ⟨0, _, _, _, _, 1, 1, none, 0, 0, by omega, by omega, rfl, rfl, rfl, HM0⟩
    case round =>
      obtain ⟨k, s, U, R, a, n, c, ra, rn, rc, hk, rfl, rfl, rfl, rfl, HM⟩ := hrel
      clear HM0
      have x1 := cell_later HM.out.bl X1.out
      by_cases hlt : k < N
      · obtain ⟨r, hr⟩ : ∃ r, x.ls[k]? = some r := ⟨x.ls[k]'(by rw [HN.out]; exact hlt), by simp⟩
        obtain ⟨⟨rb, ro, hla, BX⟩, RA⟩ := HL.out k r hr
        rw [hla] at x1
        have bx := BX.later HM.out.bl
        have b0 := bx.c0; have b1 := bx.c1; have b2 := bx.c2; have b3 := bx.c3; have b4 := bx.c4; have b5 := bx.c5; have b6 := bx.c6; have b7 := bx.c7; have b8 := bx.c8; have b9 := bx.c9; have b10 := bx.c10; have b11 := bx.c11
        have HRA := hid RA
        obtain ⟨wa, hwa⟩ : ∃ wa, wa = wr.alloc (.cells r.cells 48) := ⟨_, rfl⟩
        have hba : Below wr.heap.size wr wa := by rw [hwa]; exact Below.al (Below.refl _ _) _
        have BQ : BoxG wa wr.heap.size r := by rw [hwa]; exact boxG wr r _
        have obq : wa.heap[wr.heap.size]? = some (.cells r.cells 48 (0, 0)) := by rw [hwa]; exact World.alloc_heap_new _ _
        obtain ⟨q, hq⟩ : ∃ q, q = wr.heap.size := ⟨_, rfl⟩
        rw [← hq] at BQ obq
        have HQ := hid hq
        have HMA := hid (HM.out.later hba)
        have HBQ := hid BQ
        have HOQ := hid obq
        have q0 := BQ.c0
        clear BX RA hla hr bx hba BQ obq hq
        by_cases h5 : r.k = 5
        · have h5' : (r.k == 5) = true := by simpa using h5
          clear h5
          go_wp2_with fail
          rw [← hwa]
          go_roundg (N - (k + 1))
          case measure => omega
          case rel => exact ⟨k + 1, s, U, R, a, n, c, ra, rn, rc, by omega, rfl, by go_num, rfl, rfl, hid HMA.out.succ⟩
        · have h5' : (r.k == 5) = false := by simpa using h5
          have H5 := hid h5
          clear h5
          go_wp2_with fail
          rw [← hwa, ← HQ.out]
          clear hwa b0 b1 b2 b3 b4 b5 b6 b7 b8 b9 b10 b11 x1 q0
          refine (copied_is (HRA.out.ok.later HMA.out.bl) HRA.out.rl HRA.out.wl).mono ?_
          rintro e w4 ⟨g1, g2, rfl, hr1, hr2, hne⟩
          have hb4 : Below wa.heap.size wa w4 := hr1.bl
          have hqa : q < wa.heap.size := (Array.getElem?_eq_some_iff.1 HOQ.out).1
          have HM4 := hid (HMA.out.later hb4)
          have HOQ4 : Hid (w4.heap[q]? = some (.cells r.cells 48 (0, 0))) := hid ((hb4.block q hqa).trans HOQ.out)
          have OK4 := own_ok ((HRA.out.ok.later HMA.out.bl).later hb4) hr1 hr2
          have hcl : (U.map Cv.c).length ≤ 4194304 := by
            have h1 := HMA.out.cn
            have h2 := HMA.out.nk
            rw [List.length_map]; omega
          have AP := hid (HM4.out.st.applyOwn HM4.out.bl.size OK4 HRA.out.rg H5.out (HM4.out.hist.cnt28 hcl) (fun _ => HM4.out.hist.jb))
          have HST : Hid (apE s r = 0 → (r.k = 3 ∧ r.oc = 1 → ∃ h, h ∈ s.H ∧ h.id = idR r ∧ Hist (apS s r) (laidC (U.map Cv.c) ⟨at' r, h.ws⟩) R) ∧ (¬ (r.k = 3 ∧ r.oc = 1) → Hist (apS s r) (U.map Cv.c) (nxR R r))) := hid fun he => by
            obtain ⟨I, hI⟩ := HM4.out.st.okI
            exact HM4.out.hist.step HM4.out.st.good hI HRA.out.rg H5.out he
          have HNO : Hid (apE s r ≠ 0 → apS s r = s) := hid fun he => ap_no he
          obtain ⟨E, hE⟩ : ∃ E, apE s r = E := ⟨_, rfl⟩
          rw [hE] at AP HST HNO
          obtain ⟨s', hs'⟩ : ∃ s', apS s r = s' := ⟨_, rfl⟩
          rw [hs'] at AP HST HNO
          clear hr1 hr2 hne hb4 OK4 hcl hE hs' HOQ HBQ
          go_wp2_with fail
          refine AP.out.mono ?_
          rintro e w5 ⟨rfl, HP⟩
          have M5 := hid (HM4.out.chg HP.out.1 HP.out.2)
          have obq : w5.heap[q]? = some (.cells r.cells 48 (0, 0)) := (HP.out.2.block HOQ4.out (by decide) (by decide)).trans HOQ4.out
          have q0 : w5.cell? ⟨q, 0, none⟩ = some (.int .i64 r.k) := Vs.cell_of_obj obq rfl
          have q1 : w5.cell? ⟨q, 1, none⟩ = some (.int .u64 r.x) := Vs.cell_of_obj obq rfl
          have q2 : w5.cell? ⟨q, 2, none⟩ = some (.int .u32 r.c) := Vs.cell_of_obj obq rfl
          have q3 : w5.cell? ⟨q, 3, none⟩ = some (.int .u32 r.s) := Vs.cell_of_obj obq rfl
          have q4 : w5.cell? ⟨q, 4, none⟩ = some (.int .u32 r.h) := Vs.cell_of_obj obq rfl
          have q5 : w5.cell? ⟨q, 5, none⟩ = some (.int .i64 r.oc) := Vs.cell_of_obj obq rfl
          have q6 : w5.cell? ⟨q, 6, none⟩ = some (.int .u64 r.w) := Vs.cell_of_obj obq rfl
          have q7 : w5.cell? ⟨q, 7, none⟩ = some (.int .u32 r.l) := Vs.cell_of_obj obq rfl
          have q8 : w5.cell? ⟨q, 8, none⟩ = some (.int .u32 r.n) := Vs.cell_of_obj obq rfl
          have q9 : w5.cell? ⟨q, 9, none⟩ = some (.slice r.ra r.rs.length r.rc) := Vs.cell_of_obj obq rfl
          have q10 : w5.cell? ⟨q, 10, none⟩ = some (.slice r.wa r.ws.length r.wc) := Vs.cell_of_obj obq rfl
          have q11 : w5.cell? ⟨q, 11, none⟩ = some (.string r.im) := Vs.cell_of_obj obq rfl
          have HQR : Hid (∀ b, (Value.slice ra rn rc).ownBlock = some b → b ≠ q) := hid fun b hb e => by
            have h1 := (HM.out.rs.lt b hb).2
            have h2 := HQ.out
            omega
          clear AP HP obq
          by_cases h0 : E = 0
          · have h0' : (E != 0) = false := by simpa using h0
            have HS := hid (HST.out h0)
            clear h0 HST HNO
            by_cases h2 : r.k = 2
            · have h2' : (r.k == 2) = true := by simpa using h2
              have h3' : (r.k == 3) = false := by simp [h2]
              have HR : Hid (Hist s' (U.map Cv.c) (R ++ [r])) := hid (by
                have := HS.out.2 (fun h => by have := h.1; omega)
                rw [show nxR R r = R ++ [r] by simp [nxR, h2]] at this
                exact this)
              clear h2 HS
              obtain ⟨w6, hw6⟩ : ∃ w6, w6 = w5.alloc (.cells #[.int .i64 r.k, .int .u64 r.x, .int .u32 r.c, .int .u32 r.s, .int .u32 r.h, .int .i64 r.oc, .int .u64 r.w, .int .u32 r.l, .int .u32 r.n, .slice r.ra r.rs.length r.rc, .slice r.wa r.ws.length r.wc, .string r.im] 48) := ⟨_, rfl⟩
              have hb6 : Below w5.heap.size w5 w6 := by rw [hw6]; exact Below.al (Below.refl _ _) _
              have blk6 : w6.heap[w5.heap.size]? = some (.cells (rcs r).toArray 48 (0, 0)) := by rw [hw6]; exact World.alloc_heap_new _ _
              have HCL : Hid (∀ j y, (rcs r)[j]? = some y → w6.cell? ((⟨w5.heap.size, 0, none⟩ : Addr).add j) = some y) := hid fun j y hj => by
                rw [Addr.add_lit, Nat.zero_add]
                exact Vs.cell_of_obj blk6 (by simpa using hj)
              have M6 := hid (M5.out.later hb6)
              have HO6 : Hid (w6.ownsRow wx.heap.size 48 12 (.slice ra rn rc) rn (R.flatMap rcs)) := hid M6.out.rs
              have hmb : rn + 1 ≤ 1048577 := by have := M6.out.rl; omega
              have hs6 : wx.heap.size ≤ w6.heap.size := M6.out.bl.size
              have p0 : w6.cell? ⟨q, 0, none⟩ = some (.int .i64 r.k) := cell_later hb6 q0
              have HP0 := hid p0
              clear hb6 blk6 M5 p0
              go_wp2_with (at_builtin; refine wpList_append_own _ rfl _ _ 23 rfl wx.heap.size 48 i0 Rg.zero.val 12 120 Tryz.underlying23 hi hz0 hz1 hz2 rfl (by decide) (.slice ra rn rc) rn (R.flatMap rcs) rfl (by rw [← hw6]; exact HO6.out) ⟨w5.heap.size, 0, none⟩ 1 1 (rcs r) rfl rfl (by rw [← hw6]; exact HCL.out) (rcs_one r) (by unfold maxLen; omega) (by omega) (by rw [← hw6]; exact hs6) ?_)
              intro v2 w7 hown hgrow hnil
              rw [← hw6] at hgrow
              obtain ⟨ra', rc', rfl⟩ := owns_slice hown
              have HM7 : Hid (Mid wx w7 p s' U (R ++ [r]) a n c ra' (rn + 1) rc' (k + 1)) := hid (M6.out.ready HRA.out.ok (by unfold OwnR; rw [List.flatMap_append]; simpa using hown) hgrow HR.out)
              have z0 : w7.cell? ⟨q, 0, none⟩ = some (.int .i64 r.k) := (grown_onl hgrow).cell (fun hb => HQR.out q hb rfl) HP0.out
              clear hown hgrow hnil HO6 HCL hw6 hs6 M6 HR q0 q1 q2 q3 q4 q5 q6 q7 q8 q9 q10 q11
              go_wp2_with fail
              go_roundg (N - (k + 1))
              case measure => omega
              case rel => exact ⟨k + 1, s', U, R ++ [r], a, n, c, ra', rn + 1, rc', by omega, rfl, by go_num, rfl, rfl, HM7⟩
            · have h2' : (r.k == 2) = false := by simpa using h2
              have HN2 : Hid (nxR R r = R) := hid (by simp [nxR, h2])
              clear h2
              by_cases h3 : r.k = 3
              · have h3' : (r.k == 3) = true := by simpa using h3
                by_cases ho : r.oc = 1
                · have ho' : (r.oc == 1) = true := by simpa using ho
                  obtain ⟨hd, hdm, hdi, HH⟩ := HS.out.1 ⟨h3, ho⟩
                  obtain ⟨jj, y, hjy, ey1, ey2, ey3⟩ := HM4.out.hist.rdy hd hdm
                  have hjl : jj < rn := by rw [← HM4.out.rnl]; exact (List.getElem?_eq_some_iff.1 hjy).1
                  have HLX : Hid (lix R (idR r) rn = (jj : Int)) := hid (lix_last hjy (ey1.trans hdi) rn hjl (by rw [HM4.out.rnl]; exact Nat.le_refl _) (fun l q' hl hq' e => ey3 l q' hl hq' (e.trans hdi.symm)))
                  have HY := hid hjy
                  have HYO := hid (HM4.out.rk y (List.mem_of_getElem? hjy))
                  have HHI : Hid (Hist s' (laidC (U.map Cv.c) ⟨at' r, y.ws⟩) R) := hid (by rw [ey2]; exact HH)
                  have HORD := hid HM4.out.hist.ord
                  have hrn : rn ≤ 1048576 := by have := M5.out.rl; omega
                  clear hdm hdi HH hjy ey1 ey2 ey3 h3 ho HS HN2
                  go_wp2_with fail
                  go_loopg [11, 12] rn (fun g2 s11 s12 wy => ∃ j : Nat, j ≤ rn ∧ g2 = rn - j ∧ s12 = .int .i64 j ∧ s11 = .int .i64 (lix R (idR r) j) ∧ Hid (Below w5.heap.size w5 wy))
                  case atStart => exact ⟨0, by omega, by omega, rfl, rfl, hid (Below.refl _ _)⟩
                  case round =>
                    obtain ⟨j, hj, rfl, rfl, rfl, HW⟩ := hrel
                    by_cases hjr : j < rn
                    · obtain ⟨z, hz⟩ : ∃ z, R[j]? = some z := ⟨R[j]'(by rw [M5.out.rnl]; exact hjr), by simp⟩
                      obtain ⟨gr, hgr, BZ⟩ := (M5.out.rs.later HW.out).at hz hjr
                      have k0 := cell_regrown BZ.c2; have k1 := cell_regrown BZ.c3
                      have k2 := cell_regrown (cell_later HW.out q2); have k3 := cell_regrown (cell_later HW.out q3)
                      obtain ⟨sm, hsm⟩ : ∃ sm, sameT z.c z.s r.c r.s = sm := ⟨_, rfl⟩
                      have hrun := run_eqT z.c z.s r.c r.s
                      rw [hsm] at hrun
                      have HLS : Hid (lix R (idR r) (j + 1) = if sm then (j : Int) else lix R (idR r) j) := hid (by rw [lix_succ hz]; show (if sameT z.c z.s r.c r.s = true then _ else _) = _; rw [hsm])
                      subst hgr
                      clear BZ hz hsm
                      go_wp2_with fail
                      refine wp_region_quiet_below (by kernel_rfl) (by kernel_rfl) ?_
                      repeat (go_big_quiet_step (fail))
                      refine wpQuiet_nil ?_
                      intro wq hq
                      replace hq := below_of_regrown hq
                      have HWQ := hid (Below.on HW.out hq)
                      clear hq k0 k1 k2 k3 hrun
                      cases sm
                      · go_wp2_with fail
                        go_roundg (rn - (j + 1))
                        case measure => omega
                        case rel => exact ⟨j + 1, by omega, rfl, by go_num, by rw [HLS.out]; rfl, HWQ⟩
                      · go_wp2_with fail
                        go_roundg (rn - (j + 1))
                        case measure => omega
                        case rel => exact ⟨j + 1, by omega, rfl, by go_num, by rw [HLS.out]; rfl, HWQ⟩
                    · obtain rfl : rn = j := by omega
                      rw [HLX.out]
                      have MY := hid (M5.out.later HW.out)
                      obtain ⟨gr, hgr, BY⟩ := MY.out.rs.at HY.out hjl
                      have d6 := cell_later HW.out q6; have d7 := cell_later HW.out q7; have d8 := cell_later HW.out q8
                      have d10 := BY.c10
                      have hnb : n ≤ 4194304 := by have := MY.out.nk; omega
                      have LD : Hid (∀ W, Below wr.heap.size wr W → Calls Tryz.prog 22 #[.slice a n c, .agg #[.int .u64 r.w, .int .u32 r.l, .int .u32 r.n, .slice y.wa y.ws.length y.wc]] W fun e w' => ∃ (a2 : Option Addr) (m c2 : Nat), e = .returned (.slice a2 m c2) ∧ Hid (OutC wr.heap.size w' a2 m c2 (laidV U ⟨⟨at' r, y.ws⟩, y.wa, y.wc⟩)) ∧ Below W.heap.size W w') := hid fun W hb => by
                        refine (laid_is (MY.out.cs.later hb) MY.out.cn hnb ⟨⟨at' r, y.ws⟩, y.wa, y.wc⟩).mono ?_
                        rintro e w' ⟨a2, m, c2, he, ho, hbw⟩
                        exact ⟨a2, m, c2, he, hid ⟨ho.out.1, Lk.owns_base ho.out.2 hb.size⟩, hbw⟩
                      have HWK : Hid (Wok wx.heap.size wr ⟨⟨at' r, y.ws⟩, y.wa, y.wc⟩) := hid (wok_arg HYO.out (Nat.le_refl _) MY.out.bl (at' r))
                      have hjn : ¬ (jj : Int) < 0 := by omega
                      subst hgr
                      clear BY HW HLX M5 q0 q1 q2 q3 q4 q5 q6 q7 q8 q9 q10 q11
                      go_wp2_with fail
                      go_region_held3 (fun w' => w'.cell? ⟨q, 6, none⟩ = some (.int .u64 r.w) ∧ w'.cell? ⟨q, 7, none⟩ = some (.int .u32 r.l) ∧ w'.cell? ⟨q, 8, none⟩ = some (.int .u32 r.n) ∧ w'.cell? ⟨gr, jj * 12 + 10, none⟩ = some (.slice y.wa y.ws.length y.wc) ∧ Below wr.heap.size wr w')
                        ((refine (fun (hB : Below wr.heap.size wr _) => ⟨cell_later hB d6, cell_later hB d7, cell_later hB d8, cell_later hB d10, hB⟩) ?_; (repeat (first | with_reducible exact Below.refl _ _ | with_reducible assumption | with_reducible refine Below.drew ?_ | with_reducible refine Below.al ?_ _ | with_reducible refine Below.setCell ?_ (by first | exact Nat.le_refl _ | (simp; omega) | (simp; done)) _ | with_reducible refine Below.on ?_ (by assumption)))))
                        (first | (go_at_call 22; refine (LD.out _ (by (repeat (first | with_reducible exact Below.refl _ _ | with_reducible assumption | with_reducible refine Below.drew ?_ | with_reducible refine Below.al ?_ _ | with_reducible refine Below.setCell ?_ (by first | exact Nat.le_refl _ | (simp; omega) | (simp; done)) _ | with_reducible refine Below.on ?_ (by assumption))))).mono ?_; rintro e w8 ⟨a2, m, c2, rfl, HG, hb8⟩; have hB8 : Below wr.heap.size wr w8 := (by refine Below.on ?_ hb8; (repeat (first | with_reducible exact Below.refl _ _ | with_reducible assumption | with_reducible refine Below.drew ?_ | with_reducible refine Below.al ?_ _ | with_reducible refine Below.setCell ?_ (by first | exact Nat.le_refl _ | (simp; omega) | (simp; done)) _ | with_reducible refine Below.on ?_ (by assumption))))))
                      all_goals (try go_wp2_with fail)
                      all_goals go_roundg (N - (k + 1))
                      all_goals first
                        | (show _ < _; omega)
                        | exact ⟨k + 1, s', laidV U ⟨⟨at' r, y.ws⟩, y.wa, y.wc⟩, R, a2, m, c2, some ⟨gr, 0, none⟩, rn, rc, by omega, rfl, by go_num, rfl, rfl, hid (MY.out.commit HG.out hB8 HWK.out HHI.out HORD.out)⟩
                · have ho' : (r.oc == 1) = false := by simpa using ho
                  have HR : Hid (Hist s' (U.map Cv.c) R) := hid (by
                    have := HS.out.2 (fun h => ho h.2)
                    rw [HN2.out] at this
                    exact this)
                  have HM7 := hid (M5.out.done HR.out).succ
                  clear ho h3 HS HN2
                  go_wp2_with fail
                  go_roundg (N - (k + 1))
                  case measure => omega
                  case rel => exact ⟨k + 1, s', U, R, a, n, c, ra, rn, rc, by omega, rfl, by go_num, rfl, rfl, HM7⟩
              · have h3' : (r.k == 3) = false := by simpa using h3
                have HR : Hid (Hist s' (U.map Cv.c) R) := hid (by
                  have := HS.out.2 (fun h => h3 h.1)
                  rw [HN2.out] at this
                  exact this)
                have HM7 := hid (M5.out.done HR.out).succ
                clear h3 HS HN2
                go_wp2_with fail
                go_roundg (N - (k + 1))
                case measure => omega
                case rel => exact ⟨k + 1, s', U, R, a, n, c, ra, rn, rc, by omega, rfl, by go_num, rfl, rfl, HM7⟩
          · have h0' : (E != 0) = true := by simpa using h0
            have HM7 : Hid (Mid wx w5 p s' U R a n c ra rn rc (k + 1)) := hid (M5.out.done (by rw [HNO.out h0]; exact HM4.out.hist)).succ
            clear h0 HST HNO
            go_wp2_with fail
            go_roundg (N - (k + 1))
            case measure => omega
            case rel => exact ⟨k + 1, s', U, R, a, n, c, ra, rn, rc, by omega, rfl, by go_num, rfl, rfl, HM7⟩
      · obtain rfl : N = k := by omega
        have HF : Hid (HisO w wr p a n c) := hid ⟨wx.heap.size, s, U, R, HBX.out.size, HM.out.bl.size, HM.out.st, HM.out.cs, HM.out.cn, HM.out.cw, HM.out.hist, by have := HM.out.nk; omega, by have := HM.out.rl; have := HM.out.rnl; omega⟩
        have HBF := hid (Below.on HBX.out HM.out.bl)
        go_wp2_with fail
        refine bodyPost_ret (v := .tuple #[sp p, .slice a n c]) (by simp [results, Tryz.results6, go_sem]) rfl ⟨p, a, n, c, rfl, HF, HBF.out⟩
end Go.Proofs.YtfdbffadajepfaaGreat.Ys
/- A list of structs, opened: any struct, with what its elements are read as. -/
namespace Go.Proofs.YtfdbffadajepfaaGreat
open Go.ChangeShapes Go.WideShapes Go.ChangeAt Go.RowKit Go.Deep
set_option linter.unusedVariables false

/-- a row of elements of n cells each -/
def RowC {α : Type} (z : α) (cells : α → List Value) (n : Nat) (W : World) (a : Option Addr) (xs : List α) : Prop :=
  ∀ i, i < xs.length → ∃ b off, a = some ⟨b, off, none⟩ ∧ ∀ o u, (cells (xs[i]?.getD z))[o]? = some u → W.cell? ⟨b, off + i * n + o, none⟩ = some u

theorem weightsAll_mem {H : Type} {P : Program} {e : TypeId} {k : Nat} : ∀ {l : List (DataW H)} {d : DataW H}, d ∈ l → k ∈ d.weights P e → k ∈ DataW.weightsAll P e l
  | x :: l, d, hd, hk => by
    rw [DataW.weightsAll, List.mem_append]
    rcases List.mem_cons.1 hd with rfl | hd
    · exact .inl hk
    · exact .inr (weightsAll_mem hd hk)

/-- what a small bulk says -/
theorem bulk_pos {H : Type} (d : DataW H) : 1 ≤ Rows.uptoBulk d := by
  cases d with
  | lit l => cases l <;> simp [Rows.uptoBulk]
  | _ => simp [Rows.uptoBulk]
theorem bulkAll_len {H : Type} : ∀ l : List (DataW H), l.length ≤ Rows.uptoBulkAll l
  | [] => by simp
  | x :: l => by have := bulkAll_len l; have := bulk_pos x; simp only [List.length_cons, Rows.uptoBulkAll]; omega
theorem bulkAll_mem {H : Type} : ∀ {l : List (DataW H)} {d : DataW H}, d ∈ l → Rows.uptoBulk d ≤ Rows.uptoBulkAll l
  | x :: l, d, hd => by
    rcases List.mem_cons.1 hd with rfl | hd
    · simp only [Rows.uptoBulkAll]; omega
    · have := bulkAll_mem hd; simp only [Rows.uptoBulkAll]; omega
theorem bulkAll_sum {H α : Type} (z : α) (f : α → Nat) : ∀ {el : List (DataW H)} {xs : List α}, el.length = xs.length → (∀ i, i < xs.length → ∃ d, el[i]? = some d ∧ f (xs[i]?.getD z) ≤ Rows.uptoBulk d) → (xs.map f).sum ≤ Rows.uptoBulkAll el
  | [], [], _, _ => by simp
  | e :: el, x :: xs, hl, h => by
    obtain ⟨d, hd, h0⟩ := h 0 (by simp)
    simp at hd h0
    subst hd
    have := bulkAll_sum z f (el := el) (xs := xs) (by simpa using hl) (fun i hi => by
      obtain ⟨d, hd, h1⟩ := h (i + 1) (by simpa using hi)
      exact ⟨d, by simpa using hd, by simpa using h1⟩)
    simp only [List.map_cons, List.sum_cons, Rows.uptoBulkAll]
    omega
/-- all of its weights are within the reach, or its bulk is small -/
def InReach {H : Type} (t : TypeId) (d : DataW H) : Prop := (∀ k ∈ d.weights Tryz.prog t, k ≤ reachBytes) ∨ Rows.uptoBulk d ≤ 1048576
theorem InReach.of_args {H : Type} {t : TypeId} {d : DataW H} {ts : List TypeId} {gs : List (DataW H)} (hsz : (DataW.weightsEach Tryz.prog (t :: ts) (d :: gs)).all (· ≤ reachBytes) = true) : InReach t d := .inl fun k hk => by
  have := List.all_eq_true.1 hsz k (DataW.weights_mem_each (j := 0) rfl rfl k hk)
  simpa using this
theorem InReach.part {H : Type} {t : TypeId} {fs : Array Field} {ps : List (DataW H)} (h : InReach t (.agg ps)) (ht : Tryz.prog.underlying t = some (.struct fs)) {j : Nat} {f : Field} {d : DataW H} (hf : fs[j]? = some f) (hd : ps[j]? = some d) : InReach f.type d := by
  rcases h with h | h
  · refine .inl fun k hk => h k ?_
    simp only [DataW.weights, ht]
    exact DataW.weights_mem_each (j := j) (by simp [hf]) hd k hk
  · have := bulkAll_mem (List.mem_of_getElem? hd)
    simp only [Rows.uptoBulk] at h
    exact .inr (by omega)
theorem InReach.elem {H : Type} {t e : TypeId} {el sp : List (DataW H)} (h : InReach t (.slice el sp)) (ht : Tryz.prog.underlying t = some (.slice e)) {d : DataW H} (hd : d ∈ el) : InReach e d := by
  rcases h with h | h
  · refine .inl fun k hk => h k ?_
    simp only [DataW.weights, ht, List.mem_cons, List.mem_append]
    exact .inr (.inl (weightsAll_mem hd hk))
  · have := bulkAll_mem hd
    simp only [Rows.uptoBulk] at h
    exact .inr (by omega)
theorem InReach.len {H : Type} {t e : TypeId} {el sp : List (DataW H)} (h : InReach t (.slice el sp)) (ht : Tryz.prog.underlying t = some (.slice e)) {n : Nat} (hb : Tryz.prog.bytesOf e = n) (hn : n ≤ 65536) : el.length * n ≤ reachBytes := by
  rcases h with h | h
  · have := h ((el.length + sp.length) * Tryz.prog.bytesOf e) (by simp [DataW.weights, ht])
    rw [hb] at this
    exact Nat.le_trans (Nat.mul_le_mul_right _ (Nat.le_add_right _ _)) this
  · have := bulkAll_len el
    simp only [Rows.uptoBulk] at h
    have h1 : el.length * n ≤ 1048576 * 65536 := Nat.mul_le_mul (by omega) hn
    exact Nat.le_trans h1 (by decide)
theorem InReach.text {H : Type} {t : TypeId} {s : ByteArray} (h : InReach (H := H) t (.lit (.string s.data.toList))) : s.size ≤ reachBytes := by
  rcases h with h | h
  · have := h s.data.toList.length (by simp [DataW.weights])
    simpa using this
  · simp only [Rows.uptoBulk, Array.length_toList] at h
    have e : s.size = s.data.size := rfl
    simp only [reachBytes]
    omega
theorem open_rows {H : Type} {enc : TypeId × Value → H} {W : World} {base fuel : Nat} {v : Value} {y : DataW H × List MemPlace} {t e : TypeId} {n : Nat} (ht : Tryz.prog.underlying t = some (.slice e)) (hn : Tryz.prog.cellsOf e = n) (hn0 : 0 < n)
    {α : Type} (z : α) (cells : α → List Value) (good : α → DataW H → Prop)
    (hrd : ∀ fuel cs y, DataW.trod enc Tryz.prog W base (fun _ => true) true fuel e cs = some y → InReach e y.1 → ∃ x, cs = cells x ∧ good x y.1)
    (hf : DataW.trod enc Tryz.prog W base (fun _ => true) true fuel t [v] = some y) (hr : InReach t y.1) :
    ∃ (a : Option Addr) (cap : Nat) (xs : List α), v = .slice a xs.length cap ∧ xs.length ≤ cap ∧ xs.length ≤ 9223372036854775807 ∧ RowC z cells n W a xs ∧
      (xs = [] ∨ ∃ el sp, y.1 = .slice el sp ∧ el.length = xs.length ∧ ∀ i, i < xs.length → ∃ d, el[i]? = some d ∧ good (xs[i]?.getD z) d) := by
  rcases open_slice ht hf with ⟨e3, _⟩ | ⟨a, len, cap, m, n', D, Pl, e3, hb, hlc, hm, hmm, hxx, hel⟩
  · injection e3 with e3
    subst e3
    exact ⟨none, 0, [], rfl, by simp, by simp, fun i hi => by simp at hi, .inl rfl⟩
  · injection e3 with e3
    subst e3
    have hlm : len ≤ m := by rw [hmm]; split <;> omega
    have each : ∀ i, i < len → ∃ x : α, good x (D i) ∧ ∃ bb off, a = ⟨bb, off, none⟩ ∧ ∀ o u, (cells x)[o]? = some u → W.cell? ⟨bb, off + i * n + o, none⟩ = some u := by
      intro i hi
      obtain ⟨cs', hc, ht'⟩ := hel i (by omega)
      have hrD : InReach e (D i) := by
        rw [hxx] at hr
        exact hr.elem ht (List.mem_map.2 ⟨i, List.mem_range.2 hi, rfl⟩)
      obtain ⟨x, rfl, hg⟩ := hrd _ _ _ ht' hrD
      rw [hn] at hc
      obtain ⟨_, hl, hcell⟩ := World.cells?_some hc
      obtain ⟨bb, off, spot⟩ := a
      have hspot : spot = none := by
        obtain ⟨cs0, hc0, ht0⟩ := hel 0 (by omega)
        rw [hn] at hc0
        obtain ⟨_, hl0, hcell0⟩ := World.cells?_some hc0
        have h0 := hcell0 0 hn0
        cases hv0 : cs0[0]? with
        | none => rw [List.getElem?_eq_none_iff] at hv0; omega
        | some u =>
          rw [hv0] at h0
          have hs := World.cell?_spot h0
          clear hcell hcell0
          simpa [Addr.add] using hs
      subst hspot
      refine ⟨x, hg, bb, off, rfl, fun o u ho => ?_⟩
      have hol : o < n := by have := (List.getElem?_eq_some_iff.1 ho).1; omega
      have := hcell o hol
      rw [ho] at this
      simpa [Addr.add_lit, Nat.add_assoc] using this
    obtain ⟨f, hq⟩ := @choose_lt α ⟨z⟩ _ _ each
    have hnn : ∀ i, i < len → (((List.range len).map f)[i]?).getD z = f i := fun i hi => by simp [hi]
    refine ⟨some a, cap, (List.range len).map f, by simp, by simpa using hlc, by simp [maxLen] at hm ⊢; omega, fun i hi => ?_, .inr ⟨(List.range len).map D, (List.range (m - len)).map fun j => D (len + j), by rw [hxx], by simp, fun i hi => ?_⟩⟩
    · have hi' : i < len := by simpa using hi
      obtain ⟨hx, bb, off, e, c⟩ := hq i hi'
      rw [hnn i hi']
      exact ⟨bb, off, by rw [e], c⟩
    · have hi' : i < len := by simpa using hi
      rw [hnn i hi']
      exact ⟨D i, by simp [hi'], (hq i hi').1⟩

end Go.Proofs.YtfdbffadajepfaaGreat
