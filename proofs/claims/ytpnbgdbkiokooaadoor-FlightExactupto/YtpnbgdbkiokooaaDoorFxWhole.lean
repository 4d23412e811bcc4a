import Derived.Test.YtpnbgdbkiokooaaDoorFxSettle
/- whole. -/
namespace Go.Proofs.YtpnbgdbkiokooaaDoor.Fl
open Go.RowKit Go.Sort Go.Proofs.YtpnbgdbkiokooaaDoor
set_option linter.unusedVariables false

/-- the book, sound, and its bounds -/
structure Bq (W w : World) (b : Nat) (c : Nat → Nat) (s : Bv) (m : Nat) : Prop where
  bk : Bk w W.heap.size b c s
  L : s.L.length = s.N.length
  XY : ∀ i, i < s.F.length → nthX s.Y i = nthX s.X i
  x : ∀ i, i < s.F.length → (nthX s.X i).length ≤ 1073741824
  M : ∀ n, n < s.N.length → nthM s.N n ≤ 1073741824
  le : s.N.length + s.F.length ≤ m
/-- what whole leaves -/
structure Wd (W w w' : World) (b : Nat) (c c' : Nat → Nat) (s s' : Bv) (m : Nat) : Prop where
  bq : Bq W w' b c' s' m
  onl : Onl (fun k => 4 ≤ c k) w w'
  col : ∀ k, k < w.heap.size → c k < 4 → c' k = c k
  bl : Below W.heap.size w w'
theorem Wd.after {W w w' w2 : World} {b m : Nat} {c c' : Nat → Nat} {s s' : Bv} (h : Wd W w w' b c c' s s' m) (hb : Below w'.heap.size w' w2) (hW : W.heap.size ≤ w.heap.size) : Wd W w w2 b c c' s s' m :=
  ⟨⟨h.bq.bk.after hb, h.bq.L, h.bq.XY, h.bq.x, h.bq.M, h.bq.le⟩, h.onl.on hb, h.col, h.bl.trans (hb.mono (Nat.le_trans hW h.onl.size))⟩
theorem Sd.wd {W w w' : World} {b m : Nat} {c c' : Nat → Nat} {s s' : Bv} (h : Sd W w w' b c c' s s') (hq : Bq W w b c s m) : Wd W w w' b c c' s s' m :=
  ⟨⟨h.bk, h.L, fun i hi => by rw [h.F] at hi; simp at hi, fun i hi => by rw [h.F] at hi; simp at hi, h.M hq.M, by rw [h.N, h.F]; exact hq.le⟩, h.onl, h.col, h.bl⟩
theorem Bq.settle {W w : World} {b m : Nat} {c : Nat → Nat} {s : Bv} (hP : PowTab W) (h : Bq W w b c s m) (hbW : Below W.heap.size W w) (hm : m ≤ 1073741824) :
    Calls Tryd.prog 16 #[pt b] w fun e w' => e = .returned (.bool true) ∧ Hid (∃ c' s', Wd W w w' b c c' s s' m) := by
  have hle := h.le
  refine (settle_is hP h.bk hbW h.L h.XY h.x (by omega) (by omega)).mono ?_
  rintro e w' ⟨rfl, c', s', h1⟩
  exact ⟨rfl, c', s', h1.wd h⟩
theorem Bk.keptAt {w : World} {B b n k : Nat} {c : Nat → Nat} {s : Bv} {a : Option Addr} (h : Bk w B b c s) (hv : s.vk = .slice a n k) {i : Nat} (hi : i < s.N.length) : ∃ g a1 k1, a = some ⟨g, 0, none⟩ ∧ w.cell? ⟨g, i, none⟩ = some (.slice a1 (nthM s.N i) k1) ∧ ∀ j, j < nthM s.N i → ∃ g1 o1, a1 = some ⟨g1, o1, none⟩ ∧ w.cell? ⟨g1, o1 + j, none⟩ = some (.string (markB i j)) := by
  have h1 := h.rk
  rw [hv] at h1
  obtain ⟨g, e, hc⟩ := h1.at (by rw [h.lk]; exact hi)
  obtain ⟨a1, k1, e1, hr⟩ := h.kp i hi
  rw [marks_len] at e1
  refine ⟨g, a1, k1, e, by rw [hc, e1], fun j hj => ?_⟩
  obtain ⟨g1, o1, e2, _, e3⟩ := hr j _ (nthT_get (by rw [marks_len]; exact hj))
  rw [marks_get hj] at e3
  exact ⟨g1, o1, e2, e3⟩
theorem Bk.longAt {w : World} {B b n k : Nat} {c : Nat → Nat} {s : Bv} {a : Option Addr} (h : Bk w B b c s) (hv : s.vl = .slice a n k) {i : Nat} (hi : i < s.N.length) : ∃ g a1 k1, a = some ⟨g, 0, none⟩ ∧ w.cell? ⟨g, i, none⟩ = some (.slice a1 (nthM s.N i + 70) k1) ∧ ∀ j, j < nthM s.N i + 70 → ∃ g1 o1, a1 = some ⟨g1, o1, none⟩ ∧ w.cell? ⟨g1, o1 + j, none⟩ = some (.string (markB i j)) := by
  have h1 := h.rl
  rw [hv] at h1
  obtain ⟨g, e, hc⟩ := h1.at (Nat.lt_of_lt_of_le hi h.ll)
  obtain ⟨a1, k1, e1, hr⟩ := h.lo i hi
  rw [marks_len] at e1
  refine ⟨g, a1, k1, e, by rw [hc, e1], fun j hj => ?_⟩
  obtain ⟨g1, o1, e2, _, e3⟩ := hr j _ (nthT_get (by rw [marks_len]; exact hj))
  rw [marks_get hj] at e3
  exact ⟨g1, o1, e2, e3⟩

set_option maxRecDepth 16000 in
set_option maxHeartbeats 16000000 in
/-- the lists as they are held against what must stand in them -/
theorem whole_tail {W w : World} {b m : Nat} {c : Nat → Nat} {s : Bv} (hP : PowTab W) (h : Bq W w b c s m) (hbW : Below W.heap.size W w) (hm : m ≤ 1073741824) (h4 : s.F.length ≤ 4) :
    Calls Tryd.prog 15 #[pt b] w fun e w' => e = .returned (.bool true) ∧ Hid (Below w.heap.size w w') := by
  obtain ⟨af, kf, hvf⟩ := owns_slice h.bk.rf
  obtain ⟨aw, kw, hvw⟩ := owns_slice h.bk.rw_
  obtain ⟨ak, kk, hvk⟩ := owns_slice h.bk.rk
  obtain ⟨al, kl, hvl⟩ := owns_slice h.bk.rl
  obtain ⟨x0, x1, x2, x3⟩ := h.bk.reads
  rw [hvf] at x0
  rw [hvw, h.bk.lz] at x1
  rw [hvk, h.bk.lk] at x2
  rw [hvl, h.L] at x3
  have hcf := h.bk.rf
  rw [hvf] at hcf
  have hcap := hcf.cap.2
  obtain ⟨nF, hnF⟩ : ∃ nF, nF = s.F.length := ⟨_, rfl⟩
  obtain ⟨fr, hfr⟩ : ∃ fr, fr = s.N.length := ⟨_, rfl⟩
  have HVF := hid hvf
  have HVW := hid hvw
  have HVK := hid hvk
  have HVL := hid hvl
  have HNF := hid hnF
  have HFR := hid hfr
  have HB := hid h.bk
  have HBW := hid hbW
  have HXY := hid h.XY
  have HX := hid h.x
  have HMM := hid h.M
  have hle := h.le
  rw [← hnF, ← hfr] at hle
  rw [← hnF] at x0 x1 hcap h4
  rw [← hfr] at x2 x3
  have HMARK : Hid (∀ (wr : World) (i j : Nat), Below W.heap.size W wr → i ≤ 4611686018427387904 → j ≤ 4611686018427387904 → Calls Tryd.prog 17 #[.int .i64 (i : Int), .int .i64 (j : Int)] wr fun e w' => e = .returned (.string (markB i j)) ∧ Below wr.heap.size wr w') := fun wr i j hb h2 h4 => mark_is ⟨by omega, by omega⟩ ⟨by omega, by omega⟩ wr (hP.later hb)
  clear hP h hbW hvf hvw hvk hvl hcf hnF hfr
  have k4 : decide ((4 : Int) < (nF : Int)) = false := by simp; omega
  go_enter Tryd.func15, Tryd.ntmps15
  go_wp2_with fail
  go_loopg [3] nF (fun g s3 wr => ∃ i : Nat, i ≤ nF ∧ g = nF - i ∧ s3 = .int .i64 i ∧ Hid (Below w.heap.size w wr))
  case atStart => exact ⟨0, by omega, by omega, rfl, Below.refl _ _⟩
  case round =>
    obtain ⟨i, hi, rfl, rfl, HBR⟩ := hrel
    replace x0 := cell_later HBR.out x0
    replace x1 := cell_later HBR.out x1
    replace x2 := cell_later HBR.out x2
    replace x3 := cell_later HBR.out x3
    by_cases hlt : i < nF
    · have hlt' : i < s.F.length := by rw [← HNF.out]; exact hlt
      obtain ⟨gf, a1, k1, rfl, y1, e1⟩ := (HB.out.after HBR.out).freshAt HVF.out hlt'
      obtain ⟨gw, a2, k2, rfl, y2, e2⟩ := (HB.out.after HBR.out).wasAt HVW.out hlt'
      have hrd1 := (HB.out.fr i hlt').1.rd.later HBR.out
      have hrd2 := (HB.out.wa i hlt').rd.later HBR.out
      rw [HXY.out i hlt'] at hrd2 y2 e2
      rw [e1] at hrd1
      rw [e2] at hrd2
      have hln := HX.out i hlt'
      have SM : Hid (∀ n, Calls Tryd.prog 31 #[.slice a1 (nthX s.X i).length k1, .slice a2 (nthX s.X i).length k2] (wr.drewN n) fun e w'' => e = .returned (.bool true) ∧ ∃ m, w'' = wr.drewN m) := fun n => by
        refine (same_at (w := wr.drewN n) (hrd1.later (Below.drewN (Below.refl _ _) _)) (hrd2.later (Below.drewN (Below.refl _ _) _)) (by omega)).mono ?_
        rintro e w'' ⟨rfl, m, rfl⟩
        exact ⟨rfl, n + m, World.drewN_drewN _ _ _⟩
      generalize (nthX s.X i).length = ln at y1 y2 SM
      have hI : (i : Int) < (nF : Int) := by omega
      clear e1 e2 hrd1 hrd2 hln
      go_wp2_with fail
      go_quiet ((go_at_call 31; exact SM.out _))
      go_wp2_with fail
      go_roundg (nF - (i + 1))
      case measure => omega
      case rel => exact ⟨i + 1, by omega, rfl, by go_num, Below.drewN HBR.out _⟩
    · obtain rfl : nF = i := by omega
      clear hlt hi
      go_wp2_with fail
      go_loopg [4] fr (fun g s4 ws => ∃ n : Nat, n ≤ fr ∧ g = fr - n ∧ s4 = .int .i64 n ∧ Hid (Below w.heap.size w ws))
      case atStart => exact ⟨0, by omega, by omega, rfl, HBR.out⟩
      case round =>
        obtain ⟨n, hn, rfl, rfl, HBS⟩ := hrel
        clear HBR x0 x1 x2 x3
        obtain ⟨x0, x1, x2, x3⟩ := (HB.out.after HBS.out).reads
        replace x2 : wr.cell? ⟨b, 2, none⟩ = some (.slice ak fr kk) := by rw [x2, HVK.out, HB.out.lk, HFR.out]
        by_cases hlt : n < fr
        · have hlt' : n < s.N.length := by rw [← HFR.out]; exact hlt
          obtain ⟨gl, a3, k3, rfl, y3, _⟩ := (HB.out.after HBS.out).longAt HVL.out hlt'
          have hMn := HMM.out n hlt'
          obtain ⟨mn, hmn⟩ : ∃ mn, mn = nthM s.N n := ⟨_, rfl⟩
          have HMN := hid hmn
          rw [← hmn] at y3 hMn
          replace x3 : wr.cell? ⟨b, 3, none⟩ = some (.slice (some ⟨gl, 0, none⟩) s.L.length kl) := by rw [x3, HVL.out]
          have hLL : n < s.L.length := Nat.lt_of_lt_of_le hlt' HB.out.ll
          have HLL := hid hLL
          generalize hql : s.L.length = lL at x3 hLL
          have HQL := hid hql
          have hN1 : (n : Int) < (fr : Int) := by omega
          have hN2 : (n : Int) < (lL : Int) := by omega
          clear x0 x1 hmn hql
          go_wp2_with fail
          go_loopg [5] (mn + 70) (fun g s5 wt => ∃ i : Nat, i ≤ mn + 70 ∧ g = mn + 70 - i ∧ s5 = .int .i64 i ∧ Hid (Below w.heap.size w wt))
          case atStart => exact ⟨0, by omega, by omega, rfl, HBS.out⟩
          case round =>
            obtain ⟨i, hi, rfl, rfl, HBT⟩ := hrel
            clear HBS x2 x3 y3
            obtain ⟨x0, x1, x2, x3⟩ := (HB.out.after HBT.out).reads
            replace x2 : wr.cell? ⟨b, 2, none⟩ = some (.slice ak fr kk) := by rw [x2, HVK.out, HB.out.lk, HFR.out]
            replace x3 : wr.cell? ⟨b, 3, none⟩ = some (.slice (some ⟨gl, 0, none⟩) lL kl) := by rw [x3, HVL.out, HQL.out]
            obtain ⟨gl2, a4, k4', e4, y4, hc4⟩ := (HB.out.after HBT.out).longAt HVL.out hlt'
            injection e4 with e4
            injection e4 with e4 _ _
            subst e4
            obtain ⟨gk, a5, k5, rfl, y5, hc5⟩ := (HB.out.after HBT.out).keptAt HVK.out hlt'
            rw [← HMN.out] at y4 y5 hc4 hc5
            clear x0 x1
            by_cases hlt2 : i < mn + 70
            · obtain ⟨g1, o1, rfl, z1⟩ := hc4 i hlt2
              have HM : Hid (∀ ws, Below wr.heap.size wr ws → Calls Tryd.prog 17 #[.int .i64 (n : Int), .int .i64 (i : Int)] ws fun e w' => e = .returned (.string (markB n i)) ∧ Below ws.heap.size ws w') := fun ws hb => HMARK.out ws n i (Below.on (HBW.out.trans (HBT.out.mono HBW.out.size)) hb) (by omega) (by omega)
              have hI2 : (i : Int) < (mn : Int) + 70 := by omega
              by_cases hin : i < mn
              · obtain ⟨g2, o2, rfl, z2⟩ := hc5 i hin
                generalize markB (n : Int) (i : Int) = mm at z1 z2 HM
                have d1 : decide ((i : Int) < (mn : Int)) = true := by simpa using hin
                have d2 : (i : Int) < (mn : Int) := by omega
                have r2 := cell_regrown x2
                have r3 := cell_regrown x3
                have r4 := cell_regrown y4
                have r5 := cell_regrown y5
                have r6 := cell_regrown z1
                have r7 := cell_regrown z2
                clear hc4 hc5
                go_wp2_with fail
                refine wp_region_quiet_below (by kernel_rfl) (by kernel_rfl) ?_
                repeat (go_big_quiet_step (((go_at_call 17; exact Calls.regrown_of (HM.out _ (below_of_regrown ⟨⟨_, _⟩, rfl⟩))))))
                refine wpQuiet_nil ?_
                intro wn hwn
                replace hwn := below_of_regrown hwn
                go_wp2_with fail
                go_roundg (mn + 70 - (i + 1))
                case measure => omega
                case rel => exact ⟨i + 1, by omega, rfl, by go_num, Below.on HBT.out hwn⟩
              · generalize markB (n : Int) (i : Int) = mm at z1 HM
                have d1 : decide ((i : Int) < (mn : Int)) = false := by simpa using hin
                have d2 : ((i : Int) < (mn : Int)) = False := eq_false (by omega)
                have r2 := cell_regrown x2
                have r3 := cell_regrown x3
                have r4 := cell_regrown y4
                have r5 := cell_regrown y5
                have r6 := cell_regrown z1
                clear hc4 hc5
                go_wp2_with fail
                refine wp_region_quiet_below (by kernel_rfl) (by kernel_rfl) ?_
                repeat (go_big_quiet_step (((go_at_call 17; exact Calls.regrown_of (HM.out _ (below_of_regrown ⟨⟨_, _⟩, rfl⟩))))))
                refine wpQuiet_nil ?_
                intro wn hwn
                replace hwn := below_of_regrown hwn
                go_wp2_with fail
                go_roundg (mn + 70 - (i + 1))
                case measure => omega
                case rel => exact ⟨i + 1, by omega, rfl, by go_num, Below.on HBT.out hwn⟩
            · obtain rfl : i = mn + 70 := by omega
              have q3 : ((mn + 70 : Nat) : Int) = (mn : Int) + 70 := by omega
              clear hlt2 hi hc4 hc5
              go_wp2_with fail
              go_roundg (fr - (n + 1))
              case measure => omega
              case rel => exact ⟨n + 1, by omega, rfl, by go_num, HBT.out⟩
        · obtain rfl : fr = n := by omega
          clear hlt hn x0 x1 x3
          go_wp2_with fail
          go_ret
          exact ⟨rfl, HBS.out⟩
end Go.Proofs.YtpnbgdbkiokooaaDoor.Fl
