import Derived.Test.YtfdbffadajepfaaGreatStateSerialC01
import Derived.Test.YtfdbffadajepfaaGreatB39
import Derived.Test.YtfdbffadajepfaaGreatB40
/- serial: the commits at or below a stamp, laid on a map one behind the other. -/
namespace Go.Proofs.YtfdbffadajepfaaGreat.Ys
open Go.RowKit Go.Sort
set_option linter.unusedVariables false

/-- the serial run of the first i -/
def serV (U : List Cv) (t : Vs.Sp) (i : Nat) : Vs.Prs := ser ((U.take i).map Cv.c) t
theorem serV_zero (U : List Cv) (t : Vs.Sp) : serV U t 0 = [] := rfl
theorem ser_snoc (C : List Cm) (c : Cm) (t : Vs.Sp) : ser (C ++ [c]) t = if t.lt c.t then ser C t else layP (ser C t) c.ws := by
  unfold ser
  rw [List.filter_append]
  cases h : t.lt c.t with
  | true => simp [h]
  | false => simp [h, layC_app]; rfl
theorem serV_succ {U : List Cv} {i : Nat} {v : Cv} (h : U[i]? = some v) (t : Vs.Sp) : serV U t (i + 1) = if t.lt v.c.t then serV U t i else layP (serV U t i) v.c.ws := by
  unfold serV
  rw [List.take_add_one, h, List.map_append]
  exact ser_snoc _ _ _
theorem serV_end (U : List Cv) (t : Vs.Sp) : serV U t U.length = ser (U.map Cv.c) t := by unfold serV; rw [List.take_length]
theorem serV_len {U : List Cv} (hw : ∀ v ∈ U, v.c.ws.length ≤ 16) (t : Vs.Sp) : ∀ i, (serV U t i).length ≤ 16 * i
  | 0 => by simp [serV_zero]
  | i + 1 => by
    have ih := serV_len hw t i
    cases h : U[i]? with
    | none =>
      have : serV U t (i + 1) = serV U t i := by
        unfold serV
        rw [List.getElem?_eq_none_iff] at h
        rw [List.take_of_length_le (by omega), List.take_of_length_le h]
      rw [this]; omega
    | some v =>
      rw [serV_succ h]
      split
      · omega
      · have h1 := layP_len v.c.ws (serV U t i)
        have h2 := hw v (List.mem_of_getElem? h)
        omega
theorem serV_rising (U : List Cv) (t : Vs.Sp) (i : Nat) : Vs.Rising (serV U t i) := ser_rising _ _
theorem lay_take {ws : List Wr} {j : Nat} (h : j < ws.length) (m : Vs.Prs) : layP m (ws.take (j + 1)) = putP (layP m (ws.take j)) (nthW ws j) := by
  unfold layP
  rw [nthW_take h, List.foldl_append]
  rfl
def insL (l : Vs.Prs) (lo hi : ByteArray) (i : Nat) : Vs.Prs := (l.take i).filter fun e => inS lo hi e.1
theorem insL_end (l : Vs.Prs) (lo hi : ByteArray) : insL l lo hi l.length = Vs.rangeX l lo hi := by unfold insL Vs.rangeX; rw [List.take_length]
theorem insL_succ {l : Vs.Prs} {lo hi : ByteArray} {i : Nat} {y : ByteArray × ByteArray} (h : l[i]? = some y) {u : Bool} (hu : inS lo hi y.1 = u) : insL l lo hi (i + 1) = insL l lo hi i ++ if u then [y] else [] := by
  unfold insL; rw [take_filter h, hu]
theorem insL_len (l : Vs.Prs) (lo hi : ByteArray) (i : Nat) : (insL l lo hi i).length ≤ i := by
  have h3 : ((l.take i).filter fun e => inS lo hi e.1).length ≤ (l.take i).length := List.length_filter_le _ _
  have h4 : (l.take i).length ≤ i := by rw [List.length_take]; omega
  exact Nat.le_trans h3 h4

set_option maxRecDepth 8000 in
set_option maxHeartbeats 4000000 in
theorem serial_is {B : Nat} {w : World} {a : Option Addr} {n c : Nat} {U : List Cv} (h : OwnC B w (.slice a n c) n U) (hn : U.length = n) (hl : n ≤ 1048577) (hw : ∀ v ∈ U, RowW w v.wa v.c.ws ∧ v.c.ws.length ≤ 16) (lo hi : ByteArray) (t : Vs.Sp) :
    Calls Tryz.prog 33 #[.slice a n c, .agg #[.string lo, .string hi], .agg #[.int .u64 t.a, .int .u32 t.b, .int .u32 t.c]] w fun e w' => ∃ (a2 : Option Addr) (m c2 : Nat), e = .returned (.slice a2 m c2) ∧ Hid (RdO w.heap.size w' a2 m c2 (Vs.rangeX (ser (U.map Cv.c) t) lo hi)) ∧ Below w.heap.size w w' := by
  obtain ⟨wx, hwx⟩ : ∃ wx, wx = (w.alloc (.cells #[.string lo, .string hi] 25)).alloc (.cells #[.int .u64 t.a, .int .u32 t.b, .int .u32 t.c] 28) := ⟨_, rfl⟩
  have hbx : Below w.heap.size w wx := by rw [hwx]; exact Below.al (Below.al (Below.refl _ _) _) _
  have x0 : wx.cell? ⟨w.heap.size, 0, none⟩ = some (.string lo) := by rw [hwx]; simp [go_sem]
  have x1 : wx.cell? ⟨w.heap.size, 1, none⟩ = some (.string hi) := by rw [hwx]; simp [go_sem]
  have c0 : wx.cell? ⟨w.heap.size + 1, 0, none⟩ = some (.int .u64 t.a) := by rw [hwx]; simp [go_sem]
  have c1 : wx.cell? ⟨w.heap.size + 1, 1, none⟩ = some (.int .u32 t.b) := by rw [hwx]; simp [go_sem]
  have c2 : wx.cell? ⟨w.heap.size + 1, 2, none⟩ = some (.int .u32 t.c) := by rw [hwx]; simp [go_sem]
  have HX := hid (And.intro x0 x1)
  have HC := hid (And.intro c0 (And.intro c1 c2))
  have HO := hid (h.later hbx)
  have HN := hid hn
  have HW : Hid (∀ v ∈ U, RowW wx v.wa v.c.ws ∧ v.c.ws.length ≤ 16) := hid fun v hv => ⟨(hw v hv).1.later hbx, (hw v hv).2⟩
  have HBX := hid hbx
  have hszx : w.heap.size ≤ wx.heap.size := hbx.size
  clear h hbx hn hw x0 x1 c0 c1 c2
  go_enter Tryz.func33, Tryz.ntmps33
  go_wp2_with fail
  rw [← hwx]
  clear hwx
  go_loopg [7, 8] n (fun g s7 s8 wr => ∃ (i m c2 : Nat) (a2 : Option Addr), i ≤ n ∧ g = n - i ∧ s8 = .int .i64 i ∧ s7 = .slice a2 m c2 ∧ Hid (RdO wx.heap.size wr a2 m c2 (serV U t i)) ∧ Hid (Below wx.heap.size wx wr))
  case atStart => exact ⟨0, 0, 0, none, by omega, by omega, rfl, rfl, hid ⟨by rw [serV_zero]; rfl, by rw [serV_zero]; exact Vs.OwnP.nil _ _⟩, hid (Below.refl _ _)⟩
  case round =>
    obtain ⟨i, m, c2, a2, hi, rfl, rfl, rfl, HM, HB⟩ := hrel
    by_cases hlt : i < n
    · obtain ⟨v, hv⟩ : ∃ v, U[i]? = some v := ⟨U[i]'(by rw [HN.out]; exact hlt), by simp⟩
      obtain ⟨g0, rfl, CA⟩ := (HO.out.later HB.out).at hv hlt
      have y0 := CA.c0; have y1 := CA.c1; have y2 := CA.c2
      have k0 := cell_regrown (cell_later HB.out HC.out.1); have k1 := cell_regrown (cell_later HB.out HC.out.2.1); have k2 := cell_regrown (cell_later HB.out HC.out.2.2)
      have r0 := cell_regrown y0; have r1 := cell_regrown y1; have r2 := cell_regrown y2
      obtain ⟨L, hL⟩ : ∃ L, t.lt v.c.t = L := ⟨_, rfl⟩
      have HL : Hid (lessB t.a t.b t.c v.c.t.a v.c.t.b v.c.t.c = L) := hid hL
      have HS : Hid (serV U t (i + 1) = if L then serV U t i else layP (serV U t i) v.c.ws) := hid (by rw [serV_succ hv, hL])
      have HVW := hid (HW.out v (List.mem_of_getElem? hv))
      have HY3 := hid CA.c3
      clear CA y0 y1 y2 hL hv
      go_wp2_with fail
      refine wp_region_quiet_below (by kernel_rfl) (by kernel_rfl) ?_
      repeat (go_big_quiet_step ((go_at_call 9; exact Calls.regrown_of (less_is HL.out _))))
      refine wpQuiet_nil ?_
      intro wq hq
      replace hq := below_of_regrown hq
      have HBQ := hid (Below.on HB.out hq)
      have HMQ := hid (HM.out.later hq)
      have HY3Q := hid (cell_later hq HY3.out)
      clear k0 k1 k2 r0 r1 r2 hq HL HB HM HY3
      cases L
      · obtain ⟨nw, hnw⟩ : ∃ nw, v.c.ws.length = nw := ⟨_, rfl⟩
        rw [hnw] at HY3Q
        have HNW := hid hnw
        have hnw16 : nw ≤ 16 := by rw [← hnw]; exact HVW.out.2
        have z3 := HY3Q.out
        clear hnw
        go_wp2_with fail
        go_loopg [7, 9] nw (fun g s7 s9 wy => ∃ (j m c2 : Nat) (a2 : Option Addr), j ≤ nw ∧ g = nw - j ∧ s9 = .int .i64 j ∧ s7 = .slice a2 m c2 ∧ Hid (RdO wx.heap.size wy a2 m c2 (layP (serV U t i) (v.c.ws.take j))) ∧ Hid (Below wq.heap.size wq wy))
        case atStart => exact ⟨0, m, c2, a2, by omega, by omega, rfl, rfl, hid (by rw [List.take_zero]; exact HMQ.out), hid (Below.refl _ _)⟩
        case round =>
          obtain ⟨j, m, c2, a2, hj, rfl, rfl, rfl, HJ, HBJ⟩ := hrel
          have z3 := cell_later HBJ.out HY3Q.out
          by_cases hjl : j < nw
          · obtain ⟨b, off, hwa, e0, e1, e2⟩ := HVW.out.1 j (by rw [HNW.out]; exact hjl)
            obtain ⟨x, hx⟩ : ∃ x, x = nthW v.c.ws j := ⟨_, rfl⟩
            rw [← hx] at e0 e1 e2
            have hbb := Below.on HBQ.out HBJ.out
            have d0 := cell_later hbb e0; have d1 := cell_later hbb e1; have d2 := cell_later hbb e2
            have hmb : m ≤ 67108864 := by
              have h1 := HJ.out.1
              have h2 := layP_len (v.c.ws.take j) (serV U t i)
              have h3 := serV_len (fun u hu => (HW.out u hu).2) t i
              have h4 : (v.c.ws.take j).length ≤ j := by rw [List.length_take]; omega
              omega
            have PT := hid (put_is HJ.out (layP_rising _ (serV_rising U t i)) hmb x)
            have HTK : Hid (layP (serV U t i) (v.c.ws.take (j + 1)) = putP (layP (serV U t i) (v.c.ws.take j)) x) := hid (by rw [hx]; exact lay_take (by rw [HNW.out]; exact hjl) _)
            rw [hwa] at z3
            clear e0 e1 e2 hx hwa
            go_wp2_with fail
            refine PT.out.mono ?_
            rintro e wz ⟨a3, m3, c3, rfl, HP, hbz⟩
            have HJ' : Hid (RdO wx.heap.size wz a3 m3 c3 (layP (serV U t i) (v.c.ws.take (j + 1)))) := hid (by rw [HTK.out]; exact ⟨HP.out.1, HP.out.2.base hbb.size⟩)
            have HBJ' := hid (Below.on HBJ.out hbz)
            clear PT hbz HP hbb d0 d1 d2
            go_wp2_with fail
            go_roundg (nw - (j + 1))
            case measure => omega
            case rel => exact ⟨j + 1, m3, c3, a3, by omega, rfl, by go_num, rfl, HJ', HBJ'⟩
          · obtain rfl : nw = j := by omega
            have HM' : Hid (RdO wx.heap.size wr a2 m c2 (serV U t (i + 1))) := hid (by
              have h1 := HJ.out
              rw [List.take_of_length_le (by rw [HNW.out]; exact Nat.le_refl _)] at h1
              rw [HS.out, if_neg (by decide)]
              exact h1)
            have HB' := hid (Below.on HBQ.out HBJ.out)
            go_wp2_with fail
            go_roundg (n - (i + 1))
            case measure => omega
            case rel => exact ⟨i + 1, m, c2, a2, by omega, rfl, by go_num, rfl, HM', HB'⟩
      · have HM' : Hid (RdO wx.heap.size wq a2 m c2 (serV U t (i + 1))) := hid (by rw [HS.out, if_pos rfl]; exact HMQ.out)
        go_wp2_with fail
        go_roundg (n - (i + 1))
        case measure => omega
        case rel => exact ⟨i + 1, m, c2, a2, by omega, rfl, by go_num, rfl, HM', HBQ⟩
    · obtain rfl : n = i := by omega
      obtain ⟨S, hS⟩ : ∃ S, serV U t n = S := ⟨_, rfl⟩
      rw [hS] at HM
      have HSE : Hid (S = ser (U.map Cv.c) t) := hid (by rw [← hS, ← HN.out, serV_end])
      have hmb2 : m ≤ 16777232 := by
        have h1 := HM.out.1
        have h3 := serV_len (fun u hu => (HW.out u hu).2) t n
        rw [hS] at h3
        omega
      have HRS := hid HM.out.row
      have HMS := hid HM.out.1
      have HB0 := HB
      clear hS HM hi hlt
      go_wp2_with fail
      obtain ⟨wr0, hwr0⟩ : ∃ wr0, wr0 = wr := ⟨_, rfl⟩
      rw [← hwr0] at HRS HB ⊢
      clear hwr0 HB0
      go_loopg [10, 11] m (fun g s10 s11 wy => ∃ (j q c3 : Nat) (a3 : Option Addr), j ≤ m ∧ g = m - j ∧ s11 = .int .i64 j ∧ s10 = .slice a3 q c3 ∧ Hid (RdO wr0.heap.size wy a3 q c3 (insL S lo hi j)) ∧ Hid (Below wr0.heap.size wr0 wy))
      case atStart => exact ⟨0, 0, 0, none, by omega, by omega, rfl, rfl, hid ⟨by simp [insL], by simp [insL]; exact Vs.OwnP.nil _ _⟩, hid (Below.refl _ _)⟩
      case round =>
        obtain ⟨j, q, c3, a3, hj, rfl, rfl, rfl, HQ, HBJ⟩ := hrel
        have hqb : q ≤ 134217728 := by have h1 := HQ.out.1; have h2 := insL_len S lo hi j; omega
        by_cases hjl : j < m
        · obtain ⟨b, off, hab, e0, e1⟩ := HRS.out j (by rw [← HMS.out]; exact hjl)
          obtain ⟨y, hy⟩ : ∃ y, y = nth2 S j := ⟨_, rfl⟩
          rw [← hy] at e0 e1
          have d0 := cell_later HBJ.out e0; have d1 := cell_later HBJ.out e1
          have hyl : S[j]? = some y := by rw [hy]; have : j < S.length := by rw [← HMS.out]; exact hjl
                                          simp [nth2, this]
          have hbb := Below.on HB.out HBJ.out
          have k0 := cell_regrown (cell_later hbb HX.out.1); have k1 := cell_regrown (cell_later hbb HX.out.2)
          have r0 := cell_regrown d0
          obtain ⟨u, hu⟩ : ∃ u, inS lo hi y.1 = u := ⟨_, rfl⟩
          have HIN := hid (insL_succ hyl hu)
          obtain ⟨yk, yv⟩ := y
          simp only at d0 d1 r0 hu
          have HIC : Hid (∀ W, Calls Tryz.prog 60 #[.string yk, .agg #[.string lo, .string hi]] W fun e w' => e = .returned (.bool u) ∧ Below W.heap.size W w') := hid fun W => Lk.refinside_is (s := (lo, hi)) hu W
          subst hab
          clear e0 e1 hy hyl hu
          go_wp2_with fail
          refine wp_region_quiet_below (by kernel_rfl) (by kernel_rfl) ?_
          repeat (go_big_quiet_step ((go_at_call 60; exact Calls.regrown_of (HIC.out _))))
          refine wpQuiet_nil ?_
          intro wq hq
          replace hq := below_of_regrown hq
          have HBQ := hid (Below.on hbb hq)
          have HBJQ := hid (Below.on HBJ.out hq)
          have HQQ := hid (HQ.out.later hq)
          have d0 := cell_later hq d0; have d1 := cell_later hq d1
          clear k0 k1 r0 hq HQ HBJ hbb HIC
          cases u
          · have HM' : Hid (RdO wr0.heap.size wq a3 q c3 (insL S lo hi (j + 1))) := hid (by rw [HIN.out, if_neg (by decide), List.append_nil]; exact HQQ.out)
            go_wp2_with fail
            go_roundg (m - (j + 1))
            case measure => omega
            case rel => exact ⟨j + 1, q, c3, a3, by omega, rfl, by go_num, rfl, HM', HBJQ⟩
          · have hmb := hqb
            obtain ⟨w5, hw5⟩ : ∃ w5, w5 = wq.alloc (.cells #[.string yk, .string yv] 89) := ⟨_, rfl⟩
            have hb5 : Below wq.heap.size wq w5 := by rw [hw5]; exact Below.al (Below.refl _ _) _
            have HO5 : Hid (Vs.OwnP w5 wr0.heap.size (.slice a3 q c3) (insL S lo hi j)) := hid (HQQ.out.2.later hb5)
            have HB5 := hid (Below.on HBJQ.out hb5)
            have hs5 : wr0.heap.size ≤ w5.heap.size := HB5.out.size
            have HLN : Hid (((insL S lo hi j).length + 1) * 64 ≤ 140737488355328) := hid (by have h1 := HQQ.out.1; have h2 : q ≤ 134217728 := hmb; omega)
            clear hb5
            go_wp2_with (at_builtin; refine Vs.append_P rfl _ _ rfl (yk, yv) rfl (by rw [← hw5]; exact HO5.out) rfl (Vs.new2P _ _ _ _) HLN.out (by rw [← hw5]; exact hs5) ?_)
            intro v2 w6 hown hgrow
            rw [← hw5] at hgrow
            obtain ⟨a4, c4, rfl⟩ := owns_slice hown
            have HB6R : Hid (Below wr0.heap.size wr0 w6) := hid (Vs.OwnP.grown HO5.out hgrow HB5.out (Nat.le_refl _))
            have HM6 : Hid (RdO wr0.heap.size w6 a4 (insL S lo hi j ++ [(yk, yv)]).length c4 (insL S lo hi j ++ [(yk, yv)])) := hid ⟨rfl, hown⟩
            obtain ⟨n6, hn6⟩ : ∃ n6, (insL S lo hi j ++ [(yk, yv)]).length = n6 := ⟨_, rfl⟩
            rw [hn6] at HM6 ⊢
            clear hown hgrow HO5 HB5 hw5 hs5 HLN hn6
            have HM' : Hid (RdO wr0.heap.size w6 a4 n6 c4 (insL S lo hi (j + 1))) := hid (by rw [HIN.out]; simpa using HM6.out)
            go_wp2_with fail
            go_roundg (m - (j + 1))
            case measure => omega
            case rel => exact ⟨j + 1, n6, c4, a4, by omega, rfl, by go_num, rfl, HM', HB6R⟩
        · obtain rfl : m = j := by omega
          have HF : Hid (RdO w.heap.size wr a3 q c3 (Vs.rangeX (ser (U.map Cv.c) t) lo hi)) := hid (by
            have h1 := HQ.out
            rw [HMS.out, insL_end, HSE.out] at h1
            exact ⟨h1.1, h1.2.base (Nat.le_trans hszx HB.out.size)⟩)
          have HBF := hid (Below.on HBX.out (Below.on HB.out HBJ.out))
          go_wp2_with fail
          go_ret
          exact ⟨a3, q, c3, rfl, HF, HBF.out⟩
end Go.Proofs.YtfdbffadajepfaaGreat.Ys
/- reads; StateSerial. -/
namespace Go.Proofs.YtfdbffadajepfaaGreat.Ys
open Go.RowKit Go.Sort
set_option linter.unusedVariables false

section
variable {s : Ps} {C : List Cm} {R : List Rg}
theorem Hist.rd (H : Hist s C R) {lo hi : ByteArray} {t : Vs.Sp} (h : t.lt s.wm = false) : Vs.rdE s.M s.wm lo hi t = (if 512 < (Vs.rangeX (ser C t) lo hi).length then 142 else 0) ∧ Vs.rdL s.M s.wm lo hi t = (if 512 < (Vs.rangeX (ser C t) lo hi).length then [] else Vs.rangeX (ser C t) lo hi) := by
  have e : Vs.readM s.M lo hi t = Vs.rangeX (ser C t) lo hi := by rw [Vs.readM_is, H.read t h]
  have e1 : Vs.rdE s.M s.wm lo hi t = if 512 < (Vs.rangeX (ser C t) lo hi).length then 142 else 0 := by unfold Vs.rdE; rw [h, e]; rfl
  refine ⟨e1, ?_⟩
  unfold Vs.rdL
  rw [e1, e]
  split
  · rfl
  · rfl
theorem rd_old {lo hi : ByteArray} {t : Vs.Sp} (h : t.lt s.wm = true) : Vs.rdE s.M s.wm lo hi t = 90 ∧ Vs.rdL s.M s.wm lo hi t = [] := by
  have e1 : Vs.rdE s.M s.wm lo hi t = 90 := by unfold Vs.rdE; rw [h]; rfl
  refine ⟨e1, ?_⟩
  unfold Vs.rdL
  rw [e1]; rfl
end
theorem Sta.wmark' {B : Nat} {w : World} {p : Nat} {s : Ps} (T : Sta B w p s) {a b c : Int} (h : s.wm = ⟨a, b, c⟩) : Calls Tryz.prog 17 #[sp p] w fun e w' => e = .returned (.agg #[.int .u64 a, .int .u32 b, .int .u32 c]) ∧ Below w.heap.size w w' := by
  obtain ⟨F, m1, m2, m, V, I, T, _⟩ := T
  refine (Watermark_is T).mono ?_
  rintro e w' ⟨he, hb⟩
  exact ⟨by rw [he, h], hb⟩
/-- what the law asks with -/
structure Srl (B : Nat) (w : World) (p : Nat) (s : Ps) (U : List Cv) (a : Option Addr) (n c : Nat) : Prop where
  st : Sta B w p s
  cs : OwnC B w (.slice a n c) n U
  un : U.length = n
  ul : n ≤ 1048577
  cw : ∀ v ∈ U, RowW w v.wa v.c.ws ∧ v.c.ws.length ≤ 16
  hist : ∃ R, Hist s (U.map Cv.c) R
theorem Srl.later {B : Nat} {w w' : World} {p : Nat} {s : Ps} {U : List Cv} {a : Option Addr} {n c : Nat} (S : Srl B w p s U a n c) (hb : Below w.heap.size w w') : Srl B w' p s U a n c :=
  ⟨S.st.later hb, S.cs.later hb, S.un, S.ul, fun v hv => ⟨(S.cw v hv).1.later hb, (S.cw v hv).2⟩, S.hist⟩

set_option maxHeartbeats 4000000 in
theorem reads_is {B : Nat} {w : World} {p : Nat} {s : Ps} {U : List Cv} {a : Option Addr} {n c : Nat} (S : Srl B w p s U a n c) (lo hi : ByteArray) (t : Vs.Sp) :
    Calls Tryz.prog 13 #[.pointer (some ⟨p, 0, none⟩), .slice a n c, .agg #[.string lo, .string hi], .agg #[.int .u64 t.a, .int .u32 t.b, .int .u32 t.c]] w fun e w' => e = .returned (.bool true) ∧ Below w.heap.size w w' := by
  obtain ⟨wx, hwx⟩ : ∃ wx, wx = (w.alloc (.cells #[.string lo, .string hi] 25)).alloc (.cells #[.int .u64 t.a, .int .u32 t.b, .int .u32 t.c] 28) := ⟨_, rfl⟩
  have hbx : Below w.heap.size w wx := by rw [hwx]; exact Below.al (Below.al (Below.refl _ _) _) _
  have x0 : wx.cell? ⟨w.heap.size, 0, none⟩ = some (.string lo) := by rw [hwx]; simp [go_sem]
  have x1 : wx.cell? ⟨w.heap.size, 1, none⟩ = some (.string hi) := by rw [hwx]; simp [go_sem]
  have c0 : wx.cell? ⟨w.heap.size + 1, 0, none⟩ = some (.int .u64 t.a) := by rw [hwx]; simp [go_sem]
  have c1 : wx.cell? ⟨w.heap.size + 1, 1, none⟩ = some (.int .u32 t.b) := by rw [hwx]; simp [go_sem]
  have c2 : wx.cell? ⟨w.heap.size + 1, 2, none⟩ = some (.int .u32 t.c) := by rw [hwx]; simp [go_sem]
  have HX := hid (And.intro x0 (And.intro x1 (And.intro c0 (And.intro c1 c2))))
  have HS := hid (S.later hbx)
  have hcnt : Vs.countM s.M ≤ 268435456 := by
    obtain ⟨R, H⟩ := S.hist
    exact H.cnt28 (by rw [List.length_map, S.un]; have := S.ul; omega)
  have RD := hid (HS.out.st.read hcnt lo hi t)
  obtain ⟨E, hE⟩ : ∃ E, Vs.rdE s.M s.wm lo hi t = E := ⟨_, rfl⟩
  obtain ⟨l, hl⟩ : ∃ l, Vs.rdL s.M s.wm lo hi t = l := ⟨_, rfl⟩
  rw [hE, hl] at RD
  obtain ⟨L, hL⟩ : ∃ L, t.lt s.wm = L := ⟨_, rfl⟩
  obtain ⟨W0, hW0⟩ : ∃ W0, Vs.rangeX (ser (U.map Cv.c) t) lo hi = W0 := ⟨_, rfl⟩
  have HOLD : Hid (L = true → E = 90 ∧ l = []) := hid fun h => by rw [← hE, ← hl]; exact rd_old (hL.trans h)
  have HNEW : Hid (L = false → E = (if 512 < W0.length then 142 else 0) ∧ l = (if 512 < W0.length then [] else W0)) := hid fun h => by
    obtain ⟨R, H⟩ := S.hist
    have := H.rd (lo := lo) (hi := hi) (hL.trans h)
    rw [hE, hl, hW0] at this
    exact this
  obtain ⟨ma, mb, mc, hwm⟩ : ∃ a b c, s.wm = ⟨a, b, c⟩ := ⟨_, _, _, rfl⟩
  have HL : Hid (lessB t.a t.b t.c ma mb mc = L) := hid (by rw [← hL, hwm]; rfl)
  have HWM := hid hwm
  have HW0 := hid hW0
  have HBX := hid hbx
  have hsx := hbx.size
  clear S hbx hcnt hE hl hL hW0 hwm
  go_enter Tryz.func13, Tryz.ntmps13
  go_wp2_with fail
  rw [← hwx]
  clear hwx
  refine RD.out.mono ?_
  rintro e w1 ⟨a2, n2, d2, rfl, HG, hb1⟩
  have HS1 := hid (HS.out.later hb1)
  have HB1 := hid hb1
  have y0 := cell_later hb1 x0; have y1 := cell_later hb1 x1; have z0 := cell_later hb1 c0; have z1 := cell_later hb1 c1; have z2 := cell_later hb1 c2
  have k0 := cell_regrown z0; have k1 := cell_regrown z1; have k2 := cell_regrown z2
  have WM : Hid (∀ W, Below w1.heap.size w1 W → Calls Tryz.prog 17 #[.pointer (some ⟨p, 0, none⟩)] W fun e w' => e = .returned (.agg #[.int .u64 ma, .int .u32 mb, .int .u32 mc]) ∧ Below W.heap.size W w') := hid fun W hb => (HS1.out.st.later hb).wmark' HWM.out
  clear RD hb1 x0 x1 c0 c1 c2
  go_wp2_with fail
  refine wp_region_quiet_below (by kernel_rfl) (by kernel_rfl) ?_
  repeat (go_big_quiet_step (first | (go_at_call 17; exact Calls.regrown_of (WM.out _ (below_regrown _ _ _))) | (go_at_call 9; exact Calls.regrown_of (less_is HL.out _))))
  refine wpQuiet_nil ?_
  intro w2 hb2
  replace hb2 := below_of_regrown hb2
  have HS2 := hid (HS1.out.later hb2)
  have HB2 := hid (Below.on HB1.out hb2)
  have HG2 := hid (HG.out.later hb2)
  have y0 := cell_later hb2 y0; have y1 := cell_later hb2 y1; have z0 := cell_later hb2 z0; have z1 := cell_later hb2 z1; have z2 := cell_later hb2 z2
  clear k0 k1 k2 hb2 HL WM HG HS1
  cases L
  · obtain ⟨hE, hl⟩ := HNEW.out rfl
    have HEL := hid (And.intro hE hl)
    have SR := hid (serial_is HS2.out.cs HS2.out.un HS2.out.ul HS2.out.cw lo hi t)
    rw [HW0.out] at SR
    clear hE hl HNEW HOLD
    go_wp2_with fail
    refine SR.out.mono ?_
    rintro e w3 ⟨a3, n3, d3, rfl, HQ, hb3⟩
    have HG3 := hid (HG2.out.later hb3)
    have HB3 := hid (Below.on HB2.out hb3)
    clear SR hb3 y0 y1 z0 z1 z2
    by_cases hbig : 512 < n3
    · have hb' : 512 < W0.length := by rw [← HQ.out.1]; exact hbig
      obtain ⟨rfl, rfl⟩ : E = 142 ∧ l = [] := by
        have := HEL.out
        rw [if_pos hb', if_pos hb'] at this
        exact this
      have hn2 : n2 = 0 := HG3.out.1
      subst hn2
      clear hb'
      go_wp2_with fail
      go_ret
      exact ⟨rfl, Below.on HBX.out HB3.out⟩
    · have hb' : ¬ 512 < W0.length := by rw [← HQ.out.1]; exact hbig
      obtain ⟨rfl, rfl⟩ : E = 0 ∧ l = W0 := by
        have := HEL.out
        rw [if_neg hb', if_neg hb'] at this
        exact this
      have SP := hid (same_is HG3.out HQ.out (by omega))
      clear hb'
      go_wp2_with fail
      refine SP.out.mono ?_
      rintro e w4 ⟨rfl, hb4⟩
      have HB4 := hid (Below.on HB3.out hb4)
      clear SP hb4
      go_wp2_with fail
      go_ret
      exact ⟨rfl, Below.on HBX.out HB4.out⟩
  · obtain ⟨rfl, rfl⟩ := HOLD.out rfl
    have hn2 : n2 = 0 := HG2.out.1
    subst hn2
    go_wp2_with fail
    go_ret
    exact ⟨rfl, Below.on HBX.out HB2.out⟩

set_option maxRecDepth 16000 in
set_option maxHeartbeats 4000000 in
theorem law_serial {w : World} {x : Pa} (hL : RowG w x.la x.ls) (hl : x.ls.length ≤ 1048576) :
    Calls Tryz.prog 4 #[x.val] w fun e w' => e = .returned (.bool true) ∧ Below w.heap.size w w' := by
  obtain ⟨wx, hwx⟩ : ∃ wx, wx = w.alloc (.cells x.cells 30) := ⟨_, rfl⟩
  have hbx : Below w.heap.size w wx := by rw [hwx]; exact Below.al (Below.refl _ _) _
  have BP : BoxP wx w.heap.size x := by rw [hwx]; exact boxP w x _
  have x0 := BP.c0; have x1 := BP.c1; have x2 := BP.c2; have x3 := BP.c3; have x4 := BP.c4; have x5 := BP.c5; have x6 := BP.c6; have x7 := BP.c7
  have HI := hid (history_is (hL.later hbx) hl)
  have HBX := hid hbx
  clear hL hbx BP
  go_enter Tryz.func4, Tryz.ntmps4
  go_wp2_with fail
  rw [← hwx]
  clear hwx
  refine HI.out.mono ?_
  rintro e w1 ⟨p, a, n, c, rfl, HO, hb1⟩
  obtain ⟨B, s, U, R, hB1, hB2, T, hC, hUn, hW, hH, hn, hRn⟩ := HO.out
  have HS1 : Hid (Srl B w1 p s U a n c) := hid ⟨T, hC, hUn, hn, fun v hv => ⟨(hW v hv).row, Vs.writes_len (hH.cok v.c (List.mem_map.2 ⟨v, hv, rfl⟩)).2.2⟩, R, hH⟩
  have HB1 := hid hb1
  obtain ⟨w2, hw2⟩ : ∃ w2, w2 = w1.alloc (.cells #[.string ⟨#[]⟩, .string ⟨#[]⟩] 25) := ⟨_, rfl⟩
  have hb2 : Below w1.heap.size w1 w2 := by rw [hw2]; exact Below.al (Below.refl _ _) _
  have obs : w2.heap[w1.heap.size]? = some (.cells #[.string ⟨#[]⟩, .string ⟨#[]⟩] 25 (0, 0)) := by rw [hw2]; exact World.alloc_heap_new _ _
  have HS2 := hid (HS1.out.later hb2)
  have HB2 := hid (Below.on hb1 hb2)
  have HOB := hid obs
  have y2 := cell_later HB2.out x2; have y3 := cell_later HB2.out x3; have y4 := cell_later HB2.out x4; have y5 := cell_later HB2.out x5; have y6 := cell_later HB2.out x6
  have RD := hid (reads_is HS2.out x.lo x.hi x.t)
  obtain ⟨q, hq⟩ : ∃ q, q = w1.heap.size := ⟨_, rfl⟩
  rw [← hq] at HOB
  have HQ := hid hq
  clear HI HO T hC hUn hW hH hb1 hB1 hB2 x0 x1 x2 x3 x4 x5 x6 x7 hRn hb2 obs HS1 HB1 hq
  go_upto_region 5 with fail
  rw [← hw2, ← HQ.out]
  clear hw2 HQ
  go_wp2_with fail
  refine RD.out.mono ?_
  rintro e w3 ⟨rfl, hb3⟩
  have HS3 := hid (HS2.out.later hb3)
  have HB3 := hid (Below.on HB2.out hb3)
  have hql : q < w2.heap.size := (Array.getElem?_eq_some_iff.1 HOB.out).1
  have HOB3 := hid ((hb3.block _ hql).trans HOB.out)
  clear RD hb3 y2 y3 y4 y5 y6 HS2 HB2 HOB hql
  go_wp2_with fail
  go_loopg [6, 7] n (fun g s6 s7 wr => ∃ i : Nat, i ≤ n ∧ g = n - i ∧ s7 = .int .i64 i ∧ s6 = .bool true ∧ Hid (Below w3.heap.size w3 wr))
  case atStart => exact ⟨0, by omega, by omega, rfl, rfl, hid (Below.refl _ _)⟩
  case round =>
    obtain ⟨i, hi, rfl, rfl, rfl, HB⟩ := hrel
    have obr : wr.heap[q]? = some (.cells #[.string ⟨#[]⟩, .string ⟨#[]⟩] 25 (0, 0)) := (HB.out.block _ (Array.getElem?_eq_some_iff.1 HOB3.out).1).trans HOB3.out
    have q0 : wr.cell? ⟨q, 0, none⟩ = some (.string ⟨#[]⟩) := Vs.cell_of_obj obr rfl
    have q1 : wr.cell? ⟨q, 1, none⟩ = some (.string ⟨#[]⟩) := Vs.cell_of_obj obr rfl
    have HSR := hid (HS3.out.later HB.out)
    by_cases hlt : i < n
    · obtain ⟨v, hv⟩ : ∃ v, U[i]? = some v := ⟨U[i]'(by rw [HSR.out.un]; exact hlt), by simp⟩
      obtain ⟨g0, hg0, CA⟩ := HSR.out.cs.at hv hlt
      have k0 := cell_regrown CA.c0; have k1 := cell_regrown CA.c1; have k2 := cell_regrown CA.c2
      have k3 := cell_regrown q0; have k4 := cell_regrown q1
      have RS : Hid (∀ W, Below wr.heap.size wr W → Calls Tryz.prog 13 #[.pointer (some ⟨p, 0, none⟩), .slice a n c, .agg #[.string ⟨#[]⟩, .string ⟨#[]⟩], .agg #[.int .u64 v.c.t.a, .int .u32 v.c.t.b, .int .u32 v.c.t.c]] W fun e w' => e = .returned (.bool true) ∧ Below W.heap.size W w') := hid fun W hb => reads_is (HSR.out.later hb) ⟨#[]⟩ ⟨#[]⟩ v.c.t
      subst hg0
      clear CA hv obr q0 q1
      go_wp2_with fail
      refine wp_region_quiet_below (by kernel_rfl) (by kernel_rfl) ?_
      repeat (go_big_quiet_step ((go_at_call 13; exact Calls.regrown_of (RS.out _ (below_regrown _ _ _)))))
      refine wpQuiet_nil ?_
      intro wq hq
      replace hq := below_of_regrown hq
      have HBQ := hid (Below.on HB.out hq)
      clear k0 k1 k2 k3 k4 hq RS
      go_wp2_with fail
      go_roundg (n - (i + 1))
      case measure => omega
      case rel => exact ⟨i + 1, by omega, rfl, by go_num, rfl, HBQ⟩
    · obtain rfl : n = i := by omega
      have RS := hid (reads_is HSR.out ⟨#[]⟩ ⟨#[]⟩ ⟨18446744073709551615, 0, 0⟩)
      have HBF := hid (Below.on HB3.out HB.out)
      go_wp2_with fail
      refine RS.out.mono ?_
      rintro e w9 ⟨rfl, hb9⟩
      have HB9 := hid (Below.on HBF.out hb9)
      clear RS hb9
      go_wp2_with fail
      go_ret
      exact ⟨rfl, Below.on HBX.out HB9.out⟩
end Go.Proofs.YtfdbffadajepfaaGreat.Ys
namespace Go.Proofs.YtfdbffadajepfaaGreat
open Go.ChangeShapes Go.WideShapes Go.ChangeAt Go.RowKit Go.Deep Ys
set_option maxRecDepth 100000 in
theorem opened_stateSerial {H : Type} {enc : TypeId × Value → H} {W : World} {r : Reach} {b : Nat} {v : Value} {d : DataW H} {p : List MemPlace}
    (hv : Value.okWide Tryz.prog W r b 30 v) (h : DataW.Trod enc Tryz.prog W 0 (fun _ => true) true 30 v d p) (hk : Rows.uptoBulk d ≤ 1048576) :
    Calls Tryz.prog 4 #[v] W fun e w' => e = .returned (.bool true) ∧ Below W.heap.size W w' := by
  obtain ⟨x, rfl, h1, h2, h3, h4, _⟩ := open_past hv h hk
  exact law_serial h1 h2
end Go.Proofs.YtfdbffadajepfaaGreat
