import Derived.Test.YtfdbffadajepfaaGreatB36
import Derived.Test.YtfdbffadajepfaaGreatB26
/- stale; Check. -/
namespace Go.Proofs.YtfdbffadajepfaaGreat.Ys
open Go.RowKit Go.Sort Go.Shelf
set_option linter.unusedVariables false

/-- has a key of the span a version above the stamp? -/
def stB (s : Ps) (t : Vs.Sp) (x : T2) : Bool := Vs.abB s.M x.1 x.2 t
section
variable {F : Nat → Prop} {w : World} {p : Nat} {m1 m2 m : Option Nat} {V : List Lk.Hv} {I : Lk.It} {s : Ps}
theorem pred_stale (T : St F w p m1 m2 m V I s) (hn : Vs.countM s.M ≤ 268435456) (t : Vs.Sp) {B C : Nat} (hB : w.cell? ⟨B, 0, none⟩ = some (.pointer (some ⟨p, 1, none⟩)))
    (hC0 : w.cell? ⟨C, 0, none⟩ = some (.int .u64 t.a)) (hC1 : w.cell? ⟨C, 1, none⟩ = some (.int .u32 t.b)) (hC2 : w.cell? ⟨C, 2, none⟩ = some (.int .u32 t.c)) (W : World) (x : T2) (hb : Below w.heap.size w W) :
    Calls Tryz.prog 69 #[.agg #[.string x.1, .string x.2], .pointer (some ⟨B, 0, none⟩), .pointer (some ⟨C, 0, none⟩)] W fun e w' => e = .returned (.bool (stB s t x)) ∧ Below w.heap.size w w' := by
  obtain ⟨wx, hwx⟩ : ∃ wx, wx = W.alloc (.cells #[.string x.1, .string x.2] 25) := ⟨_, rfl⟩
  have hbx : Below w.heap.size w wx := by rw [hwx]; exact Below.al hb _
  have x0 : wx.cell? ⟨W.heap.size, 0, none⟩ = some (.string x.1) := by rw [hwx]; simp [go_sem]
  have x1 : wx.cell? ⟨W.heap.size, 1, none⟩ = some (.string x.2) := by rw [hwx]; simp [go_sem]
  have b0 := cell_later hbx hB
  have c0 := cell_later hbx hC0; have c1 := cell_later hbx hC1; have c2 := cell_later hbx hC2
  have k0 := cell_regrown x0; have k5 := cell_regrown x1; have k1 := cell_regrown b0; have k2 := cell_regrown c0; have k3 := cell_regrown c1; have k4 := cell_regrown c2
  have AB : Hid (∀ W', Below wx.heap.size wx W' → Calls Tryz.prog 70 #[.pointer (some ⟨p, 5, none⟩), .agg #[.string x.1, .string x.2], .agg #[.int .u64 t.a, .int .u32 t.b, .int .u32 t.c]] W' fun e w' => e = .returned (.bool (stB s t x)) ∧ Below W'.heap.size W' w') := hid fun W' hb' => Vs.above_is (T.later (Below.on hbx hb')).st x.1 x.2 t hn
  obtain ⟨u, hu⟩ : ∃ u, stB s t x = u := ⟨_, rfl⟩
  rw [hu] at AB ⊢
  have HBX := hid hbx
  clear T hn hB hC0 hC1 hC2 hbx hb hu
  go_enter Tryz.func69, Tryz.ntmps69
  go_wp2_with fail
  rw [← hwx]
  clear hwx
  refine wp_region_quiet_below (by kernel_rfl) (by kernel_rfl) ?_
  repeat (go_big_quiet_step ((go_at_call 70; exact Calls.regrown_of (AB.out _ (below_regrown _ _ _)))))
  refine wpQuiet_nil ?_
  intro wq hq
  replace hq := below_of_regrown hq
  go_wp2_with fail
  go_ret
  exact ⟨rfl, Below.on HBX.out hq⟩
theorem cont_stale (T : St F w p m1 m2 m V I s) (hn : Vs.countM s.M ≤ 268435456) (t : Vs.Sp) {B C : Nat} (hB : w.cell? ⟨B, 0, none⟩ = some (.pointer (some ⟨p, 1, none⟩)))
    (hC0 : w.cell? ⟨C, 0, none⟩ = some (.int .u64 t.a)) (hC1 : w.cell? ⟨C, 1, none⟩ = some (.int .u32 t.b)) (hC2 : w.cell? ⟨C, 2, none⟩ = some (.int .u32 t.c)) {a : Option Addr} {c : Nat} {rs : List T2} (hw : Row2 w a rs) (hl : rs.length ≤ 9223372036854775807) :
    Calls Tryz.prog 68 #[.slice a rs.length c, .func (.func 69) #[] #[.pointer (some ⟨B, 0, none⟩), .pointer (some ⟨C, 0, none⟩)]] w fun e w' => e = .returned (.bool (rs.any (stB s t))) ∧ Below w.heap.size w w' := by
  by_cases h0 : rs.length = 0
  · rw [h0, List.eq_nil_of_length_eq_zero h0]
    exact Lk.contS_nil a c _ _
  · have eg : ∀ args w, (callFunc 69 args).run Tryz.prog w = .ok (.enter 69 args) w := enters_of Tryz.func69 (by kernel_rfl) rfl
    obtain ⟨b, off, rfl, hlt, hc⟩ := Lk.row2_cells hw (by omega)
    have hcon := AnyQ.slices_ContainsFunc Tryz.contS 2 Tryz.isAgg25 Tryz.sizeOf25 Lk.encS (fun _ => rfl) (stB s t) 69 #[.pointer (some ⟨B, 0, none⟩), .pointer (some ⟨C, 0, none⟩)] eg b off rs.length c rs w
      (fun W x hb => pred_stale T hn t hB hC0 hC1 hC2 W x hb) (Nat.le_refl _) hl hlt hc
    change Calls Tryz.prog 68 _ _ _ at hcon
    rw [List.take_of_length_le (Nat.le_refl _)] at hcon
    exact hcon
theorem stale_is (T : St F w p m1 m2 m V I s) (hn : Vs.countM s.M ≤ 268435456) (t : Vs.Sp) {a : Option Addr} {c : Nat} {rs : List T2} (hw : Row2 w a rs) (hl : rs.length ≤ 9223372036854775807) :
    Calls Tryz.prog 39 #[cp p, .slice a rs.length c, .agg #[.int .u64 t.a, .int .u32 t.b, .int .u32 t.c]] w fun e w' => e = .returned (.bool (rs.any (stB s t))) ∧ Below w.heap.size w w' := by
  obtain ⟨wx, hwx⟩ : ∃ wx, wx = (w.alloc (.cells #[.pointer (some ⟨p, 1, none⟩)] 122)).alloc (.cells #[.int .u64 t.a, .int .u32 t.b, .int .u32 t.c] 28) := ⟨_, rfl⟩
  have hbx : Below w.heap.size w wx := by rw [hwx]; exact Below.al (Below.al (Below.refl _ _) _) _
  have b0 : wx.cell? ⟨w.heap.size, 0, none⟩ = some (.pointer (some ⟨p, 1, none⟩)) := by rw [hwx]; simp [go_sem]
  have c0 : wx.cell? ⟨w.heap.size + 1, 0, none⟩ = some (.int .u64 t.a) := by rw [hwx]; simp [go_sem]
  have c1 : wx.cell? ⟨w.heap.size + 1, 1, none⟩ = some (.int .u32 t.b) := by rw [hwx]; simp [go_sem]
  have c2 : wx.cell? ⟨w.heap.size + 1, 2, none⟩ = some (.int .u32 t.c) := by rw [hwx]; simp [go_sem]
  have CT := hid (cont_stale (c := c) (T.later hbx) hn t b0 c0 c1 c2 (hw.later hbx) hl)
  obtain ⟨u, hu⟩ : ∃ u, rs.any (stB s t) = u := ⟨_, rfl⟩
  rw [hu] at CT ⊢
  obtain ⟨n, hnn⟩ : ∃ n, rs.length = n := ⟨_, rfl⟩
  rw [hnn] at CT ⊢
  have HBX := hid hbx
  clear T hn hw hl hbx hu b0 c0 c1 c2 hnn
  go_enter Tryz.func39, Tryz.ntmps39
  go_wp2_with fail
  rw [← hwx]
  clear hwx
  refine CT.out.mono ?_
  rintro e w2 ⟨rfl, hb2⟩
  have HB2 := hid (Below.on HBX.out hb2)
  clear CT hb2
  go_wp2_with fail
  go_ret
  exact ⟨rfl, HB2.out⟩
/-- what Check answers -/
def chk (s : Ps) (i : Lk.Ix) (t : Vs.Sp) (rs : List T2) (ws : List Wr) : Int :=
  if (Lg.outM s.E i).isSome then 110 else if Lk.hasB s.H i then 101 else if t.a = 18446744073709551615 then 11 else if decide (0 < rs.length) && t.lt s.wm then 90 else if Lk.confl s.H i rs ws then 100 else if rs.any (stB s t) then 141 else 0

set_option maxHeartbeats 2000000 in
theorem check_is (T : St F w p m1 m2 m V I s) (hn : Vs.countM s.M ≤ 268435456) (i : Lk.Ix) (t : Vs.Sp) {ra wa : Option Addr} {rc wc : Nat} {rs : List T2} {ws : List Wr} (hr : Row2 w ra rs) (hw : RowW w wa ws) (hlr : rs.length ≤ 9223372036854775807) (hlw : ws.length ≤ 9223372036854775807) :
    Calls Tryz.prog 18 #[sp p, .agg #[.int .u32 i.1, .int .u32 i.2], .agg #[.int .u64 t.a, .int .u32 t.b, .int .u32 t.c], .slice ra rs.length rc, .slice wa ws.length wc] w fun e w' => e = .returned (.int .i64 (chk s i t rs ws)) ∧ Below w.heap.size w w' := by
  obtain ⟨wx, hwx⟩ : ∃ wx, wx = (w.alloc (.cells #[.int .u32 i.1, .int .u32 i.2] 43)).alloc (.cells #[.int .u64 t.a, .int .u32 t.b, .int .u32 t.c] 28) := ⟨_, rfl⟩
  have hbx : Below w.heap.size w wx := by rw [hwx]; exact Below.al (Below.al (Below.refl _ _) _) _
  have x0 : wx.cell? ⟨w.heap.size, 0, none⟩ = some (.int .u32 i.1) := by rw [hwx]; simp [go_sem]
  have x1 : wx.cell? ⟨w.heap.size, 1, none⟩ = some (.int .u32 i.2) := by rw [hwx]; simp [go_sem]
  have c0 : wx.cell? ⟨w.heap.size + 1, 0, none⟩ = some (.int .u64 t.a) := by rw [hwx]; simp [go_sem]
  have c1 : wx.cell? ⟨w.heap.size + 1, 1, none⟩ = some (.int .u32 t.b) := by rw [hwx]; simp [go_sem]
  have c2 : wx.cell? ⟨w.heap.size + 1, 2, none⟩ = some (.int .u32 t.c) := by rw [hwx]; simp [go_sem]
  have HX := hid (And.intro x0 (And.intro x1 (And.intro c0 (And.intro c1 c2))))
  have HT := hid (T.later hbx)
  obtain ⟨D, hD⟩ : ∃ D, (Lg.outM s.E i).isSome = D := ⟨_, rfl⟩
  obtain ⟨H, hH⟩ : ∃ H, Lk.hasB s.H i = H := ⟨_, rfl⟩
  obtain ⟨L, hL⟩ : ∃ L, t.lt s.wm = L := ⟨_, rfl⟩
  obtain ⟨C, hC⟩ : ∃ C, Lk.confl s.H i rs ws = C := ⟨_, rfl⟩
  obtain ⟨A, hA⟩ : ∃ A, rs.any (stB s t) = A := ⟨_, rfl⟩
  obtain ⟨n, hnn⟩ : ∃ n, rs.length = n := ⟨_, rfl⟩
  obtain ⟨k, hkk⟩ : ∃ k, ws.length = k := ⟨_, rfl⟩
  have DC : Hid (∀ W, Below wx.heap.size wx W → Calls Tryz.prog 36 #[.pointer (some ⟨p, 1, none⟩), .agg #[.int .u32 i.1, .int .u32 i.2]] W fun e w' => e = .returned (.bool D) ∧ Below W.heap.size W w') := hid fun W hb => by
    have := decided_is (HT.out.later hb) i
    rw [hD] at this
    exact this
  have HO : Hid (∀ W, Below wx.heap.size wx W → Calls Tryz.prog 37 #[.pointer (some ⟨p, 1, none⟩), .agg #[.int .u32 i.1, .int .u32 i.2]] W fun e w' => e = .returned (.bool H) ∧ Below W.heap.size W w') := hid fun W hb => by
    have := holds_is (HT.out.later hb) i
    rw [hH] at this
    exact this
  obtain ⟨ma, mb, mc, hwm⟩ : ∃ a b c, s.wm = ⟨a, b, c⟩ := ⟨_, _, _, rfl⟩
  have WM : Hid (∀ W, Below wx.heap.size wx W → Calls Tryz.prog 17 #[.pointer (some ⟨p, 0, none⟩)] W fun e w' => e = .returned (.agg #[.int .u64 ma, .int .u32 mb, .int .u32 mc]) ∧ Below W.heap.size W w') := hid fun W hb => by
    refine (Watermark_is (HT.out.later hb)).mono ?_
    rintro e w' ⟨he, h⟩
    exact ⟨by rw [he, hwm], h⟩
  have hL' : lessB t.a t.b t.c ma mb mc = L := by rw [← hL, hwm]; rfl
  have HL := hid hL'
  have CF : Hid (∀ W, Below wx.heap.size wx W → Calls Tryz.prog 38 #[.pointer (some ⟨p, 2, none⟩), .agg #[.int .u32 i.1, .int .u32 i.2], .slice ra n rc, .slice wa k wc] W fun e w' => e = .returned (.bool C) ∧ Below W.heap.size W w') := hid fun W hb => by
    have hBW := Below.on hbx hb
    rw [← hnn, ← hkk]
    exact Lk.conflict_is (rc := rc) (wc := wc) (i := i) (by rw [T.h]; exact hC) (HT.out.later hb).tb (hr.later hBW) (hw.later hBW) hlr hlw
  have ST : Hid (∀ W, Below wx.heap.size wx W → Calls Tryz.prog 39 #[.pointer (some ⟨p, 1, none⟩), .slice ra n rc, .agg #[.int .u64 t.a, .int .u32 t.b, .int .u32 t.c]] W fun e w' => e = .returned (.bool A) ∧ Below W.heap.size W w') := hid fun W hb => by
    have := stale_is (c := rc) (HT.out.later hb) hn t (hr.later (Below.on hbx hb)) hlr
    rw [hA, hnn] at this
    exact this
  have hln : (n : Int) ≤ 9223372036854775807 := by omega
  have HE : Hid (chk s i t rs ws = if D then 110 else if H then 101 else if t.a = 18446744073709551615 then 11 else if decide (0 < n) && L then 90 else if C then 100 else if A then 141 else 0) := hid (by unfold chk; rw [hD, hH, hL, hC, hA, hnn])
  rw [hnn, hkk]
  have HBX := hid hbx
  clear T hbx hn hr hw hlr hlw hD hH hL hL' hC hA hnn hkk hwm x0 x1 c0 c1 c2
  go_enter Tryz.func18, Tryz.ntmps18
  go_wp2_with fail
  rw [← hwx]
  clear hwx
  have k0 := cell_regrown HX.out.1; have k1 := cell_regrown HX.out.2.1
  refine wp_region_quiet_below (by kernel_rfl) (by kernel_rfl) ?_
  repeat (go_big_quiet_step ((go_at_call 36; exact Calls.regrown_of (DC.out _ (below_regrown _ _ _)))))
  refine wpQuiet_nil ?_
  intro w1 hb1
  replace hb1 := below_of_regrown hb1
  have HB1 := hid hb1
  clear k0 k1
  cases D
  · have k0 := cell_regrown (cell_later hb1 HX.out.1); have k1 := cell_regrown (cell_later hb1 HX.out.2.1)
    clear DC hb1
    go_wp2_with fail
    refine wp_region_quiet_below (by kernel_rfl) (by kernel_rfl) ?_
    repeat (go_big_quiet_step ((go_at_call 37; exact Calls.regrown_of (HO.out _ (Below.on HB1.out (below_regrown _ _ _))))))
    refine wpQuiet_nil ?_
    intro w2 hb2
    replace hb2 := below_of_regrown hb2
    have HB2 := hid (Below.on HB1.out hb2)
    clear k0 k1 HO hb2
    cases H
    · have d0 := cell_later HB2.out HX.out.2.2.1; have d1 := cell_later HB2.out HX.out.2.2.2.1; have d2 := cell_later HB2.out HX.out.2.2.2.2
      have y0 := cell_later HB2.out HX.out.1; have y1 := cell_later HB2.out HX.out.2.1
      by_cases ht : t.a = 18446744073709551615
      · have ht' : (t.a == 18446744073709551615) = true := by simpa using ht
        have HF : Hid (chk s i t rs ws = 11) := hid (by rw [HE.out]; simp [ht])
        clear ht HE
        go_wp2_with fail
        go_ret
        exact ⟨by rw [HF.out]; rfl, Below.on HBX.out HB2.out⟩
      · have ht' : (t.a == 18446744073709551615) = false := by simpa using ht
        have HF : Hid (chk s i t rs ws = if decide (0 < n) && L then 90 else if C then 100 else if A then 141 else 0) := hid (by rw [HE.out]; simp [ht])
        obtain ⟨P, hP⟩ : ∃ P, decide (0 < n) = P := ⟨_, rfl⟩
        have e1 : decide ((0 : Int) < (n : Int)) = P := by rw [← hP]; simp
        have e2 : decide ((n : Int) > 0) = P := by rw [← hP]; simp
        rw [hP] at HF
        have k0 := cell_regrown d0; have k1 := cell_regrown d1; have k2 := cell_regrown d2
        clear ht HE y0 y1
        go_wp2_with fail
        go_cut [27] (fun s27 wz => ∃ w3, w3 = wz ∧ s27 = .bool (P && L) ∧ Below wx.heap.size wx w3)
        case first =>
          cases P
          · refine wp_region_quiet_below (by kernel_rfl) (by kernel_rfl) ?_
            repeat (go_big_quiet_step (fail))
            refine wpQuiet_nil ?_
            intro w3 hb3
            replace hb3 := below_of_regrown hb3
            go_wp2_with fail
            go_meet
            exact ⟨_, rfl, rfl, Below.on HB2.out hb3⟩
          · refine wp_region_quiet_below (by kernel_rfl) (by kernel_rfl) ?_
            repeat (go_big_quiet_step (first | (go_at_call 17; exact Calls.regrown_of (WM.out _ (Below.on HB2.out (below_regrown _ _ _)))) | (go_at_call 9; exact Calls.regrown_of (less_is HL.out _))))
            refine wpQuiet_nil ?_
            intro w3 hb3
            replace hb3 := below_of_regrown hb3
            go_wp2_with fail
            go_meet
            exact ⟨_, rfl, rfl, Below.on HB2.out hb3⟩
        case rest =>
          obtain ⟨w3, rfl, rfl, hb3⟩ := hcut
          have HB3 := hid hb3
          clear k0 k1 k2 d0 d1 d2 hb3 e1 e2 hP WM HL
          generalize hPL : (P && L) = PL at *
          cases PL
          · have k0 := cell_regrown (cell_later HB3.out HX.out.1); have k1 := cell_regrown (cell_later HB3.out HX.out.2.1)
            have HF2 : Hid (chk s i t rs ws = if C then 100 else if A then 141 else 0) := hid (by rw [HF.out]; rfl)
            clear HF
            go_wp2_with fail
            refine wp_region_quiet_below (by kernel_rfl) (by kernel_rfl) ?_
            repeat (go_big_quiet_step ((go_at_call 38; exact Calls.regrown_of (CF.out _ (Below.on HB3.out (below_regrown _ _ _))))))
            refine wpQuiet_nil ?_
            intro w4 hb4
            replace hb4 := below_of_regrown hb4
            have HB4 := hid (Below.on HB3.out hb4)
            clear k0 k1 hb4 CF
            cases C
            · have k0 := cell_regrown (cell_later HB4.out HX.out.2.2.1); have k1 := cell_regrown (cell_later HB4.out HX.out.2.2.2.1); have k2 := cell_regrown (cell_later HB4.out HX.out.2.2.2.2)
              have HF3 : Hid (chk s i t rs ws = if A then 141 else 0) := hid (by rw [HF2.out]; rfl)
              clear HF2
              go_wp2_with fail
              refine wp_region_quiet_below (by kernel_rfl) (by kernel_rfl) ?_
              repeat (go_big_quiet_step ((go_at_call 39; exact Calls.regrown_of (ST.out _ (Below.on HB4.out (below_regrown _ _ _))))))
              refine wpQuiet_nil ?_
              intro w5 hb5
              replace hb5 := below_of_regrown hb5
              have HB5 := hid (Below.on HB4.out hb5)
              clear k0 k1 k2 hb5 ST
              cases A
              · go_wp2_with fail
                go_ret
                exact ⟨by rw [HF3.out]; rfl, Below.on HBX.out HB5.out⟩
              · go_wp2_with fail
                go_ret
                exact ⟨by rw [HF3.out]; rfl, Below.on HBX.out HB5.out⟩
            · have HF3 : Hid (chk s i t rs ws = 100) := hid (by rw [HF2.out]; rfl)
              clear HF2
              go_wp2_with fail
              go_ret
              exact ⟨by rw [HF3.out]; rfl, Below.on HBX.out HB4.out⟩
          · have HF2 : Hid (chk s i t rs ws = 90) := hid (by rw [HF.out]; rfl)
            clear HF
            go_wp2_with fail
            go_ret
            exact ⟨by rw [HF2.out]; rfl, Below.on HBX.out HB3.out⟩
    · have HF : Hid (chk s i t rs ws = 101) := hid (by rw [HE.out]; rfl)
      clear HE
      go_wp2_with fail
      go_ret
      exact ⟨by rw [HF.out]; rfl, Below.on HBX.out HB2.out⟩
  · have HF : Hid (chk s i t rs ws = 110) := hid (by rw [HE.out]; rfl)
    clear HE hb1
    go_wp2_with fail
    go_ret
    exact ⟨by rw [HF.out]; rfl, Below.on HBX.out HB1.out⟩
end
end Go.Proofs.YtfdbffadajepfaaGreat.Ys
/- Check and a prepare's record, in plain words. -/
namespace Go.Proofs.YtfdbffadajepfaaGreat.Ys
open Go.RowKit Go.Sort
set_option linter.unusedVariables false

theorem jb_lt {t v : Vs.Sp} (ht : OkS t) (hv : OkS v) (h : v.lt t = true) : (jb t).lt v = false := by
  obtain ⟨a, b, c⟩ := t
  obtain ⟨x, y, z⟩ := v
  obtain ⟨⟨h1, h2⟩, ⟨h3, h4⟩, h5, h6⟩ := ht
  obtain ⟨⟨k1, k2⟩, ⟨k3, k4⟩, k5, k6⟩ := hv
  simp only at h1 h2 h3 h4 h5 h6 k1 k2 k3 k4 k5 k6
  have h' := lessB_iff.1 (show lessB x y z a b c = true from h)
  unfold jb
  simp only
  split
  · show lessB a b (c - 1) x y z = false
    rw [lessB_iff_false]; omega
  · split
    · show lessB a (b - 1) 4294967295 x y z = false
      rw [lessB_iff_false]; omega
    · split
      · show lessB (a - 1) 4294967295 4294967295 x y z = false
        rw [lessB_iff_false]; omega
      · show lessB 0 0 0 x y z = false
        rw [lessB_iff_false]; omega
section
variable {s : Ps} {C : List Cm} {R : List Rg}
theorem Hist.stale (H : Hist s C R) (hg : Vs.Good s.M) {t : Vs.Sp} (ht : t.lt s.lc = false) (x : T2) : stB s t x = false := by
  unfold stB
  rw [Vs.ab_dump hg, List.any_eq_false]
  rintro ⟨k, v⟩ hv
  obtain ⟨c, hc, e, _⟩ := H.ver k v hv
  have h1 := Vs.Sp.le_trans (H.le hc) ht
  rw [e] at h1
  simp [h1]
theorem Hist.over (H : Hist s C R) (hg : Vs.Good s.M) {r : Rg} (hr : RgR r) (ht : s.lc.lt (at' r) = true) : ovA s r = false := by
  unfold ovA
  rw [List.any_eq_false]
  intro x _
  unfold ovB
  rw [Vs.ab_dump hg, Bool.not_eq_true, List.any_eq_false]
  rintro ⟨k, v⟩ hv
  obtain ⟨c, hc, e, _⟩ := H.ver k v hv
  have h1 : c.t.lt (at' r) = true := Vs.Sp.le_lt (H.le hc) ht
  have h2 := jb_lt hr.t (H.cok c hc).1 h1
  rw [e] at h2
  simp [h2]
/-- Check, where nothing read has changed -/
theorem Hist.check (H : Hist s C R) (hg : Vs.Good s.M) {t : Vs.Sp} (i : Lk.Ix) (rs : List T2) (ws : List Wr) (h1 : t.lt s.lc = false) (h2 : t.lt s.wm = false) (h3 : t.a ≠ 18446744073709551615) :
    chk s i t rs ws = if (Lg.outM s.E i).isSome then 110 else if Lk.hasB s.H i then 101 else if Lk.confl s.H i rs ws then 100 else 0 := by
  have : rs.any (stB s t) = false := List.any_eq_false.2 fun x _ => by rw [H.stale hg h1 x]; decide
  unfold chk
  rw [if_neg h3, h2, Bool.and_false, this, if_neg (show ¬ (false = true) by decide), if_neg (show ¬ (false = true) by decide)]
/-- the prepare's record, likewise -/
theorem Hist.prep (H : Hist s C R) (hg : Vs.Good s.M) {r : Rg} (hr : RgR r) (ht : s.lc.lt (at' r) = true) (hc : r.w < s.ceil) :
    prpE s r = if (Lg.outM s.E (idR r)).isSome then 130 else if Lk.hasB s.H (idR r) then 130 else if Lk.confl s.H (idR r) r.rs r.ws then 130 else 0 := by
  have ha : acB s (at' r) = true := by unfold acB; rw [H.cm]; exact ht
  unfold prpE
  rw [ha, H.over hg hr ht]
  unfold hldB hldG
  rw [show decide ((hvR r).h.w < s.ceil) = true from decide_eq_true hc]
  show (if (true && !false && (!((Lg.outM s.E (idR r)).isSome || !true) && Lk.holdC s.H (hvR r).h == 0)) = true then (0 : Int) else 130) = _
  cases (Lg.outM s.E (idR r)).isSome with
  | true => rfl
  | false =>
    unfold Lk.holdC Lk.hasB
    by_cases hi : idR r ∈ s.H.map Lk.Hd.id
    · rw [if_pos (show (hvR r).h.id ∈ s.H.map Lk.Hd.id from hi)]
      simp [hi]
    · rw [if_neg (show ¬ (hvR r).h.id ∈ s.H.map Lk.Hd.id from hi)]
      cases hcf : Lk.confl s.H (idR r) r.rs r.ws with
      | true =>
        simp [hi]
      | false =>
        simp [hi]
theorem prep_get {r : Rg} (he : prpE s r = 0) : getH (prpS s r).H (idR r) = some (hvR r).h ∧ Lk.hasB (prpS s r).H (idR r) = true ∧ (Lg.outM (prpS s r).E (idR r)).isSome = false := by
  obtain ⟨_, _, h3, _, h5, _, h7⟩ := prp_yes he
  rw [h7]
  refine ⟨?_, ?_, h3⟩
  · show (s.H ++ [(hvR r).h]).find? _ = _
    rw [List.find?_append]
    have : s.H.find? (fun h => decide (h.id = idR r)) = none := List.find?_eq_none.2 fun x hx => by simpa using fun e => h5 (List.mem_map.2 ⟨x, hx, e⟩)
    rw [this]
    simp
  · show decide (idR r ∈ (s.H ++ [(hvR r).h]).map Lk.Hd.id) = true
    simp
end
end Go.Proofs.YtfdbffadajepfaaGreat.Ys
/- Get; questions to a state at its place. -/
namespace Go.Proofs.YtfdbffadajepfaaGreat.Ys
open Go.RowKit Go.Sort
set_option linter.unusedVariables false

theorem onl_q {q : Nat} {a w : World} (h : Onl (fun b => b = q) a w) (o : Nat) (v : Value) : Onl (fun b => b = q) a (w.setCell ⟨q, o, none⟩ v) := h.set (p := q) rfl o v
section
variable {F : Nat → Prop} {w : World} {p : Nat} {m1 m2 m : Option Nat} {V : List Lk.Hv} {I : Lk.It} {s : Ps}
/-- what is told of a transaction: is it held, and at which stamp? -/
def GotS (s : Ps) (i : Lk.Ix) (u : Lk.Hv) (ok : Bool) : Prop := (ok = true → getH s.H i = some u.h) ∧ (ok = false → getH s.H i = none)
set_option maxHeartbeats 1000000 in
theorem sget_is (T : St F w p m1 m2 m V I s) (i : Lk.Ix) :
    Calls Tryz.prog 19 #[sp p, .agg #[.int .u32 i.1, .int .u32 i.2]] w fun e w' => ∃ (u : Lk.Hv) (ok : Bool), e = .returned (.tuple #[.agg #[.int .u32 u.h.id.1, .int .u32 u.h.id.2, .int .u32 u.h.home, .int .u64 u.h.w, .int .u32 u.h.l, .int .u32 u.h.n, .slice u.ra u.h.rs.length u.rc, .slice u.wa u.h.ws.length u.wc], .bool ok]) ∧ Hid (GotS s i u ok) ∧ Below w.heap.size w w' := by
  obtain ⟨wx, hwx⟩ : ∃ wx, wx = (w.alloc (.cells #[.int .u32 i.1, .int .u32 i.2] 43)).alloc (.cells #[.int .u32 0, .int .u32 0, .int .u32 0, .int .u64 0, .int .u32 0, .int .u32 0, .slice none 0 0, .slice none 0 0] 62) := ⟨_, rfl⟩
  have hbx : Below w.heap.size w wx := by rw [hwx]; exact Below.al (Below.al (Below.refl _ _) _) _
  have x0 : wx.cell? ⟨w.heap.size, 0, none⟩ = some (.int .u32 i.1) := by rw [hwx]; simp [go_sem]
  have x1 : wx.cell? ⟨w.heap.size, 1, none⟩ = some (.int .u32 i.2) := by rw [hwx]; simp [go_sem]
  have hob : wx.heap[w.heap.size + 1]? = some (.cells #[.int .u32 0, .int .u32 0, .int .u32 0, .int .u64 0, .int .u32 0, .int .u32 0, .slice none 0 0, .slice none 0 0] 62 (0, 0)) := by
    rw [hwx, show w.heap.size + 1 = (w.alloc (.cells #[.int .u32 i.1, .int .u32 i.2] 43)).heap.size by simp]
    exact World.alloc_heap_new _ _
  have hlt : w.heap.size + 1 < wx.heap.size := (Array.getElem?_eq_some_iff.1 hob).1
  have GT : Hid (∀ W, Below wx.heap.size wx W → Calls Tryz.prog 40 #[.pointer (some ⟨p, 2, none⟩), .agg #[.int .u32 i.1, .int .u32 i.2]] W fun e w' => ∃ (u : Lk.Hv) (ok : Bool), e = .returned (.tuple #[.agg #[.int .u32 u.h.id.1, .int .u32 u.h.id.2, .int .u32 u.h.home, .int .u64 u.h.w, .int .u32 u.h.l, .int .u32 u.h.n, .slice u.ra u.h.rs.length u.rc, .slice u.wa u.h.ws.length u.wc], .bool ok]) ∧ Hid (GotS s i u ok) ∧ Below W.heap.size W w') := hid fun W hb => by
    refine (got_is (T.later (Below.on hbx hb)) i).mono ?_
    rintro e w' ⟨u, ok, he, hg, hbw⟩
    exact ⟨u, ok, he, hid ⟨hg.out.yes, hg.out.no⟩, hbw⟩
  have HBX := hid hbx
  have HOB := hid hob
  clear T hbx hob
  go_enter Tryz.func19, Tryz.ntmps19
  go_wp2_with fail
  rw [← hwx]
  clear hwx
  have hne : ¬ w.heap.size = w.heap.size + 1 := by omega
  go_region_held3 (fun w' => w'.cell? ⟨w.heap.size, 0, none⟩ = some (.int .u32 i.1) ∧ w'.cell? ⟨w.heap.size, 1, none⟩ = some (.int .u32 i.2) ∧ Onl (fun b => b = w.heap.size + 1) wx w')
    ((refine (fun (hO : Onl (fun b => b = w.heap.size + 1) wx _) => ⟨hO.cell hne x0, hO.cell hne x1, hO⟩) ?_; (repeat (first | with_reducible exact Onl.refl _ _ | with_reducible assumption | with_reducible refine Onl.drew ?_ | with_reducible refine Onl.al ?_ _ | with_reducible refine onl_q ?_ _ _))))
    (first | (go_at_call 40; refine (GT.out _ (by (repeat (first | with_reducible exact Below.refl _ _ | with_reducible assumption | with_reducible refine Below.drew ?_ | with_reducible refine Below.al ?_ _ | with_reducible refine Below.setCell ?_ (by first | exact Nat.le_refl _ | (simp; omega) | (simp; done)) _ | with_reducible refine Below.on ?_ (by assumption))))).mono ?_; rintro e w2 ⟨u, ok, rfl, HG, hb2⟩; have hB2 : Below wx.heap.size wx w2 := (by refine Below.on ?_ hb2; (repeat (first | with_reducible exact Below.refl _ _ | with_reducible assumption | with_reducible refine Below.drew ?_ | with_reducible refine Below.al ?_ _ | with_reducible refine Below.setCell ?_ (by first | exact Nat.le_refl _ | (simp; omega) | (simp; done)) _ | with_reducible refine Below.on ?_ (by assumption)))); have hO2 : Onl (fun b => b = w.heap.size + 1) wx w2 := Onl.of_below hB2; have hk2 := (hB2.block _ hlt).trans HOB.out; have f2 : ∀ o, w2.frozen? ⟨w.heap.size + 1, o, none⟩ = false := (fun o => by simp [World.frozen?, hk2]); have r0 : w2.cell? ⟨w.heap.size + 1, 0, none⟩ = some (.int .u32 0) := Vs.cell_of_obj hk2 rfl; have r1 : w2.cell? ⟨w.heap.size + 1, 1, none⟩ = some (.int .u32 0) := Vs.cell_of_obj hk2 rfl; have r2 : w2.cell? ⟨w.heap.size + 1, 2, none⟩ = some (.int .u32 0) := Vs.cell_of_obj hk2 rfl; have r3 : w2.cell? ⟨w.heap.size + 1, 3, none⟩ = some (.int .u64 0) := Vs.cell_of_obj hk2 rfl; have r4 : w2.cell? ⟨w.heap.size + 1, 4, none⟩ = some (.int .u32 0) := Vs.cell_of_obj hk2 rfl; have r5 : w2.cell? ⟨w.heap.size + 1, 5, none⟩ = some (.int .u32 0) := Vs.cell_of_obj hk2 rfl; have r6 : w2.cell? ⟨w.heap.size + 1, 6, none⟩ = some (.slice none 0 0) := Vs.cell_of_obj hk2 rfl; have r7 : w2.cell? ⟨w.heap.size + 1, 7, none⟩ = some (.slice none 0 0) := Vs.cell_of_obj hk2 rfl; have HK2 := hid hk2; clear hk2))
  all_goals (try go_wp2_with fail)
  all_goals
    obtain ⟨WF, hWF⟩ : ∃ WF, WF = ((((((((w2.setCell ⟨w.heap.size + 1, 0, none⟩ (.int .u32 u.h.id.1)).setCell ⟨w.heap.size + 1, 1, none⟩ (.int .u32 u.h.id.2)).setCell ⟨w.heap.size + 1, 2, none⟩ (.int .u32 u.h.home)).setCell ⟨w.heap.size + 1, 3, none⟩ (.int .u64 u.h.w)).setCell ⟨w.heap.size + 1, 4, none⟩ (.int .u32 u.h.l)).setCell ⟨w.heap.size + 1, 5, none⟩ (.int .u32 u.h.n)).setCell ⟨w.heap.size + 1, 6, none⟩ (.slice u.ra u.h.rs.length u.rc)).setCell ⟨w.heap.size + 1, 7, none⟩ (.slice u.wa u.h.ws.length u.wc)) := ⟨_, rfl⟩
    have bx : BoxH WF (w.heap.size + 1) u := by rw [hWF]; exact boxH_put HK2.out u
    have hbf : Below w.heap.size w WF := by
      rw [hWF]
      repeat (refine Below.setCell ?_ (by simp) _)
      exact Below.on HBX.out hB2
    rw [← hWF]
    have z0 := bx.c0; have z1 := bx.c1; have z2 := bx.c2; have z3 := bx.c3; have z4 := bx.c4; have z5 := bx.c5; have z6 := bx.c6; have z7 := bx.c7
    refine bodyPost_ret (v := .tuple #[.agg #[.int .u32 u.h.id.1, .int .u32 u.h.id.2, .int .u32 u.h.home, .int .u64 u.h.w, .int .u32 u.h.l, .int .u32 u.h.n, .slice u.ra u.h.rs.length u.rc, .slice u.wa u.h.ws.length u.wc], .bool ok]) (by simp [results, Tryz.results19, go_sem, z0, z1, z2, z3, z4, z5, z6, z7]) rfl ⟨u, ok, rfl, HG, hbf⟩
end
section
variable {B : Nat} {w : World} {p : Nat} {s : Ps}
theorem Sta.check (T : Sta B w p s) (hn : Vs.countM s.M ≤ 268435456) (i : Lk.Ix) (t : Vs.Sp) {ra wa : Option Addr} {rc wc : Nat} {rs : List T2} {ws : List Wr} (hr : Row2 w ra rs) (hw : RowW w wa ws) (hlr : rs.length ≤ 9223372036854775807) (hlw : ws.length ≤ 9223372036854775807) :
    Calls Tryz.prog 18 #[sp p, .agg #[.int .u32 i.1, .int .u32 i.2], .agg #[.int .u64 t.a, .int .u32 t.b, .int .u32 t.c], .slice ra rs.length rc, .slice wa ws.length wc] w fun e w' => e = .returned (.int .i64 (chk s i t rs ws)) ∧ Below w.heap.size w w' := by
  obtain ⟨F, m1, m2, m, V, I, T, _⟩ := T
  exact check_is T hn i t hr hw hlr hlw
theorem Sta.get (T : Sta B w p s) (i : Lk.Ix) :
    Calls Tryz.prog 19 #[sp p, .agg #[.int .u32 i.1, .int .u32 i.2]] w fun e w' => ∃ (u : Lk.Hv) (ok : Bool), e = .returned (.tuple #[.agg #[.int .u32 u.h.id.1, .int .u32 u.h.id.2, .int .u32 u.h.home, .int .u64 u.h.w, .int .u32 u.h.l, .int .u32 u.h.n, .slice u.ra u.h.rs.length u.rc, .slice u.wa u.h.ws.length u.wc], .bool ok]) ∧ Hid (GotS s i u ok) ∧ Below w.heap.size w w' := by
  obtain ⟨F, m1, m2, m, V, I, T, _⟩ := T
  exact sget_is T i
theorem Sta.ceil (T : Sta B w p s) : Calls Tryz.prog 15 #[sp p] w fun e w' => e = .returned (.int .u64 s.ceil) ∧ Below w.heap.size w w' := by
  obtain ⟨F, m1, m2, m, V, I, T, _⟩ := T
  exact Ceiling_is T
theorem Sta.wmark (T : Sta B w p s) {a b c : Int} (h : s.wm = ⟨a, b, c⟩) : Calls Tryz.prog 17 #[sp p] w fun e w' => e = .returned (.agg #[.int .u64 a, .int .u32 b, .int .u32 c]) ∧ Below w.heap.size w w' := by
  obtain ⟨F, m1, m2, m, V, I, T, _⟩ := T
  refine (Watermark_is T).mono ?_
  rintro e w' ⟨he, hb⟩
  exact ⟨by rw [he, h], hb⟩
end
end Go.Proofs.YtfdbffadajepfaaGreat.Ys
namespace Go.Proofs.YtfdbffadajepfaaGreat
open Go.RowKit Go.Sort
set_option linter.unusedVariables false

theorem refspan_is {x : T2} {u : Bool} (hu : spanOk x = u) (w : World) :
    Calls Tryz.prog 102 #[.agg #[.string x.1, .string x.2]] w fun e w' => e = .returned (.bool u) ∧ Below w.heap.size w w' := by
  subst hu
  obtain ⟨lo, hi⟩ := x
  go_enter Tryz.func102, Tryz.ntmps102
  go_wp2_with fail
  all_goals go_ret
  all_goals refine ⟨ret_bool ?_, by (repeat (first | exact Below.refl _ _ | assumption | refine Below.drew ?_ | refine Below.al ?_ _ | refine Below.setCell ?_ (by first | exact Nat.le_refl _ | (simp; omega) | (simp; done)) _ | refine Below.on ?_ (by assumption)))⟩
  all_goals simp only [spanOk, emS, ltS]
  all_goals rw [Bool.eq_iff_iff]
  all_goals simp_all
  all_goals omega

set_option maxHeartbeats 1000000 in
theorem refreads_is {a : Option Addr} {c : Nat} {xs : List T2} {w : World} {u : Bool} (hu : readsOk xs = u) (h : Row2 w a xs) (hl : xs.length ≤ 9223372036854775807) :
    Calls Tryz.prog 63 #[.slice a xs.length c] w fun e w' => e = .returned (.bool u) ∧ Below w.heap.size w w' := by
  subst hu
  by_cases h16 : 16 < (xs.length : Int)
  · go_enter Tryz.func63, Tryz.ntmps63
    go_wp2_with fail
    go_ret
    refine ⟨ret_bool ?_, by (repeat (first | exact Below.refl _ _ | assumption | refine Below.drew ?_ | refine Below.al ?_ _ | refine Below.setCell ?_ (by first | exact Nat.le_refl _ | (simp; omega) | (simp; done)) _ | refine Below.on ?_ (by assumption)))⟩
    rw [readsOk, decide_eq_false (by omega)]; rfl
  have H16 := hid h16
  have h16' : decide (16 < (xs.length : Int)) = false := decide_eq_false h16
  clear h16
  go_enter Tryz.func63, Tryz.ntmps63
  go_wp2_with fail
  go_loopg [3] xs.length (fun g s3 wr => ∃ k : Nat, k ≤ xs.length ∧ g = xs.length - k ∧ s3 = .int .i64 k ∧ Below w.heap.size w wr ∧ Hid (allB (spanAt xs) k = true))
  case atStart => exact ⟨0, by omega, by omega, rfl, Below.refl _ _, rfl⟩
  case round =>
    obtain ⟨k, hk, rfl, rfl, hb, HA⟩ := hrel
    by_cases hlt : k < xs.length
    · obtain ⟨b, off, rfl, c0, c1⟩ := (h.later hb) k hlt
      obtain ⟨u, hu⟩ : ∃ u, spanOk (nth2 xs k) = u := ⟨_, rfl⟩
      have HU : Hid (spanAt xs k = u) := hu
      obtain ⟨x, hx⟩ : ∃ x, x = nth2 xs k := ⟨_, rfl⟩
      rw [← hx] at c0 c1 hu
      clear hx
      go_wp2_with fail
      refine (refspan_is hu _).mono ?_
      rintro e w1 ⟨rfl, hw1⟩
      replace hb : Below w.heap.size w w1 := Below.on hb hw1
      clear hw1 hu
      cases u
      · go_wp2_with fail
        go_ret
        refine ⟨ret_bool ?_, hb⟩
        rw [readsOk, allB_no HU.out _ hlt, Bool.and_false]
      · go_wp2_with fail
        go_roundg (xs.length - (k + 1))
        case measure => omega
        case rel => exact ⟨k + 1, by omega, rfl, by go_num, hb, allB_yes HA.out HU.out⟩
    · obtain rfl : k = xs.length := by omega
      go_wp2_with fail
      go_ret
      refine ⟨ret_bool ?_, hb⟩
      have := H16.out
      rw [readsOk, HA.out, Bool.and_true, Bool.eq_iff_iff]
      simp
      omega

set_option maxHeartbeats 4000000 in
theorem refwrites_is {a : Option Addr} {c : Nat} {xs : List Wr} {w : World} {u : Bool} (hu : writesOk xs = u) (h : RowW w a xs) (hl : xs.length ≤ 9223372036854775807) :
    Calls Tryz.prog 64 #[.slice a xs.length c] w fun e w' => e = .returned (.bool u) ∧ Below w.heap.size w w' := by
  subst hu
  by_cases h16 : 16 < (xs.length : Int)
  · go_enter Tryz.func64, Tryz.ntmps64
    go_wp2_with fail
    go_ret
    refine ⟨ret_bool ?_, by (repeat (first | exact Below.refl _ _ | assumption | refine Below.drew ?_ | refine Below.al ?_ _ | refine Below.setCell ?_ (by first | exact Nat.le_refl _ | (simp; omega) | (simp; done)) _ | refine Below.on ?_ (by assumption)))⟩
    rw [writesOk, decide_eq_false (by omega)]; rfl
  have H16 := hid h16
  have h16' : decide (16 < (xs.length : Int)) = false := decide_eq_false h16
  clear h16
  go_enter Tryz.func64, Tryz.ntmps64
  go_wp2_with fail
  go_loopg [3, 4] xs.length (fun g s3 s4 wr => ∃ k : Nat, k ≤ xs.length ∧ g = xs.length - k ∧ s4 = .int .i64 k ∧ s3 = .string (prevW xs k) ∧ Below w.heap.size w wr ∧ Hid (allB (writeAt xs) k = true))
  case atStart => exact ⟨0, by omega, by omega, rfl, rfl, Below.refl _ _, rfl⟩
  case round =>
    obtain ⟨k, hk, rfl, rfl, rfl, hb, HA⟩ := hrel
    by_cases hlt : k < xs.length
    · obtain ⟨b, off, rfl, c0, c1, c2⟩ := (h.later hb) k hlt
      have HU : Hid (writeAt xs k = (keyOk (prevW xs k) (nthW xs k).key && decide ((nthW xs k).val.size ≤ 64) && !((nthW xs k).del && !emS (nthW xs k).val))) := rfl
      have HP : Hid (prevW xs (k + 1) = (nthW xs k).key) := prevW_succ xs k
      obtain ⟨x, hx⟩ : ∃ x, x = nthW xs k := ⟨_, rfl⟩
      rw [← hx] at c0 c1 c2 HU HP
      clear hx
      obtain ⟨key, del, val⟩ := x
      obtain ⟨pk, hpk⟩ : ∃ pk, pk = prevW xs k := ⟨_, rfl⟩
      rw [← hpk] at HU ⊢
      clear hpk
      obtain ⟨b3, h3⟩ : ∃ b, Op.bytesLess pk.toList key.toList = b := ⟨_, rfl⟩
      obtain ⟨b1, h1⟩ : ∃ b, decide (32 < (key.size : Int)) = b := ⟨_, rfl⟩
      obtain ⟨b2, h2⟩ : ∃ b, decide (64 < (val.size : Int)) = b := ⟨_, rfl⟩
      obtain ⟨b4, h4⟩ : ∃ b, val.toList.isEmpty = b := ⟨_, rfl⟩
      have hle : (Op.bytesLess key.toList pk.toList || key.toList == pk.toList) = !b3 := by rw [leq_less, h3]
      have h4' : (val.toList = []) = (b4 = true) := by rw [← h4]; simp
      have HQ : Hid (writeAt xs k = (b3 && !b1 && !b2 && !(del && !b4))) := by
        show _ = _
        rw [HU.out, keyOk, ltS, h3, emS, h4, show decide (key.size ≤ 32) = !b1 by rw [← h1, Bool.eq_iff_iff]; simp; omega, show decide (val.size ≤ 64) = !b2 by rw [← h2, Bool.eq_iff_iff]; simp; omega]
      have go : ∀ b3 b1 b2 d b4 : Bool, b3 = false ∨ (b3 = true ∧ b1 = true) ∨ (b3 = true ∧ b1 = false ∧ b2 = true) ∨ (b3 = true ∧ b1 = false ∧ b2 = false ∧ d = true ∧ b4 = false) ∨ (b3 = true ∧ b1 = false ∧ b2 = false ∧ d = true ∧ b4 = true) ∨ (b3 = true ∧ b1 = false ∧ b2 = false ∧ d = false) := by
        intro b3 b1 b2 d b4
        cases b3 <;> cases b1 <;> cases b2 <;> cases d <;> cases b4 <;> simp
      clear HU h3
      rcases go b3 b1 b2 del b4 with e | ⟨e, e'⟩ | ⟨e, e', e''⟩ | ⟨e, e', e'', e4, e5⟩ | ⟨e, e', e'', e4, e5⟩ | ⟨e, e', e'', e4⟩
      all_goals (try subst e)
      all_goals (try subst e')
      all_goals (try subst e'')
      all_goals (try subst e4)
      all_goals (try subst e5)
      all_goals (clear go; try simp only [Bool.false_eq_true] at h4')
      all_goals go_wp2_with fail
      · go_ret
        refine ⟨ret_bool ?_, by (repeat (first | exact Below.refl _ _ | assumption | refine Below.drew ?_ | refine Below.al ?_ _ | refine Below.setCell ?_ (by first | exact Nat.le_refl _ | (simp; omega) | (simp; done)) _ | refine Below.on ?_ (by assumption)))⟩
        rw [writesOk, allB_no (HQ.out.trans (by simp)) _ hlt, Bool.and_false]
      · go_ret
        refine ⟨ret_bool ?_, by (repeat (first | exact Below.refl _ _ | assumption | refine Below.drew ?_ | refine Below.al ?_ _ | refine Below.setCell ?_ (by first | exact Nat.le_refl _ | (simp; omega) | (simp; done)) _ | refine Below.on ?_ (by assumption)))⟩
        rw [writesOk, allB_no (HQ.out.trans (by simp)) _ hlt, Bool.and_false]
      · go_ret
        refine ⟨ret_bool ?_, by (repeat (first | exact Below.refl _ _ | assumption | refine Below.drew ?_ | refine Below.al ?_ _ | refine Below.setCell ?_ (by first | exact Nat.le_refl _ | (simp; omega) | (simp; done)) _ | refine Below.on ?_ (by assumption)))⟩
        rw [writesOk, allB_no (HQ.out.trans (by simp)) _ hlt, Bool.and_false]
      · go_ret
        refine ⟨ret_bool ?_, by (repeat (first | exact Below.refl _ _ | assumption | refine Below.drew ?_ | refine Below.al ?_ _ | refine Below.setCell ?_ (by first | exact Nat.le_refl _ | (simp; omega) | (simp; done)) _ | refine Below.on ?_ (by assumption)))⟩
        rw [writesOk, allB_no (HQ.out.trans (by simp)) _ hlt, Bool.and_false]
      · go_roundg (xs.length - (k + 1))
        case measure => omega
        case rel => exact ⟨k + 1, by omega, rfl, by go_num, by rw [HP.out], by (repeat (first | exact Below.refl _ _ | assumption | refine Below.drew ?_ | refine Below.al ?_ _ | refine Below.setCell ?_ (by first | exact Nat.le_refl _ | (simp; omega) | (simp; done)) _ | refine Below.on ?_ (by assumption))), allB_yes HA.out (HQ.out.trans (by simp))⟩
      · go_roundg (xs.length - (k + 1))
        case measure => omega
        case rel => exact ⟨k + 1, by omega, rfl, by go_num, by rw [HP.out], by (repeat (first | exact Below.refl _ _ | assumption | refine Below.drew ?_ | refine Below.al ?_ _ | refine Below.setCell ?_ (by first | exact Nat.le_refl _ | (simp; omega) | (simp; done)) _ | refine Below.on ?_ (by assumption))), allB_yes HA.out (HQ.out.trans (by simp))⟩
    · obtain rfl : k = xs.length := by omega
      go_wp2_with fail
      go_ret
      refine ⟨ret_bool ?_, hb⟩
      have := H16.out
      rw [writesOk, HA.out, Bool.and_true, Bool.eq_iff_iff]
      simp
      omega

end Go.Proofs.YtfdbffadajepfaaGreat
namespace Go.Proofs.YtfdbffadajepfaaGreat
open Go.RowKit Go.Sort
set_option linter.unusedVariables false

set_option maxHeartbeats 4000000 in
set_option maxRecDepth 8000 in
theorem rsame_no1 {m n : Rg} (w : World) (h1 : (m.k != n.k) = true) :
    Calls Tryz.prog 61 #[m.val, n.val] w fun e w' => e = .returned (.bool false) ∧ Below w.heap.size w w' := by
  go_enter Tryz.func61, Tryz.ntmps61
  go_wp2_with fail
  go_ret
  exact ⟨rfl, by (repeat (first | exact Below.refl _ _ | assumption | refine Below.drew ?_ | refine Below.al ?_ _ | refine Below.setCell ?_ (by first | exact Nat.le_refl _ | (simp; omega) | (simp; done)) _ | refine Below.on ?_ (by assumption)))⟩

set_option maxHeartbeats 4000000 in
set_option maxRecDepth 8000 in
theorem rsame_no2 {m n : Rg} (w : World) (h1 : (m.k != n.k) = false) (h2 : (m.x != n.x) = true) :
    Calls Tryz.prog 61 #[m.val, n.val] w fun e w' => e = .returned (.bool false) ∧ Below w.heap.size w w' := by
  go_enter Tryz.func61, Tryz.ntmps61
  go_wp2_with fail
  go_ret
  exact ⟨rfl, by (repeat (first | exact Below.refl _ _ | assumption | refine Below.drew ?_ | refine Below.al ?_ _ | refine Below.setCell ?_ (by first | exact Nat.le_refl _ | (simp; omega) | (simp; done)) _ | refine Below.on ?_ (by assumption)))⟩

set_option maxHeartbeats 4000000 in
set_option maxRecDepth 8000 in
theorem rsame_no3 {m n : Rg} (w : World) (h1 : (m.k != n.k) = false) (h2 : (m.x != n.x) = false) (e3 : ∀ w, (binOp .neq 43 (txv m.c m.s) (txv n.c n.s)).run Tryz.prog w = .ok (.bool true) w) :
    Calls Tryz.prog 61 #[m.val, n.val] w fun e w' => e = .returned (.bool false) ∧ Below w.heap.size w w' := by
  go_enter Tryz.func61, Tryz.ntmps61
  go_wp2_with fail
  go_ret
  exact ⟨rfl, by (repeat (first | exact Below.refl _ _ | assumption | refine Below.drew ?_ | refine Below.al ?_ _ | refine Below.setCell ?_ (by first | exact Nat.le_refl _ | (simp; omega) | (simp; done)) _ | refine Below.on ?_ (by assumption)))⟩

set_option maxHeartbeats 4000000 in
set_option maxRecDepth 8000 in
theorem rsame_no4 {m n : Rg} (w : World) (h1 : (m.k != n.k) = false) (h2 : (m.x != n.x) = false) (e3 : ∀ w, (binOp .neq 43 (txv m.c m.s) (txv n.c n.s)).run Tryz.prog w = .ok (.bool false) w) (h4 : (m.h != n.h) = true) :
    Calls Tryz.prog 61 #[m.val, n.val] w fun e w' => e = .returned (.bool false) ∧ Below w.heap.size w w' := by
  go_enter Tryz.func61, Tryz.ntmps61
  go_wp2_with fail
  go_ret
  exact ⟨rfl, by (repeat (first | exact Below.refl _ _ | assumption | refine Below.drew ?_ | refine Below.al ?_ _ | refine Below.setCell ?_ (by first | exact Nat.le_refl _ | (simp; omega) | (simp; done)) _ | refine Below.on ?_ (by assumption)))⟩

set_option maxHeartbeats 4000000 in
set_option maxRecDepth 8000 in
theorem rsame_no5 {m n : Rg} (w : World) (h1 : (m.k != n.k) = false) (h2 : (m.x != n.x) = false) (e3 : ∀ w, (binOp .neq 43 (txv m.c m.s) (txv n.c n.s)).run Tryz.prog w = .ok (.bool false) w) (h4 : (m.h != n.h) = false) (h5 : (m.oc != n.oc) = true) :
    Calls Tryz.prog 61 #[m.val, n.val] w fun e w' => e = .returned (.bool false) ∧ Below w.heap.size w w' := by
  go_enter Tryz.func61, Tryz.ntmps61
  go_wp2_with fail
  go_ret
  exact ⟨rfl, by (repeat (first | exact Below.refl _ _ | assumption | refine Below.drew ?_ | refine Below.al ?_ _ | refine Below.setCell ?_ (by first | exact Nat.le_refl _ | (simp; omega) | (simp; done)) _ | refine Below.on ?_ (by assumption)))⟩

end Go.Proofs.YtfdbffadajepfaaGreat
namespace Go.Proofs.YtfdbffadajepfaaGreat
open Go.RowKit Go.Sort
set_option linter.unusedVariables false

set_option maxHeartbeats 4000000 in
set_option maxRecDepth 8000 in
theorem rsame_no6 {m n : Rg} (w : World) (h1 : (m.k != n.k) = false) (h2 : (m.x != n.x) = false) (e3 : ∀ w, (binOp .neq 43 (txv m.c m.s) (txv n.c n.s)).run Tryz.prog w = .ok (.bool false) w) (h4 : (m.h != n.h) = false) (h5 : (m.oc != n.oc) = false) (e6 : ∀ w, (binOp .neq 28 (stv m.w m.l m.n) (stv n.w n.l n.n)).run Tryz.prog w = .ok (.bool true) w) :
    Calls Tryz.prog 61 #[m.val, n.val] w fun e w' => e = .returned (.bool false) ∧ Below w.heap.size w w' := by
  go_enter Tryz.func61, Tryz.ntmps61
  go_wp2_with fail
  go_ret
  exact ⟨rfl, by (repeat (first | exact Below.refl _ _ | assumption | refine Below.drew ?_ | refine Below.al ?_ _ | refine Below.setCell ?_ (by first | exact Nat.le_refl _ | (simp; omega) | (simp; done)) _ | refine Below.on ?_ (by assumption)))⟩

set_option maxHeartbeats 4000000 in
set_option maxRecDepth 8000 in
theorem rsame_no7 {m n : Rg} (w : World) (h1 : (m.k != n.k) = false) (h2 : (m.x != n.x) = false) (e3 : ∀ w, (binOp .neq 43 (txv m.c m.s) (txv n.c n.s)).run Tryz.prog w = .ok (.bool false) w) (h4 : (m.h != n.h) = false) (h5 : (m.oc != n.oc) = false) (e6 : ∀ w, (binOp .neq 28 (stv m.w m.l m.n) (stv n.w n.l n.n)).run Tryz.prog w = .ok (.bool false) w) (h7 : (m.im.toList == n.im.toList) = false) :
    Calls Tryz.prog 61 #[m.val, n.val] w fun e w' => e = .returned (.bool false) ∧ Below w.heap.size w w' := by
  go_enter Tryz.func61, Tryz.ntmps61
  go_wp2_with fail
  go_ret
  exact ⟨rfl, by (repeat (first | exact Below.refl _ _ | assumption | refine Below.drew ?_ | refine Below.al ?_ _ | refine Below.setCell ?_ (by first | exact Nat.le_refl _ | (simp; omega) | (simp; done)) _ | refine Below.on ?_ (by assumption)))⟩

set_option maxHeartbeats 4000000 in
set_option maxRecDepth 8000 in
theorem rsame_no8 {m n : Rg} (w : World) (h1 : (m.k != n.k) = false) (h2 : (m.x != n.x) = false) (e3 : ∀ w, (binOp .neq 43 (txv m.c m.s) (txv n.c n.s)).run Tryz.prog w = .ok (.bool false) w) (h4 : (m.h != n.h) = false) (h5 : (m.oc != n.oc) = false) (e6 : ∀ w, (binOp .neq 28 (stv m.w m.l m.n) (stv n.w n.l n.n)).run Tryz.prog w = .ok (.bool false) w) (h7 : (m.im.toList == n.im.toList) = true) (h8 : ((m.rs.length : Int) != (n.rs.length : Int)) = true) :
    Calls Tryz.prog 61 #[m.val, n.val] w fun e w' => e = .returned (.bool false) ∧ Below w.heap.size w w' := by
  go_enter Tryz.func61, Tryz.ntmps61
  go_wp2_with fail
  go_ret
  exact ⟨rfl, by (repeat (first | exact Below.refl _ _ | assumption | refine Below.drew ?_ | refine Below.al ?_ _ | refine Below.setCell ?_ (by first | exact Nat.le_refl _ | (simp; omega) | (simp; done)) _ | refine Below.on ?_ (by assumption)))⟩

set_option maxHeartbeats 4000000 in
set_option maxRecDepth 8000 in
theorem rsame_no9 {m n : Rg} (w : World) (h1 : (m.k != n.k) = false) (h2 : (m.x != n.x) = false) (e3 : ∀ w, (binOp .neq 43 (txv m.c m.s) (txv n.c n.s)).run Tryz.prog w = .ok (.bool false) w) (h4 : (m.h != n.h) = false) (h5 : (m.oc != n.oc) = false) (e6 : ∀ w, (binOp .neq 28 (stv m.w m.l m.n) (stv n.w n.l n.n)).run Tryz.prog w = .ok (.bool false) w) (h7 : (m.im.toList == n.im.toList) = true) (h8 : ((m.rs.length : Int) != (n.rs.length : Int)) = false) (h9 : ((m.ws.length : Int) != (n.ws.length : Int)) = true) :
    Calls Tryz.prog 61 #[m.val, n.val] w fun e w' => e = .returned (.bool false) ∧ Below w.heap.size w w' := by
  go_enter Tryz.func61, Tryz.ntmps61
  go_wp2_with fail
  go_ret
  exact ⟨rfl, by (repeat (first | exact Below.refl _ _ | assumption | refine Below.drew ?_ | refine Below.al ?_ _ | refine Below.setCell ?_ (by first | exact Nat.le_refl _ | (simp; omega) | (simp; done)) _ | refine Below.on ?_ (by assumption)))⟩

end Go.Proofs.YtfdbffadajepfaaGreat
namespace Go.Proofs.YtfdbffadajepfaaGreat
open Go.RowKit Go.Sort
set_option linter.unusedVariables false

/-- the two records in their boxes -/
structure SG (w wr : World) (m n : Rg) : Prop where
  a : BoxG wr w.heap.size m
  b : BoxG wr (w.heap.size + 1) n
  bl : Below w.heap.size w wr
theorem SG.later {w wr w' : World} {m n : Rg} (h : SG w wr m n) (hb : Below wr.heap.size wr w') : SG w w' m n := ⟨h.a.later hb, h.b.later hb, Below.on h.bl hb⟩
theorem sg_start (w : World) (m n : Rg) (T : TypeId) : SG w ((w.alloc (.cells m.cells T)).alloc (.cells n.cells T)) m n :=
  ⟨(boxG w m T).later (Below.al (Below.refl _ _) _), by have := boxG (w.alloc (.cells m.cells T)) n T; rwa [World.size_alloc] at this, Below.al (Below.al (Below.refl _ _) _) _⟩

set_option maxHeartbeats 8000000 in
set_option maxRecDepth 8000 in
theorem rsame_yes {m n : Rg} {w : World} (h1 : (m.k != n.k) = false) (h2 : (m.x != n.x) = false) (e3 : ∀ w, (binOp .neq 43 (txv m.c m.s) (txv n.c n.s)).run Tryz.prog w = .ok (.bool false) w) (h4 : (m.h != n.h) = false) (h5 : (m.oc != n.oc) = false) (e6 : ∀ w, (binOp .neq 28 (stv m.w m.l m.n) (stv n.w n.l n.n)).run Tryz.prog w = .ok (.bool false) w) (h7 : (m.im.toList == n.im.toList) = true) (h8 : ((m.rs.length : Int) != (n.rs.length : Int)) = false) (h9 : ((m.ws.length : Int) != (n.ws.length : Int)) = false) (h : Hid (m.ok w)) (hn : Hid (n.ok w)) (hp : Hid (m.rs = n.rs ∧ m.ws = n.ws)) :
    Calls Tryz.prog 61 #[m.val, n.val] w fun e w' => e = .returned (.bool true) ∧ Below w.heap.size w w' := by
  have HR := hid h.out.rl; have HWL := hid h.out.wl
  go_enter Tryz.func61, Tryz.ntmps61
  go_wp2_with fail
  clear h1 h2 e3 h4 h5 e6 h7 h8 h9
  have h0 := hid (sg_start w m n 48)
  go_loopg [5] m.rs.length (fun g s5 wr => ∃ k : Nat, k ≤ m.rs.length ∧ g = m.rs.length - k ∧ s5 = .int .i64 k ∧ Hid (SG w wr m n))
  case atStart => exact ⟨0, by omega, by omega, rfl, h0⟩
  case round =>
    obtain ⟨k, hk, rfl, rfl, HS⟩ := hrel
    obtain ⟨W1, hW1⟩ : ∃ W, W = wr := ⟨_, rfl⟩
    rw [← hW1] at HS ⊢
    clear hW1 wr
    have hlm := HR.out
    by_cases hlt : k < m.rs.length
    · have d := HS.out.b.c9
      have c := HS.out.a.c9
      obtain ⟨b, off, ha, x0, x1⟩ := (h.out.later HS.out.bl).r k hlt
      obtain ⟨b', off', ha', y0, y1⟩ := (hn.out.later HS.out.bl).r k (by rw [← hp.out.1]; exact hlt)
      rw [← hp.out.1] at y0 y1 d
      rw [ha] at c
      rw [ha'] at d
      obtain ⟨x, hx⟩ : ∃ x, x = nth2 m.rs k := ⟨_, rfl⟩
      rw [← hx] at x0 x1 y0 y1
      have kc := cell_regrown c; have kd := cell_regrown d
      have kx0 := cell_regrown x0; have kx1 := cell_regrown x1
      have ky0 := cell_regrown y0; have ky1 := cell_regrown y1
      have hne : ∀ w, (binOp .neq 25 (.agg #[.string x.1, .string x.2]) (.agg #[.string x.1, .string x.2])).run Tryz.prog w = .ok (.bool false) w := fun w => run_neSpan x w
      clear hx ha ha'
      go_wp2_with fail
      refine wp_region_quiet_below (by kernel_rfl) (by kernel_rfl) ?_
      repeat (go_big_quiet_step (fail))
      refine wpQuiet_nil ?_
      intro w1 hw
      replace hw := below_of_regrown hw
      have HS1 := hid (HS.out.later hw)
      clear hw kc kd kx0 ky0 kx1 ky1 x0 x1 y0 y1 c d
      go_wp2_with fail
      go_roundg (m.rs.length - (k + 1))
      case measure => omega
      case rel => exact ⟨k + 1, by omega, rfl, by go_num, HS1⟩
    · obtain rfl : k = m.rs.length := by omega
      have c := HS.out.a.c9
      have h0 := HS
      go_wp2_with fail
      clear c
      go_loopg [6] m.ws.length (fun g s6 wr => ∃ k : Nat, k ≤ m.ws.length ∧ g = m.ws.length - k ∧ s6 = .int .i64 k ∧ Hid (SG w wr m n))
      case atStart => exact ⟨0, by omega, by omega, rfl, h0⟩
      case round =>
        obtain ⟨k, hk, rfl, rfl, HS⟩ := hrel
        obtain ⟨W2, hW2⟩ : ∃ W, W = wr := ⟨_, rfl⟩
        rw [← hW2] at HS ⊢
        clear hW2 wr
        have hlm := HWL.out
        by_cases hlt : k < m.ws.length
        · have d := HS.out.b.c10
          have c := HS.out.a.c10
          obtain ⟨b, off, ha, x0, x1, x2⟩ := (h.out.later HS.out.bl).w k hlt
          obtain ⟨b', off', ha', y0, y1, y2⟩ := (hn.out.later HS.out.bl).w k (by rw [← hp.out.2]; exact hlt)
          rw [← hp.out.2] at y0 y1 y2 d
          rw [ha] at c
          rw [ha'] at d
          obtain ⟨x, hx⟩ : ∃ x, x = nthW m.ws k := ⟨_, rfl⟩
          rw [← hx] at x0 x1 x2 y0 y1 y2
          have kc := cell_regrown c; have kd := cell_regrown d
          have kx0 := cell_regrown x0; have kx1 := cell_regrown x1; have kx2 := cell_regrown x2
          have ky0 := cell_regrown y0; have ky1 := cell_regrown y1; have ky2 := cell_regrown y2
          have hne : ∀ w, (binOp .neq 97 (.agg #[.string x.key, .bool x.del, .string x.val]) (.agg #[.string x.key, .bool x.del, .string x.val])).run Tryz.prog w = .ok (.bool false) w := fun w => run_neWrite x w
          clear hx ha ha'
          go_wp2_with fail
          refine wp_region_quiet_below (by kernel_rfl) (by kernel_rfl) ?_
          repeat (go_big_quiet_step (fail))
          refine wpQuiet_nil ?_
          intro w1 hw
          replace hw := below_of_regrown hw
          have HS1 := hid (HS.out.later hw)
          clear hw kc kd kx0 ky0 kx1 ky1 kx2 ky2 x0 x1 x2 y0 y1 y2 c d
          go_wp2_with fail
          go_roundg (m.ws.length - (k + 1))
          case measure => omega
          case rel => exact ⟨k + 1, by omega, rfl, by go_num, HS1⟩
        · obtain rfl : k = m.ws.length := by omega
          have c := HS.out.a.c10
          have h0 := HS
          go_wp2_with fail
          clear c
          go_ret
          exact ⟨rfl, h0.out.bl⟩

end Go.Proofs.YtfdbffadajepfaaGreat
namespace Go.Proofs.YtfdbffadajepfaaGreat
open Go.RowKit Go.Sort
set_option linter.unusedVariables false

theorem refsame_is {m n : Rg} {w : World} {u : Bool} (hu : sameR m n = u) (h : m.ok w) (hn : n.ok w) (hr : m.rs.length = n.rs.length → m.rs = n.rs) (hw : m.ws.length = n.ws.length → m.ws = n.ws) :
    Calls Tryz.prog 61 #[m.val, n.val] w fun e w' => e = .returned (.bool u) ∧ Below w.heap.size w w' := by
  have e3 : ∀ {b}, sameT m.c m.s n.c n.s = b → ∀ w, (binOp .neq 43 (txv m.c m.s) (txv n.c n.s)).run Tryz.prog w = .ok (.bool !b) w := fun h w => by rw [run_neT, h]
  have e6 : ∀ {b}, sameB m.w m.l m.n n.w n.l n.n = b → ∀ w, (binOp .neq 28 (stv m.w m.l m.n) (stv n.w n.l n.n)).run Tryz.prog w = .ok (.bool !b) w := fun h w => by rw [run_ne, h]
  have ln : ∀ {a b : Nat} {u : Bool}, decide (a = b) = u → ((a : Int) != (b : Int)) = !u := fun {a b u} h => by
    rw [← h, bne, Bool.not_inj_iff, Bool.eq_iff_iff]; simp; omega
  have nn : ∀ {a b : Int} {u : Bool}, (a == b) = u → (a != b) = !u := fun h => by rw [bne, h]
  have tt : ∀ {a b : ByteArray} {u : Bool}, decide (a = b) = u → (a.toList == b.toList) = !!u := fun {a b u} h => by
    rw [← h, Bool.not_not, Bool.eq_iff_iff, ByteArray.toList_eq, ByteArray.toList_eq]
    simp only [beq_iff_eq, decide_eq_true_eq]
    exact ⟨fun e => ByteArray.ext (Array.toList_inj.1 e), fun e => by rw [e]⟩
  subst hu
  cases g1 : (m.k == n.k)
  · rw [sameR, g1]; exact rsame_no1 w (nn g1)
  cases g2 : (m.x == n.x)
  · rw [sameR, g1, g2]; exact rsame_no2 w (nn g1) (nn g2)
  cases g3 : sameT m.c m.s n.c n.s
  · rw [sameR, g1, g2, g3]; exact rsame_no3 w (nn g1) (nn g2) (e3 g3)
  cases g4 : (m.h == n.h)
  · rw [sameR, g1, g2, g3, g4]; exact rsame_no4 w (nn g1) (nn g2) (e3 g3) (nn g4)
  cases g5 : (m.oc == n.oc)
  · rw [sameR, g1, g2, g3, g4, g5]; exact rsame_no5 w (nn g1) (nn g2) (e3 g3) (nn g4) (nn g5)
  cases g6 : sameB m.w m.l m.n n.w n.l n.n
  · rw [sameR, g1, g2, g3, g4, g5, g6]; exact rsame_no6 w (nn g1) (nn g2) (e3 g3) (nn g4) (nn g5) (e6 g6)
  cases g7 : decide (m.im = n.im)
  · rw [sameR, g1, g2, g3, g4, g5, g6, g7]; exact rsame_no7 w (nn g1) (nn g2) (e3 g3) (nn g4) (nn g5) (e6 g6) (tt g7)
  cases g8 : decide (m.rs.length = n.rs.length)
  · rw [sameR, g1, g2, g3, g4, g5, g6, g7, g8]; exact rsame_no8 w (nn g1) (nn g2) (e3 g3) (nn g4) (nn g5) (e6 g6) (tt g7) (ln g8)
  cases g9 : decide (m.ws.length = n.ws.length)
  · rw [sameR, g1, g2, g3, g4, g5, g6, g7, g8, g9]; exact rsame_no9 w (nn g1) (nn g2) (e3 g3) (nn g4) (nn g5) (e6 g6) (tt g7) (ln g8) (ln g9)
  rw [sameR, g1, g2, g3, g4, g5, g6, g7, g8, g9]
  exact rsame_yes (nn g1) (nn g2) (e3 g3) (nn g4) (nn g5) (e6 g6) (tt g7) (ln g8) (ln g9) h hn ⟨hr (of_decide_eq_true g8), hw (of_decide_eq_true g9)⟩

end Go.Proofs.YtfdbffadajepfaaGreat
