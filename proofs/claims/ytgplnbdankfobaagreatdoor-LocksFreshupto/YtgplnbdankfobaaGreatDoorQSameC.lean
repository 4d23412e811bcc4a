import Derived.Test.YtgplnbdankfobaaGreatDoorQSameB
/- Same. -/
namespace Go.Proofs.YtgplnbdankfobaaGreatDoor.Lk
open Go.RowKit Go.Sort
set_option linter.unusedVariables false

theorem nth2_ext {a b : List T2} (hl : a.length = b.length) (h : ∀ j, j < a.length → nth2 a j = nth2 b j) : a = b := by
  apply List.ext_getElem hl
  intro j h1 h2
  have := h j h1
  simpa [nth2, h1, h2] using this
theorem nthW_ext {a b : List Wr} (hl : a.length = b.length) (h : ∀ j, j < a.length → nthW a j = nthW b j) : a = b := by
  apply List.ext_getElem hl
  intro j h1 h2
  have := h j h1
  simpa [nthW, h1, h2] using this

set_option maxHeartbeats 2000000 in
theorem same_is {x y : Hv} {w : World} {u : Bool} (hu : u = true ↔ x.h = y.h) (hx : x.ok w) (hy : y.ok w) :
    Calls Tryz.prog 15 #[x.val, y.val] w fun e w' => e = .returned (.bool u) ∧ Below w.heap.size w w' := by
  by_cases hall : x.h.id = y.h.id ∧ x.h.home = y.h.home ∧ (x.h.w = y.h.w ∧ x.h.l = y.h.l ∧ x.h.n = y.h.n) ∧ x.h.rs.length = y.h.rs.length ∧ x.h.ws.length = y.h.ws.length
  · obtain ⟨⟨⟨xc, xs⟩, xh, xw, xl, xn, xr, xv⟩, xra, xrc, xwa, xwc⟩ := x
    obtain ⟨⟨⟨yc, ys⟩, yh, yw, yl, yn, yr, yv⟩, yra, yrc, ywa, ywc⟩ := y
    obtain ⟨hx1, hx2, hx3, hx4⟩ := hx
    obtain ⟨hy1, hy2, _, _⟩ := hy
    simp only at hall hu hx1 hx2 hx3 hx4 hy1 hy2
    obtain ⟨e1, rfl, ⟨rfl, rfl, rfl⟩, hlr, hlw⟩ := hall
    injection e1 with e1 e2
    subst e1 e2
    have q1 : ∀ W, (binOp .neq 25 (.agg #[.int .u32 xc, .int .u32 xs]) (.agg #[.int .u32 xc, .int .u32 xs])).run Tryz.prog W = .ok (.bool false) W := fun W => by
      have := run_neI (xc, xs) (xc, xs) W
      rwa [show sameI (xc, xs) (xc, xs) = true by simp [sameI]] at this
    have q3 : ∀ W, (binOp .neq 28 (.agg #[.int .u64 xw, .int .u32 xl, .int .u32 xn]) (.agg #[.int .u64 xw, .int .u32 xl, .int .u32 xn])).run Tryz.prog W = .ok (.bool false) W := fun W => by
      have := run_neSt xw xl xn xw xl xn W
      simpa using this
    have h4' : ((xr.length : Int) != (yr.length : Int)) = false := by rw [hlr]; simp
    have h5' : ((xv.length : Int) != (yv.length : Int)) = false := by rw [hlw]; simp
    have HU : Hid (u = true ↔ xr = yr ∧ xv = yv) := by
      show _ ↔ _
      rw [hu]; simp
    obtain ⟨wx, hwx⟩ : ∃ wx, wx = (w.alloc (.cells #[.int .u32 xc, .int .u32 xs, .int .u32 xh, .int .u64 xw, .int .u32 xl, .int .u32 xn, .slice xra xr.length xrc, .slice xwa xv.length xwc] 32)).alloc (.cells #[.int .u32 xc, .int .u32 xs, .int .u32 xh, .int .u64 xw, .int .u32 xl, .int .u32 xn, .slice yra yr.length yrc, .slice ywa yv.length ywc] 32) := ⟨_, rfl⟩
    have hbx : Below w.heap.size w wx := by rw [hwx]; exact Below.al (Below.al (Below.refl _ _) _) _
    have b6 : wx.cell? ⟨w.heap.size, 6, none⟩ = some (.slice xra xr.length xrc) := by rw [hwx]; simp [go_sem]
    have b7 : wx.cell? ⟨w.heap.size, 7, none⟩ = some (.slice xwa xv.length xwc) := by rw [hwx]; simp [go_sem]
    have d6 : wx.cell? ⟨w.heap.size + 1, 6, none⟩ = some (.slice yra yr.length yrc) := by rw [hwx]; simp [go_sem]
    have d7 : wx.cell? ⟨w.heap.size + 1, 7, none⟩ = some (.slice ywa yv.length ywc) := by rw [hwx]; simp [go_sem]
    have X1 := hid (hx1.later hbx)
    have X2 := hid (hx2.later hbx)
    have Y1 := hid (hy1.later hbx)
    have Y2 := hid (hy2.later hbx)
    have HBX := hid hbx
    have HLR := hid hlr
    have HLW := hid hlw
    clear hu hx1 hx2 hy1 hy2 hbx hlr hlw
    go_enter Tryz.func15, Tryz.ntmps15
    go_wp2_with fail
    rw [← hwx]
    clear hwx
    go_loopg [5] xr.length (fun g s5 wr => ∃ k : Nat, k ≤ xr.length ∧ g = xr.length - k ∧ s5 = .int .i64 k ∧ Hid (Below wx.heap.size wx wr) ∧ Hid (∀ j, j < k → nth2 xr j = nth2 yr j))
    case atStart => exact ⟨0, by omega, by omega, rfl, Below.refl _ _, fun j hj => absurd hj (by omega)⟩
    case round =>
      obtain ⟨k, hk, rfl, rfl, HB, HA⟩ := hrel
      have c6 := cell_later HB.out b6
      have e6 := cell_later HB.out d6
      by_cases hlt : k < xr.length
      · obtain ⟨b, off, ex, c0, c1⟩ := (X1.out.later HB.out) k hlt
        obtain ⟨b', off', ey, g0, g1⟩ := (Y1.out.later HB.out) k (by have := HLR.out; omega)
        subst ex ey
        obtain ⟨⟨p1, p2⟩, hp⟩ : ∃ p, p = nth2 xr k := ⟨_, rfl⟩
        obtain ⟨⟨r1, r2⟩, hr⟩ : ∃ r, r = nth2 yr k := ⟨_, rfl⟩
        rw [← hp] at c0 c1
        rw [← hr] at g0 g1
        simp only at c0 c1 g0 g1
        have hk2 : (k : Int) < (yr.length : Int) := by have := HLR.out; omega
        have hk1 : (k : Int) < (xr.length : Int) := by omega
        have k0 := cell_regrown c0
        have k1 := cell_regrown c1
        have l0 := cell_regrown g0
        have l1 := cell_regrown g1
        have m6 := cell_regrown c6
        have n6 := cell_regrown e6
        have HP := hid hp
        have HR := hid hr
        clear hp hr
        by_cases heq : ((p1, p2) : T2) = (r1, r2)
        · injection heq with z1 z2
          subst z1 z2
          have qq : ∀ W, (binOp .neq 34 (.agg #[.string p1, .string p2]) (.agg #[.string p1, .string p2])).run Tryz.prog W = .ok (.bool false) W := fun W => by
            have := run_neSp (p1, p2) (p1, p2) W
            simpa using this
          go_wp2_with fail
          refine wp_region_quiet_below (by kernel_rfl) (by kernel_rfl) ?_
          repeat (go_big_quiet_step (fail))
          refine wpQuiet_nil ?_
          intro wn hwn
          replace hwn := below_of_regrown hwn
          go_wp2_with fail
          go_roundg (xr.length - (k + 1))
          case measure => omega
          case rel =>
            refine ⟨k + 1, by omega, rfl, by go_num, Below.on HB.out hwn, fun j hj => ?_⟩
            by_cases e : j = k
            · subst e; rw [← HP.out, ← HR.out]
            · exact HA.out j (by omega)
        · have qq : ∀ W, (binOp .neq 34 (.agg #[.string p1, .string p2]) (.agg #[.string r1, .string r2])).run Tryz.prog W = .ok (.bool true) W := fun W => by
            have := run_neSp (p1, p2) (r1, r2) W
            rwa [decide_eq_false heq] at this
          have hu0 : u = false := by
            cases u with
            | false => rfl
            | true => exact absurd (by rw [HP.out, HR.out, (HU.out.1 rfl).1]) heq
          subst hu0
          clear heq
          go_wp2_with fail
          refine wp_region_quiet_below (by kernel_rfl) (by kernel_rfl) ?_
          repeat (go_big_quiet_step (fail))
          refine wpQuiet_nil ?_
          intro wn hwn
          replace hwn := below_of_regrown hwn
          go_wp2_with fail
          go_ret
          exact ⟨rfl, Below.on HBX.out (Below.on HB.out hwn)⟩
      · obtain rfl : k = xr.length := by omega
        rename World => wA
        have hrr : xr = yr := nth2_ext HLR.out HA.out
        have HU2 : Hid (u = true ↔ xv = yv) := by
          show _ ↔ _
          rw [HU.out]; exact ⟨fun h => h.2, fun h => ⟨hrr, h⟩⟩
        have c7 := cell_later HB.out b7
        have e7 := cell_later HB.out d7
        have HBA := HB
        clear HA hrr HU
        go_wp2_with fail
        go_loopg [6] xv.length (fun g s6 wr => ∃ k : Nat, k ≤ xv.length ∧ g = xv.length - k ∧ s6 = .int .i64 k ∧ Hid (Below wA.heap.size wA wr) ∧ Hid (∀ j, j < k → nthW xv j = nthW yv j))
        case atStart => exact ⟨0, by omega, by omega, rfl, Below.refl _ _, fun j hj => absurd hj (by omega)⟩
        case round =>
          obtain ⟨k, hk, rfl, rfl, HC, HA⟩ := hrel
          have c7 := cell_later HC.out c7
          have e7 := cell_later HC.out e7
          have hbr := Below.on HBA.out HC.out
          by_cases hlt : k < xv.length
          · obtain ⟨b, off, ex, c0, c1, c2⟩ := (X2.out.later hbr) k hlt
            obtain ⟨b', off', ey, g0, g1, g2⟩ := (Y2.out.later hbr) k (by have := HLW.out; omega)
            subst ex ey
            obtain ⟨⟨p1, p2, p3⟩, hp⟩ : ∃ p, p = nthW xv k := ⟨_, rfl⟩
            obtain ⟨⟨r1, r2, r3⟩, hr⟩ : ∃ r, r = nthW yv k := ⟨_, rfl⟩
            rw [← hp] at c0 c1 c2
            rw [← hr] at g0 g1 g2
            simp only at c0 c1 c2 g0 g1 g2
            have hk2 : (k : Int) < (yv.length : Int) := by have := HLW.out; omega
            have hk1 : (k : Int) < (xv.length : Int) := by omega
            have k0 := cell_regrown c0
            have k1 := cell_regrown c1
            have k2 := cell_regrown c2
            have l0 := cell_regrown g0
            have l1 := cell_regrown g1
            have l2 := cell_regrown g2
            have m7 := cell_regrown c7
            have n7 := cell_regrown e7
            have HP := hid hp
            have HR := hid hr
            clear hp hr
            cases heq : sameW ⟨p1, p2, p3⟩ ⟨r1, r2, r3⟩ with
            | true =>
              have qq : ∀ W, (binOp .neq 64 (.agg #[.string p1, .bool p2, .string p3]) (.agg #[.string r1, .bool r2, .string r3])).run Tryz.prog W = .ok (.bool false) W := fun W => by
                have := run_neWr ⟨p1, p2, p3⟩ ⟨r1, r2, r3⟩ W
                rwa [heq] at this
              have HE := hid (sameW_eq.1 heq)
              clear heq
              go_wp2_with fail
              refine wp_region_quiet_below (by kernel_rfl) (by kernel_rfl) ?_
              repeat (go_big_quiet_step (fail))
              refine wpQuiet_nil ?_
              intro wn hwn
              replace hwn := below_of_regrown hwn
              go_wp2_with fail
              go_roundg (xv.length - (k + 1))
              case measure => omega
              case rel =>
                refine ⟨k + 1, by omega, rfl, by go_num, Below.on HC.out hwn, fun j hj => ?_⟩
                by_cases e : j = k
                · subst e; rw [← HP.out, ← HR.out]; exact HE.out
                · exact HA.out j (by omega)
            | false =>
              have qq : ∀ W, (binOp .neq 64 (.agg #[.string p1, .bool p2, .string p3]) (.agg #[.string r1, .bool r2, .string r3])).run Tryz.prog W = .ok (.bool true) W := fun W => by
                have := run_neWr ⟨p1, p2, p3⟩ ⟨r1, r2, r3⟩ W
                rwa [heq] at this
              have hu0 : u = false := by
                cases u with
                | false => rfl
                | true =>
                  have : sameW ⟨p1, p2, p3⟩ ⟨r1, r2, r3⟩ = true := sameW_eq.2 (by rw [HP.out, HR.out, HU2.out.1 rfl])
                  rw [heq] at this; cases this
              subst hu0
              clear heq
              go_wp2_with fail
              refine wp_region_quiet_below (by kernel_rfl) (by kernel_rfl) ?_
              repeat (go_big_quiet_step (fail))
              refine wpQuiet_nil ?_
              intro wn hwn
              replace hwn := below_of_regrown hwn
              go_wp2_with fail
              go_ret
              exact ⟨rfl, Below.on HBX.out (Below.on hbr hwn)⟩
          · obtain rfl : k = xv.length := by omega
            have hu1 : u = true := HU2.out.2 (nthW_ext HLW.out HA.out)
            subst hu1
            go_wp2_with fail
            go_ret
            exact ⟨rfl, Below.on HBX.out hbr⟩
  · have hu0 : u = false := by
      cases u with
      | false => rfl
      | true => exact absurd (by rw [hu.1 rfl]; exact ⟨rfl, rfl, ⟨rfl, rfl, rfl⟩, rfl, rfl⟩) hall
    subst hu0
    exact same_not hall
end Go.Proofs.YtgplnbdankfobaaGreatDoor.Lk
