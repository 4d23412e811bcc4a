import Derived.Test.YtofpaldolcnmiaaGreatB53
set_option linter.unusedVariables false
set_option maxHeartbeats 8000000
namespace Go.Proofs.YtofpaldolcnmiaaGreat
namespace Lk
open Go.RowKit Go.Sort
theorem same_not {x y : Hv} {w : World} (h : ¬ (x.h.id = y.h.id ∧ x.h.home = y.h.home ∧ (x.h.w = y.h.w ∧ x.h.l = y.h.l ∧ x.h.n = y.h.n) ∧ x.h.rs.length = y.h.rs.length ∧ x.h.ws.length = y.h.ws.length)) :
  Calls Tryz.prog 56 #[x.val, y.val] w fun e w' => e = .returned (.bool false) ∧ Below w.heap.size w w' := by
 obtain ⟨⟨⟨xc, xs⟩, xh, xw, xl, xn, xr, xv⟩, xra, xrc, xwa, xwc⟩ := x; obtain ⟨⟨⟨yc, ys⟩, yh, yw, yl, yn, yr, yv⟩, yra, yrc, ywa, ywc⟩ := y; simp only at h; by_cases h1 : ((xc, xs) : Ix) = (yc, ys)
 ·injection h1 with e1 e2
  subst e1 e2; have q1 : ∀ W, (binOp .neq 33 (.agg #[.int .u32 xc, .int .u32 xs]) (.agg #[.int .u32 xc, .int .u32 xs])).run Tryz.prog W = .ok (.bool false) W := fun W => by
   have := run_neI (xc, xs) (xc, xs) W; rwa [show sameI (xc, xs) (xc, xs) = true by simp [sameI]] at this
  by_cases h2 : xh = yh
  ·subst h2; by_cases h3 : xw = yw ∧ xl = yl ∧ xn = yn
   ·obtain ⟨rfl, rfl, rfl⟩ := h3; have q3 : ∀ W, (binOp .neq 36 (.agg #[.int .u64 xw, .int .u32 xl, .int .u32 xn]) (.agg #[.int .u64 xw, .int .u32 xl, .int .u32 xn])).run Tryz.prog W = .ok (.bool false) W := fun W => by
     have := run_neSt xw xl xn xw xl xn W; simpa using this
    by_cases h4 : xr.length = yr.length
    ·have h5 : ¬ xv.length = yv.length := fun e => h ⟨rfl, rfl, ⟨rfl, rfl, rfl⟩, h4, e⟩
     have h4' : ((xr.length : Int) != (yr.length : Int)) = false := by rw [h4]; simp
     have h5' : ((xv.length : Int) != (yv.length : Int)) = true := by simp; omega
     clear h h4 h5; go_enter Tryz.func56, Tryz.ntmps56
     go_wp2_with fail
     go_ret
     exact ⟨rfl, by (repeat (first | exact Below.refl _ _ | assumption | refine Below.drew ?_ | refine Below.al ?_ _ | refine Below.setCell ?_ (by first | exact Nat.le_refl _ | simp <;> omega) _ | refine Below.on ?_ (by assumption)))⟩
    ·have h4' : ((xr.length : Int) != (yr.length : Int)) = true := by simp; omega
     clear h h4; go_enter Tryz.func56, Tryz.ntmps56
     go_wp2_with fail
     go_ret
     exact ⟨rfl, by (repeat (first | exact Below.refl _ _ | assumption | refine Below.drew ?_ | refine Below.al ?_ _ | refine Below.setCell ?_ (by first | exact Nat.le_refl _ | simp <;> omega) _ | refine Below.on ?_ (by assumption)))⟩
   ·have q3 : ∀ W, (binOp .neq 36 (.agg #[.int .u64 xw, .int .u32 xl, .int .u32 xn]) (.agg #[.int .u64 yw, .int .u32 yl, .int .u32 yn])).run Tryz.prog W = .ok (.bool true) W := fun W => by
     have := run_neSt xw xl xn yw yl yn W; rwa [decide_eq_false h3] at this
    clear h h3; go_enter Tryz.func56, Tryz.ntmps56
    go_wp2_with fail
    go_ret
    exact ⟨rfl, by (repeat (first | exact Below.refl _ _ | assumption | refine Below.drew ?_ | refine Below.al ?_ _ | refine Below.setCell ?_ (by first | exact Nat.le_refl _ | simp <;> omega) _ | refine Below.on ?_ (by assumption)))⟩
  ·have h2' : (xh != yh) = true := by simpa using h2
   clear h h2; go_enter Tryz.func56, Tryz.ntmps56
   go_wp2_with fail
   go_ret
   exact ⟨rfl, by (repeat (first | exact Below.refl _ _ | assumption | refine Below.drew ?_ | refine Below.al ?_ _ | refine Below.setCell ?_ (by first | exact Nat.le_refl _ | simp <;> omega) _ | refine Below.on ?_ (by assumption)))⟩
 ·have q1 : ∀ W, (binOp .neq 33 (.agg #[.int .u32 xc, .int .u32 xs]) (.agg #[.int .u32 yc, .int .u32 ys])).run Tryz.prog W = .ok (.bool true) W := fun W => by
   have := run_neI (xc, xs) (yc, ys) W; rwa [show sameI (xc, xs) (yc, ys) = false from decide_eq_false h1] at this
  clear h h1; go_enter Tryz.func56, Tryz.ntmps56
  go_wp2_with fail
  go_ret
  exact ⟨rfl, by (repeat (first | exact Below.refl _ _ | assumption | refine Below.drew ?_ | refine Below.al ?_ _ | refine Below.setCell ?_ (by first | exact Nat.le_refl _ | simp <;> omega) _ | refine Below.on ?_ (by assumption)))⟩
theorem nth2_ext {a b : List T2} (hl : a.length = b.length) (h : ∀ j, j < a.length → nth2 a j = nth2 b j) : a = b := by
 apply List.ext_getElem hl
 intro j h1 h2; have := h j h1; simpa [nth2, h1, h2] using this
theorem nthW_ext {a b : List Wr} (hl : a.length = b.length) (h : ∀ j, j < a.length → nthW a j = nthW b j) : a = b := by
 apply List.ext_getElem hl
 intro j h1 h2; have := h j h1; simpa [nthW, h1, h2] using this
theorem same_is {x y : Hv} {w : World} {u : Bool} (hu : u = true ↔ x.h = y.h) (hx : x.ok w) (hy : y.ok w) :
  Calls Tryz.prog 56 #[x.val, y.val] w fun e w' => e = .returned (.bool u) ∧ Below w.heap.size w w' := by
 by_cases hall : x.h.id = y.h.id ∧ x.h.home = y.h.home ∧ (x.h.w = y.h.w ∧ x.h.l = y.h.l ∧ x.h.n = y.h.n) ∧ x.h.rs.length = y.h.rs.length ∧ x.h.ws.length = y.h.ws.length
 ·obtain ⟨⟨⟨xc, xs⟩, xh, xw, xl, xn, xr, xv⟩, xra, xrc, xwa, xwc⟩ := x; obtain ⟨⟨⟨yc, ys⟩, yh, yw, yl, yn, yr, yv⟩, yra, yrc, ywa, ywc⟩ := y; obtain ⟨hx1, hx2, hx3, hx4⟩ := hx; obtain ⟨hy1, hy2, _, _⟩ := hy; simp only at hall hu hx1 hx2 hx3 hx4 hy1 hy2; obtain ⟨e1, rfl, ⟨rfl, rfl, rfl⟩, hlr, hlw⟩ := hall; injection e1 with e1 e2
  subst e1 e2; have q1 : ∀ W, (binOp .neq 33 (.agg #[.int .u32 xc, .int .u32 xs]) (.agg #[.int .u32 xc, .int .u32 xs])).run Tryz.prog W = .ok (.bool false) W := fun W => by
   have := run_neI (xc, xs) (xc, xs) W; rwa [show sameI (xc, xs) (xc, xs) = true by simp [sameI]] at this
  have q3 : ∀ W, (binOp .neq 36 (.agg #[.int .u64 xw, .int .u32 xl, .int .u32 xn]) (.agg #[.int .u64 xw, .int .u32 xl, .int .u32 xn])).run Tryz.prog W = .ok (.bool false) W := fun W => by
   have := run_neSt xw xl xn xw xl xn W; simpa using this
  have h4' : ((xr.length : Int) != (yr.length : Int)) = false := by rw [hlr]; simp
  have h5' : ((xv.length : Int) != (yv.length : Int)) = false := by rw [hlw]; simp
  have HU : Hid (u = true ↔ xr = yr ∧ xv = yv) := by
   show _ ↔ _
   rw [hu]; simp
  obtain ⟨wx, hwx⟩ : ∃ wx, wx = (w.alloc (.cells #[.int .u32 xc, .int .u32 xs, .int .u32 xh, .int .u64 xw, .int .u32 xl, .int .u32 xn, .slice xra xr.length xrc, .slice xwa xv.length xwc] 100)).alloc (.cells #[.int .u32 xc, .int .u32 xs, .int .u32 xh, .int .u64 xw, .int .u32 xl, .int .u32 xn, .slice yra yr.length yrc, .slice ywa yv.length ywc] 100) := ⟨_, rfl⟩; have hbx : Below w.heap.size w wx := by rw [hwx]; exact Below.al (Below.al (Below.refl _ _) _) _
  have b6 : wx.cell? ⟨w.heap.size, 6, none⟩ = some (.slice xra xr.length xrc) := by rw [hwx]; simp [go_sem]
  have b7 : wx.cell? ⟨w.heap.size, 7, none⟩ = some (.slice xwa xv.length xwc) := by rw [hwx]; simp [go_sem]
  have d6 : wx.cell? ⟨w.heap.size + 1, 6, none⟩ = some (.slice yra yr.length yrc) := by rw [hwx]; simp [go_sem]
  have d7 : wx.cell? ⟨w.heap.size + 1, 7, none⟩ = some (.slice ywa yv.length ywc) := by rw [hwx]; simp [go_sem]
  have X1 := hid (hx1.later hbx); have X2 := hid (hx2.later hbx); have Y1 := hid (hy1.later hbx); have Y2 := hid (hy2.later hbx); have HBX := hid hbx; have HLR := hid hlr; have HLW := hid hlw; clear hu hx1 hx2 hy1 hy2 hbx hlr hlw; go_enter Tryz.func56, Tryz.ntmps56
  go_wp2_with fail
  rw [← hwx]; clear hwx; go_loopg [5] xr.length (fun g s5 wr => ∃ k : Nat, k ≤ xr.length ∧ g = xr.length - k ∧ s5 = .int .i64 k ∧ Hid (Below wx.heap.size wx wr) ∧ Hid (∀ j, j < k → nth2 xr j = nth2 yr j))
  case atStart => exact ⟨0, by omega, by omega, rfl, Below.refl _ _, fun j hj => absurd hj (by omega)⟩
  case round =>
   obtain ⟨k, hk, rfl, rfl, HB, HA⟩ := hrel; have c6 := cell_later HB.out b6; have e6 := cell_later HB.out d6; by_cases hlt : k < xr.length
   ·obtain ⟨b, off, ex, c0, c1⟩ := (X1.out.later HB.out) k hlt; obtain ⟨b', off', ey, g0, g1⟩ := (Y1.out.later HB.out) k (by have := HLR.out; omega); subst ex ey; obtain ⟨⟨p1, p2⟩, hp⟩ : ∃ p, p = nth2 xr k := ⟨_, rfl⟩; obtain ⟨⟨r1, r2⟩, hr⟩ : ∃ r, r = nth2 yr k := ⟨_, rfl⟩; rw [← hp] at c0 c1; rw [← hr] at g0 g1; simp only at c0 c1 g0 g1; have hk2 : (k : Int) < (yr.length : Int) := by have := HLR.out; omega
    have hk1 : (k : Int) < (xr.length : Int) := by omega
    have k0 := cell_regrown c0; have k1 := cell_regrown c1; have l0 := cell_regrown g0; have l1 := cell_regrown g1; have m6 := cell_regrown c6; have n6 := cell_regrown e6; have HP := hid hp; have HR := hid hr; clear hp hr; by_cases heq : ((p1, p2) : T2) = (r1, r2)
    ·injection heq with z1 z2
     subst z1 z2; have qq : ∀ W, (binOp .neq 126 (.agg #[.string p1, .string p2]) (.agg #[.string p1, .string p2])).run Tryz.prog W = .ok (.bool false) W := fun W => by
      have := run_neSp (p1, p2) (p1, p2) W; simpa using this
     go_wp2_with fail
     refine wp_region_quiet_below (by kernel_rfl) (by kernel_rfl) ?_; repeat (go_big_quiet_step (fail))
     refine wpQuiet_nil ?_; intro wn hwn; replace hwn := bor hwn; go_wp2_with fail
     go_roundg (xr.length - (k + 1))
     case measure => omega
     case rel =>
      refine ⟨k + 1, by omega, rfl, by go_num, Below.on HB.out hwn, fun j hj => ?_⟩; by_cases e : j = k
      ·subst e; rw [← HP.out, ← HR.out]
      ·exact HA.out j (by omega)
    ·have qq : ∀ W, (binOp .neq 126 (.agg #[.string p1, .string p2]) (.agg #[.string r1, .string r2])).run Tryz.prog W = .ok (.bool true) W := fun W => by
      have := run_neSp (p1, p2) (r1, r2) W; rwa [decide_eq_false heq] at this
     have hu0 : u = false := by
      cases u with
      | false => rfl
      | true => exact absurd (by rw [HP.out, HR.out, (HU.out.1 rfl).1]) heq
     subst hu0; clear heq; go_wp2_with fail
     refine wp_region_quiet_below (by kernel_rfl) (by kernel_rfl) ?_; repeat (go_big_quiet_step (fail))
     refine wpQuiet_nil ?_; intro wn hwn; replace hwn := bor hwn; go_wp2_with fail
     go_ret
     exact ⟨rfl, Below.on HBX.out (Below.on HB.out hwn)⟩
   ·obtain rfl : k = xr.length := by omega
    rename World => wA
    have hrr : xr = yr := nth2_ext HLR.out HA.out; have HU2 : Hid (u = true ↔ xv = yv) := by
     show _ ↔ _
     rw [HU.out]; exact ⟨fun h => h.2, fun h => ⟨hrr, h⟩⟩
    have c7 := cell_later HB.out b7; have e7 := cell_later HB.out d7; have HBA := HB; clear HA hrr HU; go_wp2_with fail
    go_loopg [6] xv.length (fun g s6 wr => ∃ k : Nat, k ≤ xv.length ∧ g = xv.length - k ∧ s6 = .int .i64 k ∧ Hid (Below wA.heap.size wA wr) ∧ Hid (∀ j, j < k → nthW xv j = nthW yv j))
    case atStart => exact ⟨0, by omega, by omega, rfl, Below.refl _ _, fun j hj => absurd hj (by omega)⟩
    case round =>
     obtain ⟨k, hk, rfl, rfl, HC, HA⟩ := hrel; have c7 := cell_later HC.out c7; have e7 := cell_later HC.out e7; have hbr := Below.on HBA.out HC.out; by_cases hlt : k < xv.length
     ·obtain ⟨b, off, ex, c0, c1, c2⟩ := (X2.out.later hbr) k hlt; obtain ⟨b', off', ey, g0, g1, g2⟩ := (Y2.out.later hbr) k (by have := HLW.out; omega); subst ex ey; obtain ⟨⟨p1, p2, p3⟩, hp⟩ : ∃ p, p = nthW xv k := ⟨_, rfl⟩; obtain ⟨⟨r1, r2, r3⟩, hr⟩ : ∃ r, r = nthW yv k := ⟨_, rfl⟩; rw [← hp] at c0 c1 c2; rw [← hr] at g0 g1 g2; simp only at c0 c1 c2 g0 g1 g2; have hk2 : (k : Int) < (yv.length : Int) := by have := HLW.out; omega
      have hk1 : (k : Int) < (xv.length : Int) := by omega
      have k0 := cell_regrown c0; have k1 := cell_regrown c1; have k2 := cell_regrown c2; have l0 := cell_regrown g0; have l1 := cell_regrown g1; have l2 := cell_regrown g2; have m7 := cell_regrown c7; have n7 := cell_regrown e7; have HP := hid hp; have HR := hid hr; clear hp hr; cases heq : sameW ⟨p1, p2, p3⟩ ⟨r1, r2, r3⟩ with
      | true =>
       have qq : ∀ W, (binOp .neq 117 (.agg #[.string p1, .bool p2, .string p3]) (.agg #[.string r1, .bool r2, .string r3])).run Tryz.prog W = .ok (.bool false) W := fun W => by
        have := run_neWr ⟨p1, p2, p3⟩ ⟨r1, r2, r3⟩ W; rwa [heq] at this
       have HE := hid (sameW_eq.1 heq); clear heq; go_wp2_with fail
       refine wp_region_quiet_below (by kernel_rfl) (by kernel_rfl) ?_; repeat (go_big_quiet_step (fail))
       refine wpQuiet_nil ?_; intro wn hwn; replace hwn := bor hwn; go_wp2_with fail
       go_roundg (xv.length - (k + 1))
       case measure => omega
       case rel =>
        refine ⟨k + 1, by omega, rfl, by go_num, Below.on HC.out hwn, fun j hj => ?_⟩; by_cases e : j = k
        ·subst e; rw [← HP.out, ← HR.out]; exact HE.out
        ·exact HA.out j (by omega)
      | false =>
       have qq : ∀ W, (binOp .neq 117 (.agg #[.string p1, .bool p2, .string p3]) (.agg #[.string r1, .bool r2, .string r3])).run Tryz.prog W = .ok (.bool true) W := fun W => by
        have := run_neWr ⟨p1, p2, p3⟩ ⟨r1, r2, r3⟩ W; rwa [heq] at this
       have hu0 : u = false := by
        cases u with
        | false => rfl
        | true =>
         have : sameW ⟨p1, p2, p3⟩ ⟨r1, r2, r3⟩ = true := sameW_eq.2 (by rw [HP.out, HR.out, HU2.out.1 rfl]); rw [heq] at this; cases this
       subst hu0; clear heq; go_wp2_with fail
       refine wp_region_quiet_below (by kernel_rfl) (by kernel_rfl) ?_; repeat (go_big_quiet_step (fail))
       refine wpQuiet_nil ?_; intro wn hwn; replace hwn := bor hwn; go_wp2_with fail
       go_ret
       exact ⟨rfl, Below.on HBX.out (Below.on hbr hwn)⟩
     ·obtain rfl : k = xv.length := by omega
      have hu1 : u = true := HU2.out.2 (nthW_ext HLW.out HA.out); subst hu1; go_wp2_with fail
      go_ret
      exact ⟨rfl, Below.on HBX.out hbr⟩
 ·have hu0 : u = false := by
   cases u with
   | false => rfl
   | true => exact absurd (by rw [hu.1 rfl]; exact ⟨rfl, rfl, ⟨rfl, rfl, rfl⟩, rfl, rfl⟩) hall
  subst hu0; exact same_not hall
theorem sameList_is {w : World} {B B' n m c c' : Nat} {a a' : Option Addr} {U V : List Hv} {u : Bool} (hu : u = true ↔ U.map Hv.h = V.map Hv.h) (hU : RowH B w a n c U) (hV : RowH B' w a' m c' V) :
  Calls Tryz.prog 19 #[.slice a n c, .slice a' m c'] w fun e w' => e = .returned (.bool u) ∧ Below w.heap.size w w' := by
 have HU := hid hu; have RU := hid hU; have RV := hid hV; have hln := hU.len; have hnl := own_le hU.own; have hlm := hV.len; by_cases hnm : n = m
 ·have h0 : ((n : Int) != (m : Int)) = false := by rw [hnm]; simp
  have HNM := hid hnm; have HLN := hid hln; have HLM := hid hlm; clear hu hU hV hnm hln hlm; go_enter Tryz.func19, Tryz.ntmps19
  go_wp2_with fail
  go_loopg [5] n (fun g s5 wr => ∃ k : Nat, k ≤ n ∧ g = n - k ∧ s5 = .int .i64 k ∧ Hid (Below w.heap.size w wr) ∧ Hid (∀ j, j < k → (nthH U j).h = (nthH V j).h))
  case atStart => exact ⟨0, by omega, by omega, rfl, Below.refl _ _, fun j hj => absurd hj (by omega)⟩
  case round =>
   obtain ⟨k, hk, rfl, rfl, HB, HA⟩ := hrel; by_cases hlt : k < n
   ·have hkm : k < m := by have := HNM.out; omega
    obtain ⟨g, eg, hc⟩ := ownH_at (RU.out.later HB.out).own HLN.out hlt; obtain ⟨g', eg', hc'⟩ := ownH_at (RV.out.later HB.out).own HLM.out hkm; subst eg eg'; have hx := (RU.out.later HB.out).ok _ (nthH_mem (by rw [HLN.out]; exact hlt)); have hy := (RV.out.later HB.out).ok _ (nthH_mem (by rw [HLM.out]; exact hkm)); obtain ⟨x, hxe⟩ : ∃ x, x = nthH U k := ⟨_, rfl⟩; obtain ⟨y, hye⟩ : ∃ y, y = nthH V k := ⟨_, rfl⟩; rw [← hxe] at hc hx; rw [← hye] at hc' hy; have s0 := cell_regrown (show wr.cell? ⟨g, k * 8, none⟩ = _ from hc 0 _ rfl); have s1 := cell_regrown (hc 1 _ rfl); have s2 := cell_regrown (hc 2 _ rfl); have s3 := cell_regrown (hc 3 _ rfl); have s4 := cell_regrown (hc 4 _ rfl); have s5 := cell_regrown (hc 5 _ rfl); have s6 := cell_regrown (hc 6 _ rfl); have s7 := cell_regrown (hc 7 _ rfl); have t0 := cell_regrown (show wr.cell? ⟨g', k * 8, none⟩ = _ from hc' 0 _ rfl)
    have t1 := cell_regrown (hc' 1 _ rfl); have t2 := cell_regrown (hc' 2 _ rfl); have t3 := cell_regrown (hc' 3 _ rfl); have t4 := cell_regrown (hc' 4 _ rfl); have t5 := cell_regrown (hc' 5 _ rfl); have t6 := cell_regrown (hc' 6 _ rfl); have t7 := cell_regrown (hc' 7 _ rfl); obtain ⟨v, hv⟩ : ∃ v : Bool, v = true ↔ x.h = y.h := by
     by_cases e : x.h = y.h
     ·exact ⟨true, by simp [e]⟩
     ·exact ⟨false, by simp [e]⟩
    have SM : Hid (∀ W, Below wr.heap.size wr W → Calls Tryz.prog 56 #[.agg #[.int .u32 x.h.id.1, .int .u32 x.h.id.2, .int .u32 x.h.home, .int .u64 x.h.w, .int .u32 x.h.l, .int .u32 x.h.n, .slice x.ra x.h.rs.length x.rc, .slice x.wa x.h.ws.length x.wc], .agg #[.int .u32 y.h.id.1, .int .u32 y.h.id.2, .int .u32 y.h.home, .int .u64 y.h.w, .int .u32 y.h.l, .int .u32 y.h.n, .slice y.ra y.h.rs.length y.rc, .slice y.wa y.h.ws.length y.wc]] W fun e w' => e = .returned (.bool v) ∧ Below W.heap.size W w') := fun W hb => same_is hv (hx.later hb) (hy.later hb)
    have HV := hid hv; have HX := hid hxe; have HY := hid hye; have hk1 : (k : Int) < (n : Int) := by omega
    have hk2 : (k : Int) < (m : Int) := by omega
    clear hc hc' hx hy hv hxe hye; cases v with
    | true =>
     go_wp2_with fail
     refine wp_region_quiet_below (by kernel_rfl) (by kernel_rfl) ?_; repeat (go_big_quiet_step (((go_at_call 56; exact Calls.regrown_of (SM.out _ (bor ⟨⟨_, _⟩, rfl⟩))))))
     refine wpQuiet_nil ?_; intro wn hwn; replace hwn := bor hwn; go_wp2_with fail
     go_roundg (n - (k + 1))
     case measure => omega
     case rel =>
      refine ⟨k + 1, by omega, rfl, by go_num, Below.on HB.out hwn, fun j hj => ?_⟩; by_cases e : j = k
      ·subst e; rw [← HX.out, ← HY.out]; exact HV.out.1 (by simp)
      ·exact HA.out j (by omega)
    | false =>
     have hu0 : u = false := by
      cases u with
      | false => rfl
      | true =>
       exfalso
       have h1 := HU.out.1 rfl; have h2 : x.h = y.h := by
        have h3 := congrArg (fun l => l[k]?) h1; have e1 : k < U.length := by rw [HLN.out]; exact hlt
        have e2 : k < V.length := by rw [HLM.out]; exact hkm
        rw [HX.out, HY.out]; simpa [nthH, e1, e2] using h3
       have := HV.out.2 h2; cases this
     subst hu0; go_wp2_with fail
     refine wp_region_quiet_below (by kernel_rfl) (by kernel_rfl) ?_; repeat (go_big_quiet_step (((go_at_call 56; exact Calls.regrown_of (SM.out _ (bor ⟨⟨_, _⟩, rfl⟩))))))
     refine wpQuiet_nil ?_; intro wn hwn; replace hwn := bor hwn; go_wp2_with fail
     go_ret
     exact ⟨rfl, Below.on HB.out hwn⟩
   ·obtain rfl : k = n := by omega
    have hu1 : u = true := HU.out.2 (nthH_ext (by rw [HLN.out, HLM.out, HNM.out]) (by rw [HLN.out]; exact HA.out)); subst hu1; go_wp2_with fail
    go_ret
    exact ⟨rfl, HB.out⟩
 ·have h0 : ((n : Int) != (m : Int)) = true := by simp; omega
  have hu0 : u = false := by
   cases u with
   | false => rfl
   | true =>
    have := congrArg List.length (hu.1 rfl); simp at this; omega
  subst hu0; clear hu hU hV HU RU RV hnm hln hlm; go_enter Tryz.func19, Tryz.ntmps19
  go_wp2_with fail
  go_ret
  exact ⟨rfl, by (repeat (first | exact Below.refl _ _ | assumption | refine Below.drew ?_ | refine Below.al ?_ _ | refine Below.setCell ?_ (by first | exact Nat.le_refl _ | simp <;> omega) _ | refine Below.on ?_ (by assumption)))⟩
end Lk
namespace Ig
open Go.RowKit Go.Sort Ys
theorem ltm_run (a b c : Int) (W : World) : (binOp .neq 36 (.agg #[.int .u64 a, .int .u32 b, .int .u32 c]) (.agg #[.int .u64 a, .int .u32 b, .int .u32 c])).run Tryz.prog W = .ok (.bool false) W := by
 simp [go_sem, Tryz.underlying36]
theorem len_srt {α : Type} (f : α → Ix) (l : List α) : (srt f l).length = l.length := (srt_perm l).length_eq
set_option maxRecDepth 8000 in
theorem loads_law {w : World} {n : Int} {S : ByteArray} (hl : S.size ≤ 1400000) :
  Calls Tryz.prog 5 #[.agg #[.int .u32 n, .string S]] w fun e w' => e = .returned (.bool true) ∧ Below w.heap.size w w' := by
 obtain ⟨wx, hwx⟩ : ∃ wx, wx = w.alloc (.cells #[.int .u32 n, .string S] 53) := ⟨_, rfl⟩; have hbx : Below w.heap.size w wx := by rw [hwx]; exact Below.al (Below.refl _ _) _
 have kx : wx.heap[w.heap.size]? = some (.cells #[.int .u32 n, .string S] 53 (0, 0)) := by rw [hwx]; exact World.alloc_heap_new _ _
 have KX := hid kx; have HBX := hid hbx; obtain ⟨bs, hbs⟩ : ∃ bs, bs = nums S := ⟨_, rfl⟩; have h8 : B8 bs := by rw [hbs]; exact nums_b8 S
 have hS : ofNats bs = S := by rw [hbs]; exact ofNats_nums S
 have hbl : bs.length ≤ 1400000 := by rw [hbs, nln]; exact hl
 obtain ⟨c, hc⟩ : ∃ c, c = (dImg (.at bs)).1 := ⟨_, rfl⟩; have hin : okIN bs.length c := by rw [hc]; exact (dimg_fair bs.length bs h8 (Nat.le_refl _)).1
 have HLD : Hid (Lds n bs ↔ Asks n bs c) := hid (by rw [hc]; exact lds_asks h8 hbl); have DL : Hid (∀ W, Calls Tryz.prog 16 #[.int .u32 n, .string S] W fun e w' => ((e = .returned (.tuple #[.pointer (some ⟨W.heap.size + 1, 0, none⟩), .int .i64 0]) ∧ Hid (Asks n bs c ∧ ∃ U : List Lk.Hv, U.map Lk.Hv.h = c.2.2.2.1 ∧ Dst w' (W.heap.size + 1 + 1) (W.heap.size + 1) c.1 c.2.1 c.2.2.1 U c.2.2.2.2.1 c.2.2.2.2.2)) ∨ (e = .returned (.tuple #[.pointer none, .int .i64 131]) ∧ Hid (¬ Asks n bs c))) ∧ Hid (Below W.heap.size W w')) := hid fun W => by rw [← hS]; exact dload_is h8 hbl hc
 by_cases hld : Lds n bs
 ·obtain ⟨s, ht, hi⟩ := hld; obtain ⟨ho, -⟩ := take_tells h8 hbl ht; have hA : Asks n bs c := HLD.out.1 ⟨s, ht, hi⟩; have hcs : imgOf s = c := by
   have hk : okImg c := by
    obtain ⟨c0, c1, c2, c3, c4, c5⟩ := c; exact snd_ok (by omega) hA.2.1 hin
   exact img_inj ho.okI hk (show imgB s = eImg c by rw [hi, hA.2.2])
  have LY : Hid (Calls Tryz.prog 9 #[.int .u32 n, .string S] wx fun e w' => e = .returned (.tuple #[.pointer (some ⟨wx.heap.size, 0, none⟩), .int .i64 0]) ∧ Hid (Sta wx.heap.size w' wx.heap.size s) ∧ Hid (Below wx.heap.size wx w')) := hid (by rw [← hS]; exact Load_yes h8 (by omega) ht ho hi); have HNA := hid hA; subst hcs; obtain ⟨o1, o2, o3, ⟨o4, l4⟩, ⟨o5, l5⟩, o6, l6⟩ := hin; have l4' : s.H.length ≤ 1400000 := by have : (srt Lk.Hd.id s.H).length ≤ bs.length := l4; rw [len_srt] at this; omega
  have l5' : s.E.length ≤ 1400000 := by have : (srt Lg.En.id s.E).length ≤ bs.length := l5; rw [len_srt] at this; omega
  have l5s : (srt Lg.En.id s.E).length ≤ 1099511627776 := by rw [len_srt]; omega
  have l6' : (Vs.dumpM s.M).length ≤ 1400000 := by have : (Vs.dumpM s.M).length ≤ bs.length := l6; omega
  have l6s : Vs.countM s.M ≤ 1500000 := by have := Vs.dump_len s.M; omega
  have hrl : ∀ x ∈ srt Lk.Hd.id s.H, x.rs.length ≤ 1099511627776 ∧ x.ws.length ≤ 1099511627776 := fun x hx => by
   obtain ⟨-, -, ⟨-, a3⟩, -, a4⟩ := o4 x hx; exact ⟨by omega, by omega⟩
  have hIB : (imgB s).length ≤ 281474976710656 := by rw [hi]; omega
  have HIS : Hid (ofNats (imgB s) = S) := hid (by rw [hi]; exact hS); have q0 : (w.alloc (.cells #[.int .u32 n, .string S] 53)).cell? ⟨w.heap.size, 0, none⟩ = some (.int .u32 n) := by rw [← hwx]; exact Vs.cob (o := 0) kx rfl
  have q1 : (w.alloc (.cells #[.int .u32 n, .string S] 53)).cell? ⟨w.heap.size, 1, none⟩ = some (.string S) := by rw [← hwx]; exact Vs.cob (o := 1) kx rfl
  clear hA ht hbs h8 hS hbl hbx kx hc o1 o2 o3 o4 l4 o5 l5 o6 l6; go_enter Tryz.func5, Tryz.ntmps5
  go_wp2_with fail
  rw [← hwx]; clear hwx q0 q1; refine LY.out.mono ?_; rintro e w1 ⟨rfl, HT, HB1⟩; have r0 := cell_later HB1.out (show wx.cell? ⟨w.heap.size, 0, none⟩ = some (.int .u32 n) from Vs.cob (o := 0) KX.out rfl); have r1 := cell_later HB1.out (show wx.cell? ⟨w.heap.size, 1, none⟩ = some (.string S) from Vs.cob (o := 1) KX.out rfl); obtain ⟨p, hp⟩ : ∃ p, p = wx.heap.size := ⟨_, rfl⟩; rw [← hp] at HT ⊢; clear LY hp; go_wp2_with fail
  refine (DL.out _).mono ?_; rintro e w2 ⟨h2, HB2⟩; obtain ⟨rfl, HD⟩ := h2.resolve_right fun h => h.2.out HNA.out
  obtain ⟨-, U, hU, hD⟩ := HD.out; obtain ⟨mq, hmq⟩ : ∃ mq, mq = w1.heap.size + 1 := ⟨_, rfl⟩; rw [← hmq] at hD ⊢; clear hmq; obtain ⟨F, m1, m2, m, V, I, hT, -⟩ := HT.out.later HB2.out; have HT2 := hid hT; have HD2 := hid hD; have HU := hid hU; have hVl : V.length ≤ 1759218604441 := by
   have h1 : V.map Lk.Hv.h = s.H := hT.h; have h2 : V.length = s.H.length := by rw [← h1, List.length_map]
   omega
  have hUl : U.length ≤ 1099511627776 := by
   have h2 : U.length = (srt Lk.Hd.id s.H).length := by rw [← List.length_map (f := Lk.Hv.h), hU]; rfl
   rw [h2, len_srt]; omega
  have hUr : ∀ u ∈ U, u.h.rs.length ≤ 1099511627776 ∧ u.h.ws.length ≤ 1099511627776 := fun u hu => hrl u.h (by
   have : u.h ∈ U.map Lk.Hv.h := List.mem_map.2 ⟨u, hu, rfl⟩; rw [hU] at this; exact this)
  have IM : Hid (∀ W, Below w2.heap.size w2 W → Calls Tryz.prog 10 #[.pointer (some ⟨p, 0, none⟩)] W fun e w' => e = .returned (.string S) ∧ Below W.heap.size W w') := hid fun W hW => by rw [← HIS.out]; exact Image_is (HT2.out.later hW) ho hIB
  have CE : Hid (∀ W, Below w2.heap.size w2 W → Calls Tryz.prog 11 #[.pointer (some ⟨p, 0, none⟩)] W fun e w' => e = .returned (.int .u64 s.ceil) ∧ Below W.heap.size W w') := hid fun W hW => Ceiling_is (HT2.out.later hW)
  have CD : Hid (∀ W, Below w2.heap.size w2 W → Calls Tryz.prog 17 #[.pointer (some ⟨mq, 0, none⟩)] W fun e w' => e = .returned (.int .u64 s.ceil) ∧ Below W.heap.size W w') := hid fun W hW => dceiling_is (HD2.out.later hW)
  have WM : Hid (∀ W, Below w2.heap.size w2 W → Calls Tryz.prog 12 #[.pointer (some ⟨p, 0, none⟩)] W fun e w' => e = .returned (.agg #[.int .u64 s.wm.a, .int .u32 s.wm.b, .int .u32 s.wm.c]) ∧ Below W.heap.size W w') := hid fun W hW => Watermark_is (HT2.out.later hW)
  have WD : Hid (∀ W, Below w2.heap.size w2 W → Calls Tryz.prog 18 #[.pointer (some ⟨mq, 0, none⟩)] W fun e w' => e = .returned (.agg #[.int .u64 s.wm.a, .int .u32 s.wm.b, .int .u32 s.wm.c]) ∧ Below W.heap.size W w') := hid fun W hW => dwatermark_is (HD2.out.later hW)
  have HE : Hid (∀ W, Below w2.heap.size w2 W → _) := hid fun W hW => Held_is (HT2.out.later hW) hVl
  have HDD : Hid (∀ W, Below w2.heap.size w2 W → _) := hid fun W hW => dheldlist_is (HD2.out.later hW) hUl hUr
  have EN : Hid (∀ W, Below w2.heap.size w2 W → _) := hid fun W hW => Entries_is (HT2.out.later hW) (by omega)
  have ED' : Hid (∀ W, Below w2.heap.size w2 W → _) := hid fun W hW => dentries_is (HD2.out.later hW) l5s
  have VE : Hid (∀ W, Below w2.heap.size w2 W → _) := hid fun W hW => Versions_is (HT2.out.later hW) l6s
  have VD : Hid (∀ W, Below w2.heap.size w2 W → _) := hid fun W hW => dversions_is (HD2.out.later hW) (show (Vs.dumpM s.M).length ≤ 1099511627776 by omega)
  have HBW := hid (Below.on (Below.on HBX.out HB1.out) HB2.out); have R1 := hid (cell_later HB2.out r1); have HL5 := hid l5s; have HL6 : Hid ((Vs.dumpM s.M).length ≤ 1099511627776) := hid (by omega); clear hT hD hU hVl hUl hUr hrl hIB l4' l5' l5s l6' l6s ho r0 r1 HT HB1 HD HLD hi DL; have r1 := cell_regrown R1.out; have qq := ltm_run s.wm.a s.wm.b s.wm.c; have e1 : (S.toList != S.toList) = false := by simp
  have e2 : (s.ceil != s.ceil) = false := by simp
  go_wp2_with fail
  refine wp_region_quiet_below (by kernel_rfl) (by kernel_rfl) ?_; repeat (go_big_quiet_step ((first
   | (go_at_call 10; exact Calls.regrown_of (IM.out _ (bor ⟨⟨_, _⟩, rfl⟩)))
   | (go_at_call 11; exact Calls.regrown_of (CE.out _ (bor ⟨⟨_, _⟩, rfl⟩)))
   | (go_at_call 17; exact Calls.regrown_of (CD.out _ (bor ⟨⟨_, _⟩, rfl⟩)))
   | (go_at_call 12; exact Calls.regrown_of (WM.out _ (bor ⟨⟨_, _⟩, rfl⟩)))
   | (go_at_call 18; exact Calls.regrown_of (WD.out _ (bor ⟨⟨_, _⟩, rfl⟩))))))
  refine wpQuiet_nil ?_; intro w3 h3; replace h3 := bor h3; have HB3 := hid h3; clear h3 r1 qq e1 e2 IM CE CD WM WD; go_wp2_with fail
  refine (HE.out _ HB3.out).mono ?_; rintro e w4 ⟨U1, a1, k1, rfl, HO1, HF1, HU1, HB4⟩; have HB24 := hid (Below.on HB3.out HB4.out); clear HE; go_wp2_with fail
  refine (HDD.out _ HB24.out).mono ?_; rintro e w5 ⟨U2, a2, k2, rfl, HU2, HR2, HB5⟩; have HB25 := hid (Below.on HB24.out HB5.out); have SL := hid (Lk.sameList_is (u := true) (U := U1) (V := U2) (by simp only [true_iff]; rw [HU1.out, HU2.out, HU.out]; rfl) (Lk.RowH.later ⟨HO1.out, rfl, fun u hu => (HF1.out u hu).2⟩ HB5.out) HR2.out); clear HDD; go_wp2_with fail
  refine SL.out.mono ?_; rintro e w6 ⟨rfl, hb6⟩; have HB26 := hid (Below.on HB25.out hb6); clear SL hb6 HO1 HF1 HU1 HU2 HR2 HB4 HB5 HB24 HB25 HB3; go_wp2_with fail
  refine (EN.out _ HB26.out).mono ?_; rintro e w7 ⟨E1, a3, k3, rfl, HO3, HE3, HB7⟩; have HB27 := hid (Below.on HB26.out HB7.out); have hE3 := HE3.out; subst hE3; clear EN; go_wp2_with fail
  refine (ED'.out _ HB27.out).mono ?_; rintro e w8 ⟨a4, k4, rfl, HO4, HB8⟩; have HB28 := hid (Below.on HB27.out HB8.out); have SE := hid (sameEntries_is (c := k3) (c' := k4) (RowG.later (RowG.of_own Lg.ecs_len (by decide) HO3.out) HB8.out) (RowG.of_own Lg.ecs_len (by decide) HO4.out) HL5.out); clear ED'; go_wp2_with fail
  refine SE.out.mono ?_; rintro e w9 ⟨rfl, hb9⟩; have HB29 := hid (Below.on HB28.out hb9); clear SE hb9 HO3 HE3 HO4 HB7 HB8 HB26 HB27 HB28; go_wp2_with fail
  refine (VE.out _ HB29.out).mono ?_; rintro e w10 ⟨a5, k5, rfl, HO5, HB10⟩; have HB210 := hid (Below.on HB29.out HB10.out); clear VE; go_wp2_with fail
  refine (VD.out _ HB210.out).mono ?_; rintro e w11 ⟨a6, k6, rfl, HO6, HB11⟩; have HB211 := hid (Below.on HB210.out HB11.out); have SV := hid (sameVersions_is (c := k5) (c' := k6) (RowG.later (RowG.of_own (enc := c6) (fun x => rfl) (by decide) HO5.out) HB11.out) (RowG.of_own c6_len (by decide) HO6.out) HL6.out); clear VD; go_wp2_with fail
  refine SV.out.mono ?_; rintro e w12 ⟨rfl, hb12⟩; have HBZ := hid (Below.on HBW.out (Below.on HB211.out hb12)); clear SV hb12; go_wp2_with fail
  go_ret
  exact ⟨rfl, HBZ.out⟩
 ·have LN : Hid (Calls Tryz.prog 9 #[.int .u32 n, .string S] wx fun e w' => e = .returned (.tuple #[.pointer none, .int .i64 131]) ∧ Below wx.heap.size wx w') := hid (by rw [← hS]; exact Load_not h8 hbl hld); have HNA : Hid (¬ Asks n bs c) := hid fun h => hld (HLD.out.2 h)
  have q0 : (w.alloc (.cells #[.int .u32 n, .string S] 53)).cell? ⟨w.heap.size, 0, none⟩ = some (.int .u32 n) := by rw [← hwx]; exact Vs.cob (o := 0) kx rfl
  have q1 : (w.alloc (.cells #[.int .u32 n, .string S] 53)).cell? ⟨w.heap.size, 1, none⟩ = some (.string S) := by rw [← hwx]; exact Vs.cob (o := 1) kx rfl
  clear hld hbs h8 hS hbl hbx kx hc hin HLD; go_enter Tryz.func5, Tryz.ntmps5
  go_wp2_with fail
  rw [← hwx]; clear hwx q0 q1; refine LN.out.mono ?_; rintro e w1 ⟨rfl, hb1⟩; have HB1 := hid hb1; have r0 := cell_later hb1 (show wx.cell? ⟨w.heap.size, 0, none⟩ = some (.int .u32 n) from Vs.cob (o := 0) KX.out rfl); have r1 := cell_later hb1 (show wx.cell? ⟨w.heap.size, 1, none⟩ = some (.string S) from Vs.cob (o := 1) KX.out rfl); clear LN hb1; go_wp2_with fail
  refine (DL.out _).mono ?_; rintro e w2 ⟨h2, HB2⟩; rcases h2 with ⟨-, HD⟩ | ⟨rfl, HD⟩
  ·exact absurd HD.out.1 HNA.out
  have HBZ := hid (Below.on (Below.on HBX.out HB1.out) HB2.out); clear DL HB1 HB2 HD HNA r0 r1; go_wp2_with fail
  go_ret
  exact ⟨rfl, HBZ.out⟩
end Ig
end Go.Proofs.YtofpaldolcnmiaaGreat
