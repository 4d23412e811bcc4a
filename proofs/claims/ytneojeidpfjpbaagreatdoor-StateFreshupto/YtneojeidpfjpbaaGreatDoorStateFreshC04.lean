import Derived.Test.YtneojeidpfjpbaaGreatDoorStateFreshC03
set_option linter.unusedVariables false
set_option maxHeartbeats 16000000
namespace Go.Proofs.YtneojeidpfjpbaaGreatDoor.Lk
open Go.RowKit Go.Sort
theorem nth2_ext {a b : List T2} (hl : a.length = b.length) (h : ∀ j, j < a.length → nth2 a j = nth2 b j) : a = b := by
 apply List.ext_getElem hl
 intro j h1 h2; have := h j h1; simpa [nth2, h1, h2] using this
theorem nthW_ext {a b : List Wr} (hl : a.length = b.length) (h : ∀ j, j < a.length → nthW a j = nthW b j) : a = b := by
 apply List.ext_getElem hl
 intro j h1 h2; have := h j h1; simpa [nthW, h1, h2] using this
theorem same_is {x y : Hv} {w : World} {u : Bool} (hu : u = true ↔ x.h = y.h) (hx : x.ok w) (hy : y.ok w) :
  Calls Tryz.prog 14 #[x.val, y.val] w fun e w' => e = .returned (.bool u) ∧ Below w.heap.size w w' := by
 by_cases hall : x.h.id = y.h.id ∧ x.h.home = y.h.home ∧ (x.h.w = y.h.w ∧ x.h.l = y.h.l ∧ x.h.n = y.h.n) ∧ x.h.rs.length = y.h.rs.length ∧ x.h.ws.length = y.h.ws.length
 ·obtain ⟨⟨⟨xc, xs⟩, xh, xw, xl, xn, xr, xv⟩, xra, xrc, xwa, xwc⟩ := x; obtain ⟨⟨⟨yc, ys⟩, yh, yw, yl, yn, yr, yv⟩, yra, yrc, ywa, ywc⟩ := y; obtain ⟨hx1, hx2, hx3, hx4⟩ := hx; obtain ⟨hy1, hy2, _, _⟩ := hy; simp only at hall hu hx1 hx2 hx3 hx4 hy1 hy2; obtain ⟨e1, rfl, ⟨rfl, rfl, rfl⟩, hlr, hlw⟩ := hall; injection e1 with e1 e2
  subst e1 e2; have q1 : ∀ W, (binOp .neq 38 (.agg #[.int .u32 xc, .int .u32 xs]) (.agg #[.int .u32 xc, .int .u32 xs])).run Tryz.prog W = .ok (.bool false) W := fun W => by
   have := run_neI (xc, xs) (xc, xs) W; rwa [show sameI (xc, xs) (xc, xs) = true by simp [sameI]] at this
  have q3 : ∀ W, (binOp .neq 28 (.agg #[.int .u64 xw, .int .u32 xl, .int .u32 xn]) (.agg #[.int .u64 xw, .int .u32 xl, .int .u32 xn])).run Tryz.prog W = .ok (.bool false) W := fun W => by
   have := run_neSt xw xl xn xw xl xn W; simpa using this
  have h4' : ((xr.length : Int) != (yr.length : Int)) = false := by rw [hlr]; simp
  have h5' : ((xv.length : Int) != (yv.length : Int)) = false := by rw [hlw]; simp
  have HU : Hid (u = true ↔ xr = yr ∧ xv = yv) := by
   show _ ↔ _
   rw [hu]; simp
  obtain ⟨wx, hwx⟩ : ∃ wx, wx = (w.alloc (.cells #[.int .u32 xc, .int .u32 xs, .int .u32 xh, .int .u64 xw, .int .u32 xl, .int .u32 xn, .slice xra xr.length xrc, .slice xwa xv.length xwc] 52)).alloc (.cells #[.int .u32 xc, .int .u32 xs, .int .u32 xh, .int .u64 xw, .int .u32 xl, .int .u32 xn, .slice yra yr.length yrc, .slice ywa yv.length ywc] 52) := ⟨_, rfl⟩; have hbx : Below w.heap.size w wx := by rw [hwx]; exact Below.al (Below.al (Below.refl _ _) _) _
  have b6 : wx.cell? ⟨w.heap.size, 6, none⟩ = some (.slice xra xr.length xrc) := by rw [hwx]; simp [go_sem]
  have b7 : wx.cell? ⟨w.heap.size, 7, none⟩ = some (.slice xwa xv.length xwc) := by rw [hwx]; simp [go_sem]
  have d6 : wx.cell? ⟨w.heap.size + 1, 6, none⟩ = some (.slice yra yr.length yrc) := by rw [hwx]; simp [go_sem]
  have d7 : wx.cell? ⟨w.heap.size + 1, 7, none⟩ = some (.slice ywa yv.length ywc) := by rw [hwx]; simp [go_sem]
  have X1 := hid (hx1.later hbx); have X2 := hid (hx2.later hbx); have Y1 := hid (hy1.later hbx); have Y2 := hid (hy2.later hbx); have HBX := hid hbx; have HLR := hid hlr; have HLW := hid hlw; clear hu hx1 hx2 hy1 hy2 hbx hlr hlw; go_enter Tryz.func14, Tryz.ntmps14
  go_wp2_with fail
  rw [← hwx]; clear hwx; go_loopg [5] xr.length (fun g s5 wr => ∃ k : Nat, k ≤ xr.length ∧ g = xr.length - k ∧ s5 = .int .i64 k ∧ Hid (Below wx.heap.size wx wr) ∧ Hid (∀ j, j < k → nth2 xr j = nth2 yr j))
  case atStart => exact ⟨0, by omega, by omega, rfl, Below.refl _ _, fun j hj => absurd hj (by omega)⟩
  case round =>
   obtain ⟨k, hk, rfl, rfl, HB, HA⟩ := hrel; have c6 := cell_later HB.out b6; have e6 := cell_later HB.out d6; by_cases hlt : k < xr.length
   ·obtain ⟨b, off, ex, c0, c1⟩ := (X1.out.later HB.out) k hlt; obtain ⟨b', off', ey, g0, g1⟩ := (Y1.out.later HB.out) k (by have := HLR.out; omega); subst ex ey; obtain ⟨⟨p1, p2⟩, hp⟩ : ∃ p, p = nth2 xr k := ⟨_, rfl⟩; obtain ⟨⟨r1, r2⟩, hr⟩ : ∃ r, r = nth2 yr k := ⟨_, rfl⟩; rw [← hp] at c0 c1; rw [← hr] at g0 g1; simp only at c0 c1 g0 g1; have hk2 : (k : Int) < (yr.length : Int) := by have := HLR.out; omega
    have hk1 : (k : Int) < (xr.length : Int) := by omega
    have k0 := cell_regrown c0; have k1 := cell_regrown c1; have l0 := cell_regrown g0; have l1 := cell_regrown g1; have m6 := cell_regrown c6; have n6 := cell_regrown e6; have HP := hid hp; have HR := hid hr; clear hp hr; by_cases heq : ((p1, p2) : T2) = (r1, r2)
    ·injection heq with z1 z2
     subst z1 z2; have qq : ∀ W, (binOp .neq 25 (.agg #[.string p1, .string p2]) (.agg #[.string p1, .string p2])).run Tryz.prog W = .ok (.bool false) W := fun W => by
      have := run_neSp (p1, p2) (p1, p2) W; simpa using this
     go_wp2_with fail
     refine wp_region_quiet_below (by kernel_rfl) (by kernel_rfl) ?_; repeat (go_big_quiet_step (fail))
     refine wpQuiet_nil ?_; intro wn hwn; replace hwn := below_of_regrown hwn; go_wp2_with fail
     go_roundg (xr.length - (k + 1))
     case measure => omega
     case rel =>
      refine ⟨k + 1, by omega, rfl, by go_num, Below.on HB.out hwn, fun j hj => ?_⟩; by_cases e : j = k
      ·subst e; rw [← HP.out, ← HR.out]
      ·exact HA.out j (by omega)
    ·have qq : ∀ W, (binOp .neq 25 (.agg #[.string p1, .string p2]) (.agg #[.string r1, .string r2])).run Tryz.prog W = .ok (.bool true) W := fun W => by
      have := run_neSp (p1, p2) (r1, r2) W; rwa [decide_eq_false heq] at this
     have hu0 : u = false := by
      cases u with
      | false => rfl
      | true => exact absurd (by rw [HP.out, HR.out, (HU.out.1 rfl).1]) heq
     subst hu0; clear heq; go_wp2_with fail
     refine wp_region_quiet_below (by kernel_rfl) (by kernel_rfl) ?_; repeat (go_big_quiet_step (fail))
     refine wpQuiet_nil ?_; intro wn hwn; replace hwn := below_of_regrown hwn; go_wp2_with fail
     go_ret
     exact ⟨rfl, Below.on HBX.out (Below.on HB.out hwn)⟩
   ·obtain rfl : k = xr.length := by omega
    rename World => wA
    have hrr : xr = yr := nth2_ext HLR.out HA.out; have HU2 : Hid (u = true ↔ xv = yv) := by
     show _ ↔ _
     rw [HU.out]; exact ⟨fun h => h.2, fun h => ⟨hrr, h⟩⟩
    have c7 := cell_later HB.out b7; have e7 := cell_later HB.out d7; have HBA := HB; clear HA hrr HU; go_wp2_with fail
    go_loopg [6] xv.length (fun g s6 wr => ∃ k : Nat, k ≤ xv.length ∧ g = xv.length - k ∧ s6 = .int .i64 k ∧ Hid (Below wA.heap.size wA wr) ∧ Hid (∀ j, j < k → nthW xv j = nthW yv j))
    case atStart => exact ⟨0, by omega, by omega, rfl, Below.refl _ _, fun j hj => absurd hj (by omega)⟩
    case round =>
     obtain ⟨k, hk, rfl, rfl, HC, HA⟩ := hrel; have c7 := cell_later HC.out c7; have e7 := cell_later HC.out e7; have hbr := Below.on HBA.out HC.out; by_cases hlt : k < xv.length
     ·obtain ⟨b, off, ex, c0, c1, c2⟩ := (X2.out.later hbr) k hlt; obtain ⟨b', off', ey, g0, g1, g2⟩ := (Y2.out.later hbr) k (by have := HLW.out; omega); subst ex ey; obtain ⟨⟨p1, p2, p3⟩, hp⟩ : ∃ p, p = nthW xv k := ⟨_, rfl⟩; obtain ⟨⟨r1, r2, r3⟩, hr⟩ : ∃ r, r = nthW yv k := ⟨_, rfl⟩; rw [← hp] at c0 c1 c2; rw [← hr] at g0 g1 g2; simp only at c0 c1 c2 g0 g1 g2; have hk2 : (k : Int) < (yv.length : Int) := by have := HLW.out; omega
      have hk1 : (k : Int) < (xv.length : Int) := by omega
      have k0 := cell_regrown c0; have k1 := cell_regrown c1; have k2 := cell_regrown c2; have l0 := cell_regrown g0; have l1 := cell_regrown g1; have l2 := cell_regrown g2; have m7 := cell_regrown c7; have n7 := cell_regrown e7; have HP := hid hp; have HR := hid hr; clear hp hr; cases heq : sameW ⟨p1, p2, p3⟩ ⟨r1, r2, r3⟩ with
      | true =>
       have qq : ∀ W, (binOp .neq 103 (.agg #[.string p1, .bool p2, .string p3]) (.agg #[.string r1, .bool r2, .string r3])).run Tryz.prog W = .ok (.bool false) W := fun W => by
        have := run_neWr ⟨p1, p2, p3⟩ ⟨r1, r2, r3⟩ W; rwa [heq] at this
       have HE := hid (sameW_eq.1 heq); clear heq; go_wp2_with fail
       refine wp_region_quiet_below (by kernel_rfl) (by kernel_rfl) ?_; repeat (go_big_quiet_step (fail))
       refine wpQuiet_nil ?_; intro wn hwn; replace hwn := below_of_regrown hwn; go_wp2_with fail
       go_roundg (xv.length - (k + 1))
       case measure => omega
       case rel =>
        refine ⟨k + 1, by omega, rfl, by go_num, Below.on HC.out hwn, fun j hj => ?_⟩; by_cases e : j = k
        ·subst e; rw [← HP.out, ← HR.out]; exact HE.out
        ·exact HA.out j (by omega)
      | false =>
       have qq : ∀ W, (binOp .neq 103 (.agg #[.string p1, .bool p2, .string p3]) (.agg #[.string r1, .bool r2, .string r3])).run Tryz.prog W = .ok (.bool true) W := fun W => by
        have := run_neWr ⟨p1, p2, p3⟩ ⟨r1, r2, r3⟩ W; rwa [heq] at this
       have hu0 : u = false := by
        cases u with
        | false => rfl
        | true =>
         have : sameW ⟨p1, p2, p3⟩ ⟨r1, r2, r3⟩ = true := sameW_eq.2 (by rw [HP.out, HR.out, HU2.out.1 rfl]); rw [heq] at this; cases this
       subst hu0; clear heq; go_wp2_with fail
       refine wp_region_quiet_below (by kernel_rfl) (by kernel_rfl) ?_; repeat (go_big_quiet_step (fail))
       refine wpQuiet_nil ?_; intro wn hwn; replace hwn := below_of_regrown hwn; go_wp2_with fail
       go_ret
       exact ⟨rfl, Below.on HBX.out (Below.on hbr hwn)⟩
     ·obtain rfl : k = xv.length := by omega
      have hu1 : u = true := HU2.out.2 (nthW_ext HLW.out HA.out); subst hu1; go_wp2_with fail
      go_ret
      exact ⟨rfl, Below.on HBX.out hbr⟩
 ·have hu0 : u = false := by
   cases u with
   | false => rfl
   | true => exact absurd (by rw [hu.1 rfl]; exact ⟨rfl, rfl, ⟨rfl, rfl, rfl⟩, rfl, rfl⟩) hall
  subst hu0; exact same_not hall
theorem sameList_is {w : World} {B B' n m c c' : Nat} {a a' : Option Addr} {U V : List Hv} {u : Bool} (hu : u = true ↔ U.map Hv.h = V.map Hv.h) (hU : RowH B w a n c U) (hV : RowH B' w a' m c' V) :
  Calls Tryz.prog 12 #[.slice a n c, .slice a' m c'] w fun e w' => e = .returned (.bool u) ∧ Below w.heap.size w w' := by
 have HU := hid hu; have RU := hid hU; have RV := hid hV; have hln := hU.len; have hnl := own_le hU.own; have hlm := hV.len; by_cases hnm : n = m
 ·have h0 : ((n : Int) != (m : Int)) = false := by rw [hnm]; simp
  have HNM := hid hnm; have HLN := hid hln; have HLM := hid hlm; clear hu hU hV hnm hln hlm; go_enter Tryz.func12, Tryz.ntmps12
  go_wp2_with fail
  go_loopg [5] n (fun g s5 wr => ∃ k : Nat, k ≤ n ∧ g = n - k ∧ s5 = .int .i64 k ∧ Hid (Below w.heap.size w wr) ∧ Hid (∀ j, j < k → (nthH U j).h = (nthH V j).h))
  case atStart => exact ⟨0, by omega, by omega, rfl, Below.refl _ _, fun j hj => absurd hj (by omega)⟩
  case round =>
   obtain ⟨k, hk, rfl, rfl, HB, HA⟩ := hrel; by_cases hlt : k < n
   ·have hkm : k < m := by have := HNM.out; omega
    obtain ⟨g, eg, hc⟩ := ownH_at (RU.out.later HB.out).own HLN.out hlt; obtain ⟨g', eg', hc'⟩ := ownH_at (RV.out.later HB.out).own HLM.out hkm; subst eg eg'; have hx := (RU.out.later HB.out).ok _ (nthH_mem (by rw [HLN.out]; exact hlt)); have hy := (RV.out.later HB.out).ok _ (nthH_mem (by rw [HLM.out]; exact hkm)); obtain ⟨x, hxe⟩ : ∃ x, x = nthH U k := ⟨_, rfl⟩; obtain ⟨y, hye⟩ : ∃ y, y = nthH V k := ⟨_, rfl⟩; rw [← hxe] at hc hx; rw [← hye] at hc' hy; have s0 := cell_regrown (show wr.cell? ⟨g, k * 8, none⟩ = _ from hc 0 _ rfl); have s1 := cell_regrown (hc 1 _ rfl); have s2 := cell_regrown (hc 2 _ rfl); have s3 := cell_regrown (hc 3 _ rfl); have s4 := cell_regrown (hc 4 _ rfl); have s5 := cell_regrown (hc 5 _ rfl); have s6 := cell_regrown (hc 6 _ rfl); have s7 := cell_regrown (hc 7 _ rfl); have t0 := cell_regrown (show wr.cell? ⟨g', k * 8, none⟩ = _ from hc' 0 _ rfl)
    have t1 := cell_regrown (hc' 1 _ rfl); have t2 := cell_regrown (hc' 2 _ rfl); have t3 := cell_regrown (hc' 3 _ rfl); have t4 := cell_regrown (hc' 4 _ rfl); have t5 := cell_regrown (hc' 5 _ rfl); have t6 := cell_regrown (hc' 6 _ rfl); have t7 := cell_regrown (hc' 7 _ rfl); obtain ⟨v, hv⟩ : ∃ v : Bool, v = true ↔ x.h = y.h := by
     by_cases e : x.h = y.h
     ·exact ⟨true, by simp [e]⟩
     ·exact ⟨false, by simp [e]⟩
    have SM : Hid (∀ W, Below wr.heap.size wr W → Calls Tryz.prog 14 #[.agg #[.int .u32 x.h.id.1, .int .u32 x.h.id.2, .int .u32 x.h.home, .int .u64 x.h.w, .int .u32 x.h.l, .int .u32 x.h.n, .slice x.ra x.h.rs.length x.rc, .slice x.wa x.h.ws.length x.wc], .agg #[.int .u32 y.h.id.1, .int .u32 y.h.id.2, .int .u32 y.h.home, .int .u64 y.h.w, .int .u32 y.h.l, .int .u32 y.h.n, .slice y.ra y.h.rs.length y.rc, .slice y.wa y.h.ws.length y.wc]] W fun e w' => e = .returned (.bool v) ∧ Below W.heap.size W w') := fun W hb => same_is hv (hx.later hb) (hy.later hb)
    have HV := hid hv; have HX := hid hxe; have HY := hid hye; have hk1 : (k : Int) < (n : Int) := by omega
    have hk2 : (k : Int) < (m : Int) := by omega
    clear hc hc' hx hy hv hxe hye; cases v with
    | true =>
     go_wp2_with fail
     refine wp_region_quiet_below (by kernel_rfl) (by kernel_rfl) ?_; repeat (go_big_quiet_step (((go_at_call 14; exact Calls.regrown_of (SM.out _ (below_of_regrown ⟨⟨_, _⟩, rfl⟩))))))
     refine wpQuiet_nil ?_; intro wn hwn; replace hwn := below_of_regrown hwn; go_wp2_with fail
     go_roundg (n - (k + 1))
     case measure => omega
     case rel =>
      refine ⟨k + 1, by omega, rfl, by go_num, Below.on HB.out hwn, fun j hj => ?_⟩; by_cases e : j = k
      ·subst e; rw [← HX.out, ← HY.out]; exact HV.out.1 (by simp)
      ·exact HA.out j (by omega)
    | false =>
     have hu0 : u = false := by
      cases u with
      | false => rfl
      | true =>
       exfalso
       have h1 := HU.out.1 rfl; have h2 : x.h = y.h := by
        have h3 := congrArg (fun l => l[k]?) h1; have e1 : k < U.length := by rw [HLN.out]; exact hlt
        have e2 : k < V.length := by rw [HLM.out]; exact hkm
        rw [HX.out, HY.out]; simpa [nthH, e1, e2] using h3
       have := HV.out.2 h2; cases this
     subst hu0; go_wp2_with fail
     refine wp_region_quiet_below (by kernel_rfl) (by kernel_rfl) ?_; repeat (go_big_quiet_step (((go_at_call 14; exact Calls.regrown_of (SM.out _ (below_of_regrown ⟨⟨_, _⟩, rfl⟩))))))
     refine wpQuiet_nil ?_; intro wn hwn; replace hwn := below_of_regrown hwn; go_wp2_with fail
     go_ret
     exact ⟨rfl, Below.on HB.out hwn⟩
   ·obtain rfl : k = n := by omega
    have hu1 : u = true := HU.out.2 (nthH_ext (by rw [HLN.out, HLM.out, HNM.out]) (by rw [HLN.out]; exact HA.out)); subst hu1; go_wp2_with fail
    go_ret
    exact ⟨rfl, HB.out⟩
 ·have h0 : ((n : Int) != (m : Int)) = true := by simp; omega
  have hu0 : u = false := by
   cases u with
   | false => rfl
   | true =>
    have := congrArg List.length (hu.1 rfl); simp at this; omega
  subst hu0; clear hu hU hV HU RU RV hnm hln hlm; go_enter Tryz.func12, Tryz.ntmps12
  go_wp2_with fail
  go_ret
  exact ⟨rfl, by (repeat (first | exact Below.refl _ _ | assumption | refine Below.drew ?_ | refine Below.al ?_ _ | refine Below.setCell ?_ (by first | exact Nat.le_refl _ | (simp; omega) | (simp; done)) _ | refine Below.on ?_ (by assumption)))⟩
end Go.Proofs.YtneojeidpfjpbaaGreatDoor.Lk
namespace Go.Proofs.YtneojeidpfjpbaaGreatDoor.Ig
open Go.RowKit Go.Sort Ys
structure Px where
 node : Int
 la : Option Addr
 ls : List Rg
 lc : Nat
 lo : ByteArray
 hi : ByteArray
 t : Vs.Sp
 ya : Option Addr
 yn : Nat
 yc : Nat
abbrev Px.cells (x : Px) : Array Value := #[.int .u32 x.node, .slice x.la x.ls.length x.lc, .string x.lo, .string x.hi, .int .u64 x.t.a, .int .u32 x.t.b, .int .u32 x.t.c, .slice x.ya x.yn x.yc]
abbrev Px.val (x : Px) : Value := .agg x.cells
theorem held_len {n : Int} {k : Nat} {s : Ps} (h : Run n k s) {U : List Lk.Hv} (hU : U.map Lk.Hv.h = srt Lk.Hd.id s.H) : ∀ u ∈ U, u.h.rs.length ≤ 1073741824 ∧ u.h.ws.length ≤ 1073741824 := fun u hu => by
 have hm : u.h ∈ srt Lk.Hd.id s.H := by rw [← hU]; exact List.mem_map.2 ⟨u, hu, rfl⟩
 obtain ⟨h1, h2⟩ := held_short (h.tw.hd _ (srt_mem.1 hm)).2.1; omega
set_option maxRecDepth 100000 in
theorem fresh_law {w : World} {x : Px} (hL : RowL w x.la x.ls) (hl : x.ls.length ≤ 93000) (hn : okU 4294967295 x.node) (hsz : ∀ r ∈ x.ls, r.rs.length ≤ 1048576 ∧ r.ws.length ≤ 1048576) (ht : Lk.PowTab w) :
  Calls Tryz.prog 3 #[x.val] w fun e w' => e = .returned (.bool true) ∧ Below w.heap.size w w' := by
 obtain ⟨wx, hwx⟩ : ∃ wx, wx = w.alloc (.cells x.cells 30) := ⟨_, rfl⟩; have hbx : Below w.heap.size w wx := by rw [hwx]; exact Below.al (Below.refl _ _) _
 have kx : wx.heap[w.heap.size]? = some (.cells x.cells 30 (0, 0)) := by rw [hwx]; exact World.alloc_heap_new _ _
 have HX : Hid (∀ wz, Below wx.heap.size wx wz → ∀ o v, x.cells[o]? = some v → wz.cell? ⟨w.heap.size, o, none⟩ = some v) := hid fun wz hb o v ho => cell_later hb (Vs.cell_of_obj kx ho)
 have HLL := hid (hL.later hbx); have BG : Hid (∀ wz, Calls Tryz.prog 4 #[.int .u32 x.node] wz fun e w' => ∃ p, e = .returned (sp p) ∧ Hid (Sta wz.heap.size w' p (hdS x.node 3)) ∧ Below wz.heap.size wz w') := hid fun wz => begun_is wz x.node
 have HBX := hid hbx; have HNN := hid hn; have HSL := hid hsz; have HT : Hid (Lk.PowTab w) := hid ht; have HWW : Hid (∀ wz, Below wx.heap.size wx wz → Below w.heap.size w wz) := hid fun wz hb => Below.on hbx hb
 have HWL : Hid (w.heap.size < wx.heap.size) := hid (by rw [hwx]; simp); obtain ⟨N, hN⟩ : ∃ N, x.ls.length = N := ⟨_, rfl⟩; have HN := hid hN; have HLN : Hid (N ≤ 93000) := hid (by rw [← hN]; exact hl); have hNl := HLN.out; have x0 : wx.cell? ⟨w.heap.size, 0, none⟩ = some (.int .u32 x.node) := HX.out wx (Below.refl _ _) 0 _ rfl; clear hL hbx kx hn hsz ht hl; go_enter Tryz.func3, Tryz.ntmps3
 go_upto_region 1 with fail
 rw [← hwx]; clear hwx; go_wp2_with fail
 refine (BG.out wx).mono ?_; rintro e w1 ⟨p, rfl, HT1, hb1⟩; have HB1 := hid hb1; have x1 : w1.cell? ⟨w.heap.size, 1, none⟩ = some (.slice x.la N x.lc) := by rw [← HN.out]; exact HX.out w1 hb1 1 _ rfl
 have OW : Hid (Calls Tryz.prog 5 #[.slice x.la N x.lc] w1 fun e w' => ∃ (oa : Option Addr) (oc : Nat) (U : List Rg), e = .returned (.slice oa N oc) ∧ Hid (CopF w1.heap.size w1 w' oa oc x.ls U N)) := hid (by
  rw [← HN.out]; exact ownF_is (fun i r hr => by obtain ⟨h1, h2⟩ := (HLL.out.later hb1) i r hr; exact ⟨h1, h2.ok, h2.rl, h2.wl⟩) (by rw [HN.out]; exact Nat.le_trans HLN.out (by decide)))
 clear hb1 x0; go_wp2_with fail
 refine OW.out.mono ?_; rintro e w2 ⟨oa, oc, U, rfl, HC⟩; clear x1 OW; obtain ⟨s0, hs0⟩ : ∃ s0, s0 = { hdS x.node 3 with lo := w2.heap.size } := ⟨_, rfl⟩; have HS0 := hid hs0; have HB2 : Hid (Below wx.heap.size wx w2) := hid (Below.on HB1.out HC.out.cp.bl); have HSB : Hid (wx.heap.size ≤ w1.heap.size ∧ w1.heap.size ≤ w2.heap.size) := hid ⟨HB1.out.size, HC.out.cp.bl.size⟩; have HUL : Hid (U.length = N) := hid HC.out.cp.ln; have HM0 : Hid (Ma wx.heap.size w1.heap.size w2 w2 p x.node s0 x.ls 0) := hid ⟨by rw [hs0]; exact Stg.of HT1.out rfl HC.out.cp.bl, by rw [hs0]; exact (run_hd HNN.out).raise _, Onl.refl _ _⟩; clear hs0; go_wp2_with fail
 go_loopg [5] N (fun gg s5 wr => ∃ k : Nat, k ≤ N ∧ gg = N - k ∧ s5 = .int .i64 k ∧ Hid (Ma wx.heap.size w1.heap.size w2 wr p x.node s0 x.ls k))
 case atStart => exact ⟨0, by omega, by omega, rfl, HM0⟩
 case round =>
  obtain ⟨k, hk, rfl, rfl, HM⟩ := hrel; clear HM0; by_cases hlt : k < N
  ·have hI : (k : Int) < (N : Int) := by omega
   obtain ⟨r, hr⟩ : ∃ r, x.ls[k]? = some r := ⟨x.ls[k]'(by rw [HN.out]; exact hlt), by simp⟩; have hos : Own x.ls U := by have := HC.out.cp.os; rwa [List.take_of_length_le (Nat.le_of_eq HN.out)] at this
   obtain ⟨g1, g2, hu⟩ := Own.at hos hr; obtain ⟨u, hue⟩ : ∃ u, u = r.own g1 g2 := ⟨_, rfl⟩; rw [← hue] at hu; obtain ⟨g, hg, bx⟩ := (HM.out.own HC.out).at hu hlt; subst hg; have hRA := (HLL.out k r hr).2; have AP := hid (HM.out.apply (Nat.le_trans HSB.out.1 HSB.out.2) HC.out (by have := HLN.out; omega) hr (List.mem_of_getElem? hu) hue hRA.rg hRA.rx); have b0 := bx.c0; have b1 := bx.c1; have b2 := bx.c2; have b3 := bx.c3; have b4 := bx.c4; have b5 := bx.c5; have b6 := bx.c6; have b7 := bx.c7; have b8 := bx.c8; have b9 := bx.c9; have b10 := bx.c10; have b11 := bx.c11
   clear bx hRA hos hue hu hr; go_wp2_with fail
   refine AP.out.mono ?_; rintro e w5 ⟨E, rfl, HM5⟩; clear b0 b1 b2 b3 b4 b5 b6 b7 b8 b9 b10 b11 AP; go_wp2_with fail
   go_roundg (N - (k + 1))
   case measure => omega
   case rel => exact ⟨k + 1, by omega, rfl, by go_num, HM5⟩
  ·obtain rfl : N = k := by omega
   rename World => v2
   have HBv : Hid (Below wx.heap.size wx v2) := hid (HB2.out.trans (HM.out.on.below (B := wx.heap.size) (fun b hb => hb.1) HB2.out.size)); have SPL := hid (spoil_is HT.out (HWW.out _ HBv.out) (Nat.le_trans (Nat.le_of_lt HWL.out) HSB.out.1) (Nat.le_trans HSB.out.2 HM.out.le) (HM.out.own HC.out) HUL.out (fun u hu => HM.out.fresh HC.out hu) HC.out.ap (fun u hu => by
    obtain ⟨r, hr, g1, g2, e⟩ := Own.mem HC.out.cp.os hu; rw [e]; exact HSL.out r (List.mem_of_mem_take hr)) (Nat.le_trans HLN.out (by decide)))
   clear hlt hk; go_wp2_with fail
   refine SPL.out.mono ?_; rintro e w3 ⟨rfl, HSP⟩; obtain ⟨S, hS⟩ : ∃ S, S = axL s0 x.ls := ⟨_, rfl⟩; have HTK : Hid (x.ls.take N = x.ls) := hid (List.take_of_length_le (Nat.le_of_eq HN.out)); have HS3 : Hid (Sta wx.heap.size w3 p S) := hid (by
    have := (HM.out.spoilt HC.out HSP.out).sta; rwa [HTK.out, ← hS] at this)
   have HRS : Hid (Run x.node N S) := hid (by have := HM.out.run; rwa [HTK.out, ← hS] at this); have HSE := hid hS; have HB3 : Hid (Below wx.heap.size wx w3) := hid (HBv.out.trans (HSP.out.below (B := wx.heap.size) (fun b ⟨u, hu, hb⟩ => Nat.le_trans HSB.out.1 ((HC.out.fr u hu).has hb).1) HBv.out.size)); clear HM HSP SPL HC HUL HB2 HBv HT1 hS HB1 HSB; have x0 : w3.cell? ⟨w.heap.size, 0, none⟩ = some (.int .u32 x.node) := HX.out w3 HB3.out 0 _ rfl; go_wp2_with fail
   refine (BG.out w3).mono ?_; rintro e w4 ⟨q, rfl, HT4, hb4⟩; have HB4 : Hid (Below wx.heap.size wx w4) := hid (Below.on HB3.out hb4); have HM0 : Hid (Mt wx.heap.size w4 p q x.node x.ls (hdS x.node 3) S 0) := hid ⟨Two.mk HS3.out hb4 HB3.out.size HT4.out, run_hd HNN.out⟩; clear hb4 HT4 BG x0 HS3 HB3; go_wp2_with fail
   go_loopg [7] N (fun gg s7 wr => ∃ k : Nat, k ≤ N ∧ gg = N - k ∧ s7 = .int .i64 k ∧ Hid (Mt wx.heap.size wr p q x.node x.ls (hdS x.node 3) S k) ∧ Hid (Below wx.heap.size wx wr))
   case atStart => exact ⟨0, by omega, by omega, rfl, HM0, HB4⟩
   case round =>
    obtain ⟨k, hk, rfl, rfl, HM, HB⟩ := hrel; clear HM0 HB4; have x1 : wr.cell? ⟨w.heap.size, 1, none⟩ = some (.slice x.la N x.lc) := by rw [← HN.out]; exact HX.out wr HB.out 1 _ rfl
    by_cases hlt : k < N
    ·have hI : (k : Int) < (N : Int) := by omega
     obtain ⟨r, hr⟩ : ∃ r, x.ls[k]? = some r := ⟨x.ls[k]'(by rw [HN.out]; exact hlt), by simp⟩; obtain ⟨⟨rb, ro, hla, BX⟩, RA⟩ := HLL.out k r hr; have bx := BX.later HB.out; have HRA := hid (RA.later HB.out); have HR := hid hr; rw [hla] at x1; have b0 := bx.c0; have b1 := bx.c1; have b2 := bx.c2; have b3 := bx.c3; have b4 := bx.c4; have b5 := bx.c5; have b6 := bx.c6; have b7 := bx.c7; have b8 := bx.c8; have b9 := bx.c9; have b10 := bx.c10; have b11 := bx.c11
     clear BX RA hr bx hla; go_wp2_with fail
     refine (copied_is HRA.out.ok HRA.out.rl HRA.out.wl).mono ?_; rintro e w5 ⟨g1, g2, rfl, hr1, hr2, hne⟩; have HB5 := hid (Below.on HB.out hr1.bl); have AP := hid ((HM.out.later hr1.bl).apply HB5.out.size (by have := HLN.out; omega) HR.out (own_ok (HRA.out.ok.later hr1.bl) hr1 hr2) HRA.out.rg HRA.out.rx); clear hr1 hr2 hne b0 b1 b2 b3 b4 b5 b6 b7 b8 b9 b10 b11 x1; go_wp2_with fail
     refine AP.out.mono ?_; rintro e w6 ⟨E, rfl, HM6⟩; have HB6 := hid (HB5.out.trans HM6.out.2); have HM7 := hid HM6.out.1; clear AP HM6; go_wp2_with fail
     go_roundg (N - (k + 1))
     case measure => omega
     case rel => exact ⟨k + 1, by omega, rfl, by go_num, HM7, HB6⟩
    ·obtain rfl : N = k := by omega
     rename World => wA
     obtain ⟨T, hT⟩ : ∃ T, T = axL (hdS x.node 3) x.ls := ⟨_, rfl⟩; have HQ : Hid (Q2 wx.heap.size wA p q x.node N S T) := hid ⟨by have := HM.out.tw; rwa [HTK.out, ← hT] at this, HRS.out, by
      rw [HSE.out, HS0.out, hT]; exact Eqv.axl (eqv_lo (run_hd HNN.out) (by simp [hdS]) _), HLN.out⟩
     have HBA := hid HB.out; clear hlt hk HM hT HRS HSE HS0 HTK HB; obtain ⟨IM, hIM⟩ : ∃ IM, ofNats (imgB S) = IM := ⟨_, rfl⟩; have sb : (IM.toList == IM.toList) = true := by simp
     have I1 : Hid (∀ wz, Below wA.heap.size wA wz → Calls Tryz.prog 9 #[sp p] wz fun e w' => e = .returned (.string IM) ∧ Below wz.heap.size wz w') := hid fun wz hb => by rw [← hIM]; exact (HQ.out.later hb).image1
     have I2 : Hid (∀ wz, Below wA.heap.size wA wz → Calls Tryz.prog 9 #[sp q] wz fun e w' => e = .returned (.string IM) ∧ Below wz.heap.size wz w') := hid fun wz hb => by rw [← hIM]; exact (HQ.out.later hb).image2
     clear hIM; go_wp2_with fail
     refine (I1.out _ (Below.refl _ _)).mono ?_; rintro e wB ⟨rfl, hbB⟩; have HKB := hid hbB; clear hbB; go_wp2_with fail
     refine (I2.out _ HKB.out).mono ?_; rintro e wC ⟨rfl, hbC⟩; have HKC := hid (Below.on HKB.out hbC); clear hbC HKB; go_wp2_with fail
     refine (HQ.out.later HKC.out).held1.mono ?_; rintro e wD ⟨U1, a1, c1, rfl, HG1, -, HU1, HD⟩; have HKD := hid (Below.on HKC.out HD.out); go_wp2_with fail
     refine (HQ.out.later HKD.out).held1.mono ?_; rintro e wE ⟨U2, a2, c2, rfl, HG2, HO2, HU2, HE⟩; have HKE := hid (Below.on HKD.out HE.out); go_wp2_with fail
     refine (HQ.out.later HKE.out).held2.mono ?_; rintro e wF ⟨U3, a3, c3, rfl, HG3, HO3, HU3, HF⟩; have HKF := hid (Below.on HKE.out HF.out); have HZ : Hid (w.heap.size ≤ wA.heap.size ∧ wA.heap.size ≤ wC.heap.size ∧ wC.heap.size ≤ wD.heap.size ∧ wD.heap.size ≤ wE.heap.size ∧ wE.heap.size ≤ wF.heap.size) := hid ⟨Nat.le_trans (Nat.le_of_lt HWL.out) HBA.out.size, HKC.out.size, HD.out.size, HE.out.size, HF.out.size⟩; have HUN : Hid (U1.length ≤ 93000 ∧ U2.length ≤ 93000 ∧ U3.length ≤ 93000) := hid (by
      have h0 := HQ.out.hl; have h4 := srt_len (f := Lk.Hd.id) S.H; have h1 := congrArg List.length HU1.out; have h2 := congrArg List.length HU2.out; have h3 := congrArg List.length HU3.out; simp only [List.length_map] at h1 h2 h3; omega)
     have HMK : Hid (∀ wz, Below wA.heap.size wA wz → Below w.heap.size w wz) := hid fun wz hb => HWW.out _ (Below.on HBA.out hb)
     have MK1 := hid (Lk.markG_is (z := 1) HT.out (HMK.out _ HKF.out) (by have := HZ.out; omega) (by have := HZ.out; omega) (HG1.out.later (Below.on HE.out HF.out)) (held_len HQ.out.run HU1.out) (by have := HUN.out; omega) (by omega)); go_wp2_with fail
     refine MK1.out.mono ?_; rintro e wK ⟨rfl, HOK⟩; have HLT : Hid (∀ b, Lk.GB a1 U1.length c1 U1 b → wC.heap.size ≤ b ∧ b < wD.heap.size) := hid fun b hb => HG1.out.lt hb
     have HKK : Hid (Below wA.heap.size wA wK) := hid (HKF.out.trans (HOK.out.below (B := wA.heap.size) (fun b hb => by have := HLT.out b hb; have := HZ.out; omega) HKF.out.size)); have HR2 : Hid (Lk.RowH wD.heap.size wK a2 U2.length c2 U2) := hid (Lk.rowH_off (Lk.RowH.later ⟨HG2.out.own, rfl, HO2.out⟩ HF.out) (fun u hu => (HG2.out.fr u hu).lowB (Nat.le_refl _)) HOK.out (fun b hb => (HLT.out b hb).2)); have HR3 : Hid (Lk.RowH wE.heap.size wK a3 U3.length c3 U3) := hid (Lk.rowH_off ⟨HG3.out.own, rfl, HO3.out⟩ (fun u hu => (HG3.out.fr u hu).lowB (Nat.le_refl _)) HOK.out (fun b hb => by have := (HLT.out b hb).2; have := HZ.out; omega)); have SL := hid (Lk.sameList_is (u := true) (by rw [HU2.out, HU3.out]; simp) HR2.out HR3.out); clear MK1; go_wp2_with fail
     refine SL.out.mono ?_; rintro e wL ⟨rfl, hbL⟩; have HKL := hid (Below.on HKK.out hbL); have HBL := hid hbL; have HUK : Hid (∀ wz, Below wL.heap.size wL wz → Lk.RowH wE.heap.size wz a3 U3.length c3 U3) := hid fun wz hb => (HR3.out.later hbL).later hb
     obtain ⟨n, hn⟩ : ∃ n, U3.length = n := ⟨_, rfl⟩; rw [hn] at HUK; have HNL : Hid (n ≤ 93000) := hid (by rw [← hn]; exact HUN.out.2.2); have HEQ := hid hn; have HAL : Hid (∀ wz, Below wL.heap.size wL wz → Below wA.heap.size wA wz) := hid fun wz hb => Below.on HKL.out hb
     rw [hn]; clear SL hbL HR2 HR3 HLT HOK HG1 HG2 HU1 HU2 HO2 HD HE HF HKD HKE HKF HKC HUN hn HG3 HO3 HKK; have HU2L : Hid (∀ u ∈ U3, u.h.rs.length ≤ 1073741824 ∧ u.h.ws.length ≤ 1073741824) := hid (held_len HQ.out.run HU3.out); go_wp2_with fail
     go_loopg [11] n (fun gm s11 wr => ∃ i : Nat, i ≤ n ∧ gm = n - i ∧ s11 = .int .i64 i ∧ Hid (Below wL.heap.size wL wr))
     case atStart => exact ⟨0, by omega, by omega, rfl, hid (Below.refl _ _)⟩
     case round =>
      obtain ⟨i, hi, rfl, rfl, HKR⟩ := hrel; rename World => wr
      by_cases hlt : i < n
      ·have hI : (i : Int) < (n : Int) := by omega
       have HGT : Hid (∀ (wz : World) (k : Nat) (hk : Below wL.heap.size wL wz), k < n → ∃ g, a3 = some ⟨g, 0, none⟩ ∧ ∀ o y, (Lk.hcs (Lk.nthH U3 k))[o]? = some y → wz.cell? ⟨g, k * 8 + o, none⟩ = some y) := hid fun wz k hk hkn => Lk.ownH_at (HUK.out _ hk).own (HUK.out _ hk).len hkn
       have HGE : Hid (∀ (wz : World) (y : Lk.Hv) (hk : Below wL.heap.size wL wz), y ∈ U3 → Calls Tryz.prog 13 #[sp p, .agg #[.int .u32 y.h.id.1, .int .u32 y.h.id.2]] wz fun e w' => ∃ (u : Lk.Hv) (ok : Bool), e = .returned (.tuple #[.agg #[.int .u32 u.h.id.1, .int .u32 u.h.id.2, .int .u32 u.h.home, .int .u64 u.h.w, .int .u32 u.h.l, .int .u32 u.h.n, .slice u.ra u.h.rs.length u.rc, .slice u.wa u.h.ws.length u.wc], .bool ok]) ∧ Hid (u.h = y.h) ∧ Hid (u.fresh wz.heap.size w') ∧ Hid (u.ok w') ∧ Hid (Below wz.heap.size wz w')) := hid fun wz y hk hy => by
        have hm : y.h ∈ srt Lk.Hd.id S.H := by rw [← HU3.out]; exact List.mem_map.2 ⟨y, hy, rfl⟩
        exact sta_get (HQ.out.later (HAL.out _ hk)).tw.one (srt_mem.1 hm)
       obtain ⟨g, hga, -⟩ := HGT.out wr i HKR.out hlt; obtain ⟨v, hv⟩ : ∃ v, v = Lk.nthH U3 i := ⟨_, rfl⟩; have HXU : Hid (v ∈ U3) := hid (by rw [hv]; exact Lk.nthH_mem (by rw [HEQ.out]; exact hlt)); have HGX : Hid (∀ (wz : World), Below wL.heap.size wL wz → ∀ o y, (Lk.hcs v)[o]? = some y → wz.cell? ⟨g, i * 8 + o, none⟩ = some y) := hid fun wz hk o y ho => by
        obtain ⟨g', e, hc'⟩ := HGT.out wz i hk hlt; rw [hga] at e; injection e with e; injection e with e
        subst e; exact hc' o y (by rw [← hv]; exact ho)
       obtain ⟨j, hj⟩ : ∃ j, j = (i + 1) % n := ⟨_, rfl⟩; have hjn : j < n := by rw [hj]; exact Nat.mod_lt _ (by omega)
       have hjm : ((i : Int) + 1).tmod (n : Int) = (j : Int) := by
        rw [hj, Int.tmod_eq_emod_of_nonneg (by omega), Int.natCast_emod]; rfl
       have hnb : n ≤ 93000 := HNL.out; have hn0 : ((n : Int) == 0) = false := by rw [beq_eq_false_iff_ne]; omega
       have hJ : (j : Int) < (n : Int) := by omega
       obtain ⟨y, hy⟩ : ∃ y, y = Lk.nthH U3 j := ⟨_, rfl⟩; have HYU : Hid (y ∈ U3) := hid (by rw [hy]; exact Lk.nthH_mem (by rw [HEQ.out]; exact hjn)); have hcy : ∀ o z, (Lk.hcs y)[o]? = some z → wr.cell? ⟨g, j * 8 + o, none⟩ = some z := fun o z ho => by
        obtain ⟨g', e, hc'⟩ := HGT.out wr j HKR.out hjn; rw [hga] at e; injection e with e; injection e with e
        subst e; exact hc' o z (by rw [← hy]; exact ho)
       have d0 : wr.cell? ⟨g, j * 8, none⟩ = some (.int .u32 y.h.id.1) := hcy 0 _ rfl; have d1 := hcy 1 _ rfl; have d2 := hcy 2 _ rfl; have d3 := hcy 3 _ rfl; have d4 := hcy 4 _ rfl; have d5 := hcy 5 _ rfl; have d6 := hcy 6 _ rfl; have d7 := hcy 7 _ rfl
       subst hga; clear hj hy hcy hv; go_upto_region 26 with fail
       obtain ⟨v1, hv1⟩ : ∃ v1, v1 = wr.alloc (.cells #[.int .u32 y.h.id.1, .int .u32 y.h.id.2, .int .u32 y.h.home, .int .u64 y.h.w, .int .u32 y.h.l, .int .u32 y.h.n, .slice y.ra y.h.rs.length y.rc, .slice y.wa y.h.ws.length y.wc] 52) := ⟨_, rfl⟩; obtain ⟨b2, hb2⟩ : ∃ b2, b2 = wr.heap.size := ⟨_, rfl⟩; have HX2 : Hid (∀ o z, (Lk.hcs y)[o]? = some z → v1.cell? ⟨b2, o, none⟩ = some z) := hid fun o z ho => Vs.cell_of_obj (by rw [hv1, hb2]; exact World.alloc_heap_new _ _) (by simpa using ho)
       have H01 : Hid (Below wr.heap.size wr v1) := hid (by rw [hv1]; exact Below.al (Below.refl _ _) _); have HLb2 : Hid (b2 = wr.heap.size) := hid hb2; have HK1 : Hid (Below wL.heap.size wL v1) := hid (Below.on HKR.out H01.out); have G1 := hid (HGE.out v1 v HK1.out HXU.out); rw [← hv1, ← hb2]; clear hv1 hb2 d0 d1 d2 d3 d4 d5 d6 d7 hjm hn0 hJ; have c0' : v1.cell? ⟨g, i * 8, none⟩ = some (.int .u32 v.h.id.1) := HGX.out v1 HK1.out 0 _ rfl; have c1' := HGX.out v1 HK1.out 1 _ rfl; go_wp2_with fail
       refine G1.out.mono ?_; rintro e v2 ⟨u1, ok1, rfl, HE1, HF1, HO1, H12⟩; obtain ⟨v3, hv3⟩ : ∃ v3, v3 = v2.alloc (.cells #[.int .u32 u1.h.id.1, .int .u32 u1.h.id.2, .int .u32 u1.h.home, .int .u64 u1.h.w, .int .u32 u1.h.l, .int .u32 u1.h.n, .slice u1.ra u1.h.rs.length u1.rc, .slice u1.wa u1.h.ws.length u1.wc] 52) := ⟨_, rfl⟩; obtain ⟨b1, hb1⟩ : ∃ b1, b1 = v2.heap.size := ⟨_, rfl⟩; have HX1 : Hid (∀ o z, (Lk.hcs u1)[o]? = some z → v3.cell? ⟨b1, o, none⟩ = some z) := hid fun o z ho => Vs.cell_of_obj (by rw [hv3, hb1]; exact World.alloc_heap_new _ _) (by simpa using ho)
       have H23 : Hid (Below v2.heap.size v2 v3) := hid (by rw [hv3]; exact Below.al (Below.refl _ _) _); have HLb1 : Hid (b1 = v2.heap.size) := hid hb1; have HK3 : Hid (Below wL.heap.size wL v3) := hid (Below.on (Below.on HK1.out H12.out) H23.out); clear G1 c0' c1'; go_upto_region 27 with fail
       rw [← hv3, ← hb1]; clear hv3 hb1; have H13 : Hid (Below v1.heap.size v1 v3) := hid (Below.on H12.out H23.out); have G2 := hid (HGE.out v3 y HK3.out HYU.out); have d0 := cell_later H13.out (HX2.out 0 _ rfl); have d1 := cell_later H13.out (HX2.out 1 _ rfl); go_wp2_with fail
       refine G2.out.mono ?_; rintro e v4 ⟨u2, ok2, rfl, HE2, HF2, HO2', H34⟩; obtain ⟨v5, hv5⟩ : ∃ v5, v5 = v4.alloc (.cells #[.int .u32 u2.h.id.1, .int .u32 u2.h.id.2, .int .u32 u2.h.home, .int .u64 u2.h.w, .int .u32 u2.h.l, .int .u32 u2.h.n, .slice u2.ra u2.h.rs.length u2.rc, .slice u2.wa u2.h.ws.length u2.wc] 52) := ⟨_, rfl⟩; obtain ⟨b3, hb3⟩ : ∃ b3, b3 = v4.heap.size := ⟨_, rfl⟩; have HX3 : Hid (∀ o z, (Lk.hcs u2)[o]? = some z → v5.cell? ⟨b3, o, none⟩ = some z) := hid fun o z ho => Vs.cell_of_obj (by rw [hv5, hb3]; exact World.alloc_heap_new _ _) (by simpa using ho)
       have H45 : Hid (Below v4.heap.size v4 v5) := hid (by rw [hv5]; exact Below.al (Below.refl _ _) _); have HLb3 : Hid (b3 = v4.heap.size) := hid hb3; have HK5 : Hid (Below wL.heap.size wL v5) := hid (Below.on (Below.on HK3.out H34.out) H45.out); clear G2 d0 d1; go_upto_region 28 with fail
       rw [← hv5, ← hb3]; clear hv5 hb3; have G3 := hid (HGE.out v5 v HK5.out HXU.out); have c0' : v5.cell? ⟨g, i * 8, none⟩ = some (.int .u32 v.h.id.1) := HGX.out v5 HK5.out 0 _ rfl; have c1' := HGX.out v5 HK5.out 1 _ rfl; go_wp2_with fail
       refine G3.out.mono ?_; rintro e v6 ⟨u3, ok3, rfl, HE3, HF3, HO3', H56⟩; obtain ⟨v7, hv7⟩ : ∃ v7, v7 = v6.alloc (.cells #[.int .u32 u3.h.id.1, .int .u32 u3.h.id.2, .int .u32 u3.h.home, .int .u64 u3.h.w, .int .u32 u3.h.l, .int .u32 u3.h.n, .slice u3.ra u3.h.rs.length u3.rc, .slice u3.wa u3.h.ws.length u3.wc] 52) := ⟨_, rfl⟩; obtain ⟨b4, hb4⟩ : ∃ b4, b4 = v6.heap.size := ⟨_, rfl⟩; have HX4 : Hid (∀ o z, (Lk.hcs u3)[o]? = some z → v7.cell? ⟨b4, o, none⟩ = some z) := hid fun o z ho => Vs.cell_of_obj (by rw [hv7, hb4]; exact World.alloc_heap_new _ _) (by simpa using ho)
       have H67 : Hid (Below v6.heap.size v6 v7) := hid (by rw [hv7]; exact Below.al (Below.refl _ _) _); have HLb4 : Hid (b4 = v6.heap.size) := hid hb4; have HK7 : Hid (Below wL.heap.size wL v7) := hid (Below.on (Below.on HK5.out H56.out) H67.out); clear G3 c0' c1'; go_upto_region 29 with fail
       rw [← hv7, ← hb4]; clear hv7 hb4; have H57 : Hid (Below v5.heap.size v5 v7) := hid (Below.on H56.out H67.out); have H47 : Hid (Below v4.heap.size v4 v7) := hid (Below.on H45.out H57.out); have H37 : Hid (Below v3.heap.size v3 v7) := hid (Below.on H34.out H47.out); have H27 : Hid (Below v2.heap.size v2 v7) := hid (Below.on H23.out H37.out); have H17 : Hid (Below v1.heap.size v1 v7) := hid (Below.on H12.out H27.out)
       have HSS : Hid (wL.heap.size ≤ wr.heap.size ∧ wr.heap.size + 1 ≤ v1.heap.size ∧ v1.heap.size ≤ v2.heap.size ∧ v2.heap.size ≤ v3.heap.size ∧ v3.heap.size ≤ v4.heap.size ∧ v4.heap.size ≤ v5.heap.size ∧ v5.heap.size ≤ v6.heap.size ∧ v6.heap.size ≤ v7.heap.size) := hid ⟨HKR.out.size, by have h1 : b2 < v1.heap.size := World.block_lt_of_cell? _ _ (HX2.out 0 _ rfl); have h2 := HLb2.out; omega, H12.out.size, H23.out.size, H34.out.size, H45.out.size, H56.out.size, H67.out.size⟩; have HWL2 : Hid (w.heap.size ≤ wL.heap.size) := hid (Nat.le_trans HZ.out.1 HKL.out.size); have HW2 : Hid (IntKind.i64.wrap (2 + (i : Int)) = 2 + (i : Int)) := hid (by rw [IntKind.wrap_i64]; omega)
       have MKA : Hid (Calls Tryz.prog 11 #[.slice (some ⟨v7.heap.size, 0, none⟩) 1 1, .int .i64 (IntKind.i64.wrap (2 + (i : Int)))] (v7.alloc (.cells #[.int .u32 u1.h.id.1, .int .u32 u1.h.id.2, .int .u32 u1.h.home, .int .u64 u1.h.w, .int .u32 u1.h.l, .int .u32 u1.h.n, .slice u1.ra u1.h.rs.length u1.rc, .slice u1.wa u1.h.ws.length u1.wc] 52)).drew fun e w' => e = .returned (.bool true) ∧ Hid (Onl (fun b => v1.heap.size ≤ b ∧ b < v2.heap.size) v7 w')) := hid (Lk.mark_fr (us := [u1]) HT.out (HMK.out _ (HAL.out _ HK7.out)) (by have := HWL2.out; have := HSS.out; omega) (by have := HSS.out; omega) (fun u hu => by
        obtain rfl := List.mem_singleton.1 hu; exact ⟨HF1.out.later H27.out, fun b hb => (HF1.out.has hb).2⟩) (List.pairwise_singleton _ _) (by simp) (fun u hu => by
        obtain rfl := List.mem_singleton.1 hu; rw [HE1.out]; exact HU2L.out v HXU.out) (by rw [HW2.out]; omega) (Below.drew (Below.refl _ _)))
       have HP : Hid (∀ wz, Onl (fun b => v1.heap.size ≤ b ∧ b < v2.heap.size) v7 wz → (∀ o z, (Lk.hcs u2)[o]? = some z → wz.cell? ⟨b3, o, none⟩ = some z) ∧ (∀ o z, (Lk.hcs y)[o]? = some z → wz.cell? ⟨b2, o, none⟩ = some z) ∧ (∀ o z, (Lk.hcs u3)[o]? = some z → wz.cell? ⟨b4, o, none⟩ = some z) ∧ (∀ o z, (Lk.hcs v)[o]? = some z → wz.cell? ⟨g, i * 8 + o, none⟩ = some z) ∧ u2.fresh v3.heap.size wz ∧ u3.fresh v5.heap.size wz ∧ u2.ok wz ∧ y.ok wz ∧ u3.ok wz ∧ v.ok wz ∧ Below wL.heap.size wL wz) := hid fun wz ho => by
        have hs := HSS.out; have hk : Below wL.heap.size wL wz := HK7.out.trans (ho.below (B := wL.heap.size) (fun b hb => by omega) HK7.out.size); refine ⟨fun o z h => ho.cell (by have := HLb3.out; omega) (cell_later H57.out (HX3.out o z h)), fun o z h => ho.cell (by have := HLb2.out; omega) (cell_later H17.out (HX2.out o z h)), fun o z h => ho.cell (by have := HLb4.out; omega) (HX4.out o z h), HGX.out wz hk, (HF2.out.later H47.out).off ho (fun b hb => ?_), (HF3.out.later H67.out).off ho (fun b hb => ?_), (HO2'.out.later H47.out).off ho (fun b hb => ?_), (HUK.out _ hk).ok y HYU.out, (HO3'.out.later H67.out).off ho (fun b hb => ?_), (HUK.out _ hk).ok v HXU.out, hk⟩
        ·have := (HF2.out.has hb).1; omega
        ·have := (HF3.out.has hb).1; omega
        ·have := (HF2.out.has hb).1; omega
        ·have := (HF3.out.has hb).1; omega
       have SB : Hid (∀ wz, Onl (fun b => v1.heap.size ≤ b ∧ b < v2.heap.size) v7 wz → _) := hid fun wz ho => Lk.same_is (u := true) (x := u2) (y := y) (by rw [HE2.out]; simp) (HP.out wz ho).2.2.2.2.2.2.1 (HP.out wz ho).2.2.2.2.2.2.2.1
       have SC : Hid (∀ wz, Onl (fun b => v1.heap.size ≤ b ∧ b < v2.heap.size) v7 wz → _) := hid fun wz ho => Lk.same_is (u := true) (x := u3) (y := v) (by rw [HE3.out]; simp) (HP.out wz ho).2.2.2.2.2.2.2.2.1 (HP.out wz ho).2.2.2.2.2.2.2.2.2.1
       simp only [Lk.Hv.val] at SB SC; have a0x := cell_later H37.out (HX1.out 0 _ rfl); have a1x := cell_later H37.out (HX1.out 1 _ rfl); have a2x := cell_later H37.out (HX1.out 2 _ rfl); have a3x := cell_later H37.out (HX1.out 3 _ rfl); have a4x := cell_later H37.out (HX1.out 4 _ rfl); have a5x := cell_later H37.out (HX1.out 5 _ rfl); have a6x := cell_later H37.out (HX1.out 6 _ rfl); have a7x := cell_later H37.out (HX1.out 7 _ rfl)
       go_wp2_with fail
       go_region_with (first
        | (go_at_call 11; refine MKA.out.mono ?_; rintro e w18 ⟨rfl, HO18⟩; clear MKA a0x a1x a2x a3x a4x a5x a6x a7x; have p0 := (HP.out _ HO18.out).1 0 _ rfl; have p1 := (HP.out _ HO18.out).1 1 _ rfl; have p2 := (HP.out _ HO18.out).1 2 _ rfl; have p3 := (HP.out _ HO18.out).1 3 _ rfl; have p4 := (HP.out _ HO18.out).1 4 _ rfl; have p5 := (HP.out _ HO18.out).1 5 _ rfl; have p6 := (HP.out _ HO18.out).1 6 _ rfl; have p7 := (HP.out _ HO18.out).1 7 _ rfl; have q0 := (HP.out _ HO18.out).2.1 0 _ rfl; have q1 := (HP.out _ HO18.out).2.1 1 _ rfl; have q2 := (HP.out _ HO18.out).2.1 2 _ rfl; have q3 := (HP.out _ HO18.out).2.1 3 _ rfl; have q4 := (HP.out _ HO18.out).2.1 4 _ rfl; have q5 := (HP.out _ HO18.out).2.1 5 _ rfl; have q6 := (HP.out _ HO18.out).2.1 6 _ rfl; have q7 := (HP.out _ HO18.out).2.1 7 _ rfl)
        | (go_at_call_of 14 (Value.slice u2.ra u2.h.rs.length u2.rc); refine (SB.out _ HO18.out).mono ?_; rintro e w19 ⟨rfl, hb19⟩; have HO19 := hid (HO18.out.on hb19); clear hb19 p0 p1 p2 p3 p4 p5 p6 p7 q0 q1 q2 q3 q4 q5 q6 q7; have r0 := (HP.out _ HO19.out).2.2.1 0 _ rfl; have r1 := (HP.out _ HO19.out).2.2.1 1 _ rfl; have r2 := (HP.out _ HO19.out).2.2.1 2 _ rfl; have r3 := (HP.out _ HO19.out).2.2.1 3 _ rfl; have r4 := (HP.out _ HO19.out).2.2.1 4 _ rfl; have r5 := (HP.out _ HO19.out).2.2.1 5 _ rfl; have r6 := (HP.out _ HO19.out).2.2.1 6 _ rfl; have r7 := (HP.out _ HO19.out).2.2.1 7 _ rfl; have t0 : w19.cell? ⟨g, i * 8, none⟩ = some (.int .u32 v.h.id.1) := (HP.out _ HO19.out).2.2.2.1 0 _ rfl; have t1 := (HP.out _ HO19.out).2.2.2.1 1 _ rfl; have t2 := (HP.out _ HO19.out).2.2.2.1 2 _ rfl; have t3 := (HP.out _ HO19.out).2.2.2.1 3 _ rfl; have t4 := (HP.out _ HO19.out).2.2.2.1 4 _ rfl; have t5 := (HP.out _ HO19.out).2.2.2.1 5 _ rfl; have t6 := (HP.out _ HO19.out).2.2.2.1 6 _ rfl; have t7 := (HP.out _ HO19.out).2.2.2.1 7 _ rfl)
        | (go_at_call_of 14 (Value.slice u3.ra u3.h.rs.length u3.rc); refine (SC.out _ HO19.out).mono ?_; rintro e w20 ⟨rfl, hb20⟩; have HO20 := hid (HO19.out.on hb20); clear hb20 HO18 HO19 r0 r1 r2 r3 r4 r5 r6 r7 t0 t1 t2 t3 t4 t5 t6 t7))
       all_goals (
        have HK20 : Hid (Below wL.heap.size wL w20) := hid (HP.out _ HO20.out).2.2.2.2.2.2.2.2.2.2; have HW3 : Hid (IntKind.i64.wrap (3 + (i : Int)) = 3 + (i : Int)) := hid (by rw [IntKind.wrap_i64]; omega); have HS20 := hid HO20.out.size; have p0 := (HP.out _ HO20.out).1 0 _ rfl; have p1 := (HP.out _ HO20.out).1 1 _ rfl; have p2 := (HP.out _ HO20.out).1 2 _ rfl; have p3 := (HP.out _ HO20.out).1 3 _ rfl; have p4 := (HP.out _ HO20.out).1 4 _ rfl; have p5 := (HP.out _ HO20.out).1 5 _ rfl; have p6 := (HP.out _ HO20.out).1 6 _ rfl; have p7 := (HP.out _ HO20.out).1 7 _ rfl
        have r0 := (HP.out _ HO20.out).2.2.1 0 _ rfl; have r1 := (HP.out _ HO20.out).2.2.1 1 _ rfl; have r2 := (HP.out _ HO20.out).2.2.1 2 _ rfl; have r3 := (HP.out _ HO20.out).2.2.1 3 _ rfl; have r4 := (HP.out _ HO20.out).2.2.1 4 _ rfl; have r5 := (HP.out _ HO20.out).2.2.1 5 _ rfl; have r6 := (HP.out _ HO20.out).2.2.1 6 _ rfl; have r7 := (HP.out _ HO20.out).2.2.1 7 _ rfl
        have MKB : Hid (∀ k : Int, k = 3 + (i : Int) → _) := hid fun k hk => Lk.mark_fr (w := w20) (C := w20.heap.size) (us := [u2, u3]) (z := k) HT.out (HMK.out _ (HAL.out _ HK20.out)) (B := v3.heap.size) (by have := HWL2.out; have := HSS.out; omega) (by have := HSS.out; have := HS20.out; omega) (fun u hu => by
         have e2 := (HP.out _ HO20.out).2.2.2.2.1; have e3 := (HP.out _ HO20.out).2.2.2.2.2.1; rcases List.mem_cons.1 hu with rfl | hu
         ·exact ⟨e2, fun b hb => (e2.has hb).2⟩
         ·obtain rfl := List.mem_singleton.1 hu; exact ⟨e3.base (by have := HSS.out; omega), fun b hb => (e3.has hb).2⟩) (List.pairwise_pair.2 (Lk.Hv.far_of HF2.out HF3.out (by have := HSS.out; omega))) (by simp) (fun u hu => by
         rcases List.mem_cons.1 hu with rfl | hu
         ·rw [HE2.out]; exact HU2L.out y HYU.out
         ·obtain rfl := List.mem_singleton.1 hu; rw [HE3.out]; exact HU2L.out v HXU.out) (by omega) (Below.refl _ _)
        go_wp2_with fail
        refine (MKB.out _ (by first | rfl | exact HW3.out)).mono ?_; rintro e w21 ⟨rfl, HO21⟩; have HK21 : Hid (Below wL.heap.size wL w21) := hid (HK20.out.trans (HO21.out.below (B := wL.heap.size) (fun b hb => by have := HSS.out; omega) HK20.out.size)); clear HP MKB SB SC; go_wp2_with fail
        go_roundg (n - (i + 1))
        case measure => omega
        case rel => exact ⟨i + 1, by omega, rfl, by go_num, HK21⟩)
      ·obtain rfl : i = n := by omega
       clear hlt hi; have K0 : Hid (Below wL.heap.size wL wr) := HKR; go_wp2_with fail
       refine (I1.out _ (HAL.out _ K0.out)).mono ?_; rintro e x1 ⟨rfl, hb1⟩; have K1 := hid (Below.on K0.out hb1); clear hb1; go_wp2_with fail
       refine (I2.out _ (HAL.out _ K1.out)).mono ?_; rintro e x2 ⟨rfl, hb2⟩; have K2 := hid (Below.on K1.out hb2); clear hb2; have y4 : x2.cell? ⟨w.heap.size, 4, none⟩ = some (.int .u64 x.t.a) := HX.out x2 (Below.on HBA.out (HAL.out _ K2.out)) 4 _ rfl; have y5 := HX.out x2 (Below.on HBA.out (HAL.out _ K2.out)) 5 _ rfl; have y6 := HX.out x2 (Below.on HBA.out (HAL.out _ K2.out)) 6 _ rfl; go_wp2_with fail
       refine (lists_is (HQ.out.later (HAL.out _ K2.out)) HT.out (HMK.out _ (HAL.out _ K2.out)) x.t).mono ?_; rintro e x3 ⟨rfl, hb3⟩; have K3 := hid (Below.on K2.out hb3); clear hb3 y4 y5 y6; go_wp2_with fail
       refine (I1.out _ (HAL.out _ K3.out)).mono ?_; rintro e x4 ⟨rfl, hb4⟩; have K4 := hid (Below.on K3.out hb4); clear hb4; go_wp2_with fail
       refine (I2.out _ (HAL.out _ K4.out)).mono ?_; rintro e x5 ⟨rfl, hb5⟩; have K5 := hid (Below.on K4.out hb5); clear hb5; go_wp2_with fail
       refine (HQ.out.later (HAL.out _ K5.out)).held1.mono ?_; rintro e x6 ⟨U6, a6, k6, rfl, HG6, HO6, HU6, H6⟩; have K6 := hid (Below.on K5.out H6.out); have SL6 := hid (Lk.sameList_is (u := true) (by rw [HU6.out, HU3.out]; simp) (⟨HG6.out.own, rfl, HO6.out⟩ : Lk.RowH _ x6 a6 U6.length k6 U6) (HUK.out _ K6.out)); go_wp2_with fail
       refine SL6.out.mono ?_; rintro e x7 ⟨rfl, hb7⟩; have HEnd := hid (HMK.out _ (HAL.out _ (Below.on K6.out hb7))); clear hb7 SL6; go_wp2_with fail
       go_ret
       exact ⟨rfl, HEnd.out⟩
end Go.Proofs.YtneojeidpfjpbaaGreatDoor.Ig
