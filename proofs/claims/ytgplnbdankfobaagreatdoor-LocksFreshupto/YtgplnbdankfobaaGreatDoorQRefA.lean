import Derived.Test.YtgplnbdankfobaaGreatDoorQNew
import Derived.Test.YtgplnbdankfobaaGreatDoorQMeet
/- The document's into, common, Meet. -/
namespace Go.Proofs.YtgplnbdankfobaaGreatDoor.Lk
open Go.RowKit Go.Sort
set_option linter.unusedVariables false

theorem nthWx {ws : List Wr} {x : Wr} (h : x ∈ ws) : ∃ i, i < ws.length ∧ nthW ws i = x := by
  obtain ⟨i, hi, rfl⟩ := List.getElem_of_mem h
  exact ⟨i, hi, by simp [nthW, hi]⟩
theorem nth2x {rs : List T2} {x : T2} (h : x ∈ rs) : ∃ i, i < rs.length ∧ nth2 rs i = x := by
  obtain ⟨i, hi, rfl⟩ := List.getElem_of_mem h
  exact ⟨i, hi, by simp [nth2, hi]⟩
theorem nth2m {rs : List T2} {k : Nat} (h : k < rs.length) : nth2 rs k ∈ rs := by
  have : nth2 rs k = rs[k] := by simp [nth2, h]
  rw [this]; exact List.getElem_mem h
theorem any_yes {ws : List Wr} {rs : List T2} {i j : Nat} (hi : i < ws.length) (hj : j < rs.length) (h : insB (nthW ws i).key (nth2 rs j) = true) : anyB ws rs = true := by
  simp only [anyB, withinB, List.any_eq_true]
  exact ⟨_, nthW_mem hi, _, nth2m hj, h⟩
theorem any_no {ws : List Wr} {rs : List T2} (h : ∀ i, i < ws.length → ∀ j, j < rs.length → insB (nthW ws i).key (nth2 rs j) = false) : anyB ws rs = false := by
  rw [Bool.eq_false_iff]
  intro e
  simp only [anyB, withinB, List.any_eq_true] at e
  obtain ⟨x, hx, s, hs, e⟩ := e
  obtain ⟨i, hi, rfl⟩ := nthWx hx
  obtain ⟨j, hj, rfl⟩ := nth2x hs
  rw [h i hi j hj] at e; cases e
theorem com_yes {a b : List Wr} {i j : Nat} (hi : i < a.length) (hj : j < b.length) (h : sameK (nthW a i).key (nthW b j).key = true) : commonB a b = true := by
  simp only [commonB, List.any_eq_true]
  exact ⟨_, nthW_mem hi, _, nthW_mem hj, h⟩
theorem com_no {a b : List Wr} (h : ∀ i, i < a.length → ∀ j, j < b.length → sameK (nthW a i).key (nthW b j).key = false) : commonB a b = false := by
  rw [Bool.eq_false_iff]
  intro e
  simp only [commonB, List.any_eq_true] at e
  obtain ⟨x, hx, s, hs, e⟩ := e
  obtain ⟨i, hi, rfl⟩ := nthWx hx
  obtain ⟨j, hj, rfl⟩ := nthWx hs
  rw [h i hi j hj] at e; cases e

set_option maxHeartbeats 2000000 in
theorem into_is {w : World} {xa ya : Option Addr} {xc yc : Nat} {xs : List Wr} {ys : List T2} {u : Bool} (hu : anyB xs ys = u) (hx : RowW w xa xs) (hy : Row2 w ya ys) (hlx : xs.length ≤ 9223372036854775806) (hly : ys.length ≤ 9223372036854775806) :
    Calls Tryz.prog 37 #[.slice xa xs.length xc, .slice ya ys.length yc] w fun e w' => e = .returned (.bool u) ∧ Below w.heap.size w w' := by
  have HY : Hid (∀ i j, i < xs.length → j < ys.length → insB (nthW xs i).key (nth2 ys j) = true → u = true) := fun i j hi hj h => hu.symm.trans (any_yes hi hj h)
  have HN : Hid ((∀ i, i < xs.length → ∀ j, j < ys.length → insB (nthW xs i).key (nth2 ys j) = false) → u = false) := fun h => hu.symm.trans (any_no h)
  have HX := hid hx
  have HR := hid hy
  clear hx hy hu
  go_enter Tryz.func37, Tryz.ntmps37
  go_wp2_with fail
  go_loopg [5] xs.length (fun g s5 wr => ∃ k : Nat, k ≤ xs.length ∧ g = xs.length - k ∧ s5 = .int .i64 k ∧ Hid (Below w.heap.size w wr) ∧ Hid (∀ i, i < k → ∀ j, j < ys.length → insB (nthW xs i).key (nth2 ys j) = false))
  case atStart => exact ⟨0, by omega, by omega, rfl, Below.refl _ _, fun i hi => absurd hi (by omega)⟩
  case round =>
    obtain ⟨k, hk, rfl, rfl, HB, HA⟩ := hrel
    by_cases hlt : k < xs.length
    · have hk1 : (k : Int) < (xs.length : Int) := by omega
      have HBO := HB
      clear HB
      go_wp2_with fail
      go_loopg [6] ys.length (fun g s6 wr => ∃ m : Nat, m ≤ ys.length ∧ g = ys.length - m ∧ s6 = .int .i64 m ∧ Hid (Below w.heap.size w wr) ∧ Hid (∀ j, j < m → insB (nthW xs k).key (nth2 ys j) = false))
      case atStart => exact ⟨0, by omega, by omega, rfl, HBO, fun i hi => absurd hi (by omega)⟩
      case round =>
        obtain ⟨m, hm, rfl, rfl, HB, HQ⟩ := hrel
        by_cases hlm : m < ys.length
        · obtain ⟨b, off, ex, c0, -, -⟩ := (HX.out.later HB.out) k hlt
          obtain ⟨b', off', ey, g0, g1⟩ := (HR.out.later HB.out) m hlm
          subst ex ey
          have hm1 : (m : Int) < (ys.length : Int) := by omega
          obtain ⟨p1, hp⟩ : ∃ p, p = (nthW xs k).key := ⟨_, rfl⟩
          obtain ⟨⟨r1, r2⟩, hr⟩ : ∃ r, r = nth2 ys m := ⟨_, rfl⟩
          rw [← hp] at c0
          rw [← hr] at g0 g1
          simp only at g0 g1
          have k0 := cell_regrown c0
          have l0 := cell_regrown g0
          have l1 := cell_regrown g1
          obtain ⟨z, hz⟩ : ∃ z, insB p1 (r1, r2) = z := ⟨_, rfl⟩
          have HZ : Hid (insB (nthW xs k).key (nth2 ys m) = z) := by rw [← hp, ← hr]; exact hz
          have HZZ := hid hz
          clear hz hp hr
          cases z with
          | true =>
            have hu1 : u = true := HY.out k m hlt hlm HZ.out
            subst hu1
            go_wp2_with fail
            refine wp_region_quiet_below (by kernel_rfl) (by kernel_rfl) ?_
            repeat (go_big_quiet_step (((go_at_call 50; exact Calls.regrown_of (refinside_is (s := (r1, r2)) HZZ.out _)))))
            refine wpQuiet_nil ?_
            intro wn hwn
            replace hwn := below_of_regrown hwn
            go_wp2_with fail
            go_ret
            exact ⟨rfl, Below.on HB.out hwn⟩
          | false =>
            go_wp2_with fail
            refine wp_region_quiet_below (by kernel_rfl) (by kernel_rfl) ?_
            repeat (go_big_quiet_step (((go_at_call 50; exact Calls.regrown_of (refinside_is (s := (r1, r2)) HZZ.out _)))))
            refine wpQuiet_nil ?_
            intro wn hwn
            replace hwn := below_of_regrown hwn
            go_wp2_with fail
            go_roundg (ys.length - (m + 1))
            case measure => omega
            case rel =>
              refine ⟨m + 1, by omega, rfl, by go_num, Below.on HB.out hwn, fun j hj => ?_⟩
              by_cases e : j = m
              · subst e; exact HZ.out
              · exact HQ.out j (by omega)
        · obtain rfl : m = ys.length := by omega
          go_wp2_with fail
          go_roundg (xs.length - (k + 1))
          case measure => omega
          case rel =>
            refine ⟨k + 1, by omega, rfl, by go_num, HB, fun i hi => ?_⟩
            by_cases e : i = k
            · subst e; exact HQ.out
            · exact HA.out i (by omega)
    · obtain rfl : k = xs.length := by omega
      have hu0 : u = false := HN.out HA.out
      subst hu0
      go_wp2_with fail
      go_ret
      exact ⟨rfl, HB.out⟩

set_option maxHeartbeats 2000000 in
theorem common_is {w : World} {xa ya : Option Addr} {xc yc : Nat} {xs : List Wr} {ys : List Wr} {u : Bool} (hu : commonB xs ys = u) (hx : RowW w xa xs) (hy : RowW w ya ys) (hlx : xs.length ≤ 9223372036854775806) (hly : ys.length ≤ 9223372036854775806) :
    Calls Tryz.prog 53 #[.slice xa xs.length xc, .slice ya ys.length yc] w fun e w' => e = .returned (.bool u) ∧ Below w.heap.size w w' := by
  have HY : Hid (∀ i j, i < xs.length → j < ys.length → sameK (nthW xs i).key (nthW ys j).key = true → u = true) := fun i j hi hj h => hu.symm.trans (com_yes hi hj h)
  have HN : Hid ((∀ i, i < xs.length → ∀ j, j < ys.length → sameK (nthW xs i).key (nthW ys j).key = false) → u = false) := fun h => hu.symm.trans (com_no h)
  have HX := hid hx
  have HR := hid hy
  clear hx hy hu
  go_enter Tryz.func53, Tryz.ntmps53
  go_wp2_with fail
  go_loopg [5] xs.length (fun g s5 wr => ∃ k : Nat, k ≤ xs.length ∧ g = xs.length - k ∧ s5 = .int .i64 k ∧ Hid (Below w.heap.size w wr) ∧ Hid (∀ i, i < k → ∀ j, j < ys.length → sameK (nthW xs i).key (nthW ys j).key = false))
  case atStart => exact ⟨0, by omega, by omega, rfl, Below.refl _ _, fun i hi => absurd hi (by omega)⟩
  case round =>
    obtain ⟨k, hk, rfl, rfl, HB, HA⟩ := hrel
    by_cases hlt : k < xs.length
    · have hk1 : (k : Int) < (xs.length : Int) := by omega
      have HBO := HB
      clear HB
      go_wp2_with fail
      go_loopg [6] ys.length (fun g s6 wr => ∃ m : Nat, m ≤ ys.length ∧ g = ys.length - m ∧ s6 = .int .i64 m ∧ Hid (Below w.heap.size w wr) ∧ Hid (∀ j, j < m → sameK (nthW xs k).key (nthW ys j).key = false))
      case atStart => exact ⟨0, by omega, by omega, rfl, HBO, fun i hi => absurd hi (by omega)⟩
      case round =>
        obtain ⟨m, hm, rfl, rfl, HB, HQ⟩ := hrel
        by_cases hlm : m < ys.length
        · obtain ⟨b, off, ex, c0, -, -⟩ := (HX.out.later HB.out) k hlt
          obtain ⟨b', off', ey, g0, -, -⟩ := (HR.out.later HB.out) m hlm
          subst ex ey
          have hm1 : (m : Int) < (ys.length : Int) := by omega
          obtain ⟨p1, hp⟩ : ∃ p, p = (nthW xs k).key := ⟨_, rfl⟩
          obtain ⟨r1, hr⟩ : ∃ r, r = (nthW ys m).key := ⟨_, rfl⟩
          rw [← hp] at c0
          rw [← hr] at g0
          have k0 := cell_regrown c0
          have l0 := cell_regrown g0
          obtain ⟨z, hz⟩ : ∃ z, sameK p1 r1 = z := ⟨_, rfl⟩
          have HZ : Hid (sameK (nthW xs k).key (nthW ys m).key = z) := by rw [← hp, ← hr]; exact hz
          have qq : (p1.toList == r1.toList) = z := by rw [beq_bytes]; exact hz
          clear hz hp hr
          cases z with
          | true =>
            have hu1 : u = true := HY.out k m hlt hlm HZ.out
            subst hu1
            go_wp2_with fail
            refine wp_region_quiet_below (by kernel_rfl) (by kernel_rfl) ?_
            repeat (go_big_quiet_step (fail))
            refine wpQuiet_nil ?_
            intro wn hwn
            replace hwn := below_of_regrown hwn
            go_wp2_with fail
            go_ret
            exact ⟨rfl, Below.on HB.out hwn⟩
          | false =>
            go_wp2_with fail
            refine wp_region_quiet_below (by kernel_rfl) (by kernel_rfl) ?_
            repeat (go_big_quiet_step (fail))
            refine wpQuiet_nil ?_
            intro wn hwn
            replace hwn := below_of_regrown hwn
            go_wp2_with fail
            go_roundg (ys.length - (m + 1))
            case measure => omega
            case rel =>
              refine ⟨m + 1, by omega, rfl, by go_num, Below.on HB.out hwn, fun j hj => ?_⟩
              by_cases e : j = m
              · subst e; exact HZ.out
              · exact HQ.out j (by omega)
        · obtain rfl : m = ys.length := by omega
          go_wp2_with fail
          go_roundg (xs.length - (k + 1))
          case measure => omega
          case rel =>
            refine ⟨k + 1, by omega, rfl, by go_num, HB, fun i hi => ?_⟩
            by_cases e : i = k
            · subst e; exact HQ.out
            · exact HA.out i (by omega)
    · obtain rfl : k = xs.length := by omega
      have hu0 : u = false := HN.out HA.out
      subst hu0
      go_wp2_with fail
      go_ret
      exact ⟨rfl, HB.out⟩

set_option maxHeartbeats 2000000 in
theorem refmeet_is {w : World} {ra wa : Option Addr} {rc wc : Nat} {rs : List T2} {ws : List Wr} {x : Hv} {u : Bool} (hu : meetB rs ws x.h = u) (hr : Row2 w ra rs) (hw : RowW w wa ws) (hx : x.ok w) (hlr : rs.length ≤ 9223372036854775806) (hlw : ws.length ≤ 9223372036854775806) :
    Calls Tryz.prog 42 #[.slice ra rs.length rc, .slice wa ws.length wc, .agg #[.int .u32 x.h.id.1, .int .u32 x.h.id.2, .int .u32 x.h.home, .int .u64 x.h.w, .int .u32 x.h.l, .int .u32 x.h.n, .slice x.ra x.h.rs.length x.rc, .slice x.wa x.h.ws.length x.wc]] w fun e w' => e = .returned (.bool u) ∧ Below w.heap.size w w' := by
  obtain ⟨wx, hwx⟩ : ∃ wx, wx = w.alloc (.cells #[.int .u32 x.h.id.1, .int .u32 x.h.id.2, .int .u32 x.h.home, .int .u64 x.h.w, .int .u32 x.h.l, .int .u32 x.h.n, .slice x.ra x.h.rs.length x.rc, .slice x.wa x.h.ws.length x.wc] 32) := ⟨_, rfl⟩
  have hbx : Below w.heap.size w wx := by rw [hwx]; exact Below.al (Below.refl _ _) _
  have b6 : wx.cell? ⟨w.heap.size, 6, none⟩ = some (.slice x.ra x.h.rs.length x.rc) := by rw [hwx]; simp [go_sem]
  have b7 : wx.cell? ⟨w.heap.size, 7, none⟩ = some (.slice x.wa x.h.ws.length x.wc) := by rw [hwx]; simp [go_sem]
  have hxr := hx.rl
  have hxw := hx.wl
  obtain ⟨u1, h1⟩ : ∃ u1, commonB ws x.h.ws = u1 := ⟨_, rfl⟩
  obtain ⟨u2, h2⟩ : ∃ u2, anyB ws x.h.rs = u2 := ⟨_, rfl⟩
  obtain ⟨u3, h3⟩ : ∃ u3, anyB x.h.ws rs = u3 := ⟨_, rfl⟩
  simp only [meetB, h1, h2, h3] at hu
  have C1 := hid (common_is (xc := wc) (yc := x.wc) h1 (hw.later hbx) (hx.w.later hbx) (by omega) (by omega))
  have C2 : Hid (∀ W, Below wx.heap.size wx W → Calls Tryz.prog 37 #[.slice wa ws.length wc, .slice x.ra x.h.rs.length x.rc] W fun e w' => e = .returned (.bool u2) ∧ Below W.heap.size W w') := fun W hb => into_is h2 ((hw.later hbx).later hb) ((hx.r.later hbx).later hb) (by omega) (by omega)
  have C3 : Hid (∀ W, Below wx.heap.size wx W → Calls Tryz.prog 37 #[.slice x.wa x.h.ws.length x.wc, .slice ra rs.length rc] W fun e w' => e = .returned (.bool u3) ∧ Below W.heap.size W w') := fun W hb => into_is h3 ((hx.w.later hbx).later hb) ((hr.later hbx).later hb) (by omega) (by omega)
  have HBX := hid hbx
  clear hr hw hx hbx h1 h2 h3 hxr hxw
  subst hu
  go_enter Tryz.func42, Tryz.ntmps42
  go_upto_region 1 with fail
  rw [← hwx]
  clear hwx
  go_wp2_with fail
  refine C1.out.mono ?_
  rintro e w1 ⟨rfl, hw1⟩
  have HW1 := hid hw1
  have c6 := cell_later hw1 b6
  have c7 := cell_later hw1 b7
  clear hw1
  cases u1 with
  | true =>
    go_wp2_with fail
    go_ret
    exact ⟨by simp, Below.on HBX.out HW1.out⟩
  | false =>
    go_wp2_with fail
    refine (C2.out _ HW1.out).mono ?_
    rintro e w2 ⟨rfl, hw2⟩
    have HW2 : Hid (Below wx.heap.size wx w2) := Below.on HW1.out hw2
    have c7 := cell_later hw2 c7
    clear hw2
    cases u2 with
    | true =>
      go_wp2_with fail
      go_ret
      exact ⟨by simp, Below.on HBX.out HW2.out⟩
    | false =>
      go_wp2_with fail
      refine (C3.out _ HW2.out).mono ?_
      rintro e w3 ⟨rfl, hw3⟩
      go_wp2_with fail
      go_ret
      exact ⟨by simp, Below.on HBX.out (Below.on HW2.out hw3)⟩
end Go.Proofs.YtgplnbdankfobaaGreatDoor.Lk
