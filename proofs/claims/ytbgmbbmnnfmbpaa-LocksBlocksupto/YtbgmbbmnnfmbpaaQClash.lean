import Derived.Test.YtbgmbbmnnfmbpaaQSameC
import Derived.Test.YtbgmbbmnnfmbpaaQMeet
/- clash: do two that are held meet? -/
namespace Go.Proofs.Ytbgmbbmnnfmbpaa.Lk
open Go.RowKit Go.Sort
set_option linter.unusedVariables false

/-- do two that are held meet? -/
def clashB (a b : Hd) : Bool := meetB a.rs a.ws b
theorem clash_iff {a b : Hd} : clashB a b = true ↔ (∃ x ∈ a.ws, ∃ y ∈ b.ws, x.key = y.key) ∨ (∃ x ∈ a.ws, ∃ s ∈ b.rs, insB x.key s = true) ∨ (∃ y ∈ b.ws, ∃ s ∈ a.rs, insB y.key s = true) := meet_iff
theorem clash_symm (a b : Hd) : clashB a b = clashB b a := meet_symm

theorem nthW_of {ws : List Wr} {x : Wr} (h : x ∈ ws) : ∃ i, i < ws.length ∧ nthW ws i = x := by
  obtain ⟨i, hi, rfl⟩ := List.getElem_of_mem h
  exact ⟨i, hi, by simp [nthW, hi]⟩
theorem nth2_of {rs : List T2} {x : T2} (h : x ∈ rs) : ∃ i, i < rs.length ∧ nth2 rs i = x := by
  obtain ⟨i, hi, rfl⟩ := List.getElem_of_mem h
  exact ⟨i, hi, by simp [nth2, hi]⟩
theorem nth2_mem {rs : List T2} {k : Nat} (h : k < rs.length) : nth2 rs k ∈ rs := by
  have : nth2 rs k = rs[k] := by simp [nth2, h]
  rw [this]; exact List.getElem_mem h
theorem clash_no {a b : Hd} (h1 : ∀ i, i < a.ws.length → (∀ j, j < b.ws.length → sameK (nthW a.ws i).key (nthW b.ws j).key = false) ∧ ∀ j, j < b.rs.length → insB (nthW a.ws i).key (nth2 b.rs j) = false)
    (h2 : ∀ i, i < b.ws.length → ∀ j, j < a.rs.length → insB (nthW b.ws i).key (nth2 a.rs j) = false) : clashB a b = false := by
  cases h : clashB a b with
  | false => rfl
  | true =>
    rcases clash_iff.1 h with ⟨x, hx, y, hy, e⟩ | ⟨x, hx, s, hs, e⟩ | ⟨y, hy, s, hs, e⟩
    · obtain ⟨i, hi, rfl⟩ := nthW_of hx
      obtain ⟨j, hj, rfl⟩ := nthW_of hy
      rw [← (h1 i hi).1 j hj, e]; simp [sameK]
    · obtain ⟨i, hi, rfl⟩ := nthW_of hx
      obtain ⟨j, hj, rfl⟩ := nth2_of hs
      rw [← (h1 i hi).2 j hj, e]
    · obtain ⟨i, hi, rfl⟩ := nthW_of hy
      obtain ⟨j, hj, rfl⟩ := nth2_of hs
      rw [← h2 i hi j hj, e]
theorem clash_w {a b : Hd} {i j : Nat} (hi : i < a.ws.length) (hj : j < b.ws.length) (h : sameK (nthW a.ws i).key (nthW b.ws j).key = true) : clashB a b = true :=
  clash_iff.2 (.inl ⟨_, nthW_mem hi, _, nthW_mem hj, sameK_eq.1 h⟩)
theorem clash_r {a b : Hd} {i j : Nat} (hi : i < a.ws.length) (hj : j < b.rs.length) (h : insB (nthW a.ws i).key (nth2 b.rs j) = true) : clashB a b = true :=
  clash_iff.2 (.inr (.inl ⟨_, nthW_mem hi, _, nth2_mem hj, h⟩))
theorem clash_s {a b : Hd} {i j : Nat} (hi : i < b.ws.length) (hj : j < a.rs.length) (h : insB (nthW b.ws i).key (nth2 a.rs j) = true) : clashB a b = true :=
  clash_iff.2 (.inr (.inr ⟨_, nthW_mem hi, _, nth2_mem hj, h⟩))

set_option maxHeartbeats 2000000 in
theorem clash_is {x y : Hv} {w : World} {u : Bool} (hu : clashB x.h y.h = u) (hx : x.ok w) (hy : y.ok w) :
    Calls Try.prog 39 #[x.val, y.val] w fun e w' => e = .returned (.bool u) ∧ Below w.heap.size w w' := by
  obtain ⟨⟨⟨xc, xs⟩, xh, xw, xl, xn, xr, xv⟩, xra, xrc, xwa, xwc⟩ := x
  obtain ⟨⟨⟨yc, ys⟩, yh, yw, yl, yn, yr, yv⟩, yra, yrc, ywa, ywc⟩ := y
  obtain ⟨hx1, hx2, hx3, hx4⟩ := hx
  obtain ⟨hy1, hy2, hy3, hy4⟩ := hy
  simp only at hx1 hx2 hx3 hx4 hy1 hy2 hy3 hy4
  have HN : Hid ((∀ i, i < xv.length → (∀ j, j < yv.length → sameK (nthW xv i).key (nthW yv j).key = false) ∧ ∀ j, j < yr.length → insB (nthW xv i).key (nth2 yr j) = false) → (∀ i, i < yv.length → ∀ j, j < xr.length → insB (nthW yv i).key (nth2 xr j) = false) → u = false) := fun h1 h2 => hu.symm.trans (clash_no h1 h2)
  have HW : Hid (∀ i j, i < xv.length → j < yv.length → sameK (nthW xv i).key (nthW yv j).key = true → u = true) := fun i j hi hj h => hu.symm.trans (clash_w hi hj h)
  have HR : Hid (∀ i j, i < xv.length → j < yr.length → insB (nthW xv i).key (nth2 yr j) = true → u = true) := fun i j hi hj h => hu.symm.trans (clash_r hi hj h)
  have HS : Hid (∀ i j, i < yv.length → j < xr.length → insB (nthW yv i).key (nth2 xr j) = true → u = true) := fun i j hi hj h => hu.symm.trans (clash_s hi hj h)
  obtain ⟨wx, hwx⟩ : ∃ wx, wx = (w.alloc (.cells #[.int .u32 xc, .int .u32 xs, .int .u32 xh, .int .u64 xw, .int .u32 xl, .int .u32 xn, .slice xra xr.length xrc, .slice xwa xv.length xwc] 42)).alloc (.cells #[.int .u32 yc, .int .u32 ys, .int .u32 yh, .int .u64 yw, .int .u32 yl, .int .u32 yn, .slice yra yr.length yrc, .slice ywa yv.length ywc] 42) := ⟨_, rfl⟩
  have hbx : Below w.heap.size w wx := by rw [hwx]; exact Below.al (Below.al (Below.refl _ _) _) _
  have b6 : wx.cell? ⟨w.heap.size, 6, none⟩ = some (.slice xra xr.length xrc) := by rw [hwx]; simp [go_sem]
  have b7 : wx.cell? ⟨w.heap.size, 7, none⟩ = some (.slice xwa xv.length xwc) := by rw [hwx]; simp [go_sem]
  have d6 : wx.cell? ⟨w.heap.size + 1, 6, none⟩ = some (.slice yra yr.length yrc) := by rw [hwx]; simp [go_sem]
  have d7 : wx.cell? ⟨w.heap.size + 1, 7, none⟩ = some (.slice ywa yv.length ywc) := by rw [hwx]; simp [go_sem]
  have X1 := hid (hx1.later hbx)
  have X2 := hid (hx2.later hbx)
  have Y1 := hid (hy1.later hbx)
  have Y2 := hid (hy2.later hbx)
  have HBX := hid hbx
  have B6 := hid b6
  have B7 := hid b7
  have D6 := hid d6
  have D7 := hid d7
  clear hu hx1 hx2 hy1 hy2 hbx b6 b7 d6 d7
  go_enter Try.func39, Try.ntmps39
  go_wp2_with fail
  rw [← hwx]
  clear hwx
  go_loopg [5] xv.length (fun g s5 wr => ∃ k : Nat, k ≤ xv.length ∧ g = xv.length - k ∧ s5 = .int .i64 k ∧ Hid (Below wx.heap.size wx wr) ∧ Hid (∀ i, i < k → (∀ j, j < yv.length → sameK (nthW xv i).key (nthW yv j).key = false) ∧ ∀ j, j < yr.length → insB (nthW xv i).key (nth2 yr j) = false))
  case atStart => exact ⟨0, by omega, by omega, rfl, Below.refl _ _, fun i hi => absurd hi (by omega)⟩
  case round =>
    obtain ⟨k, hk, rfl, rfl, HB, HA⟩ := hrel
    have b7 := cell_later HB.out B7.out
    by_cases hlt : k < xv.length
    · have hk1 : (k : Int) < (xv.length : Int) := by omega
      have HBO := HB
      clear HB
      go_wp2_with fail
      clear b7
      go_loopg [6] yv.length (fun g s6 wr => ∃ m : Nat, m ≤ yv.length ∧ g = yv.length - m ∧ s6 = .int .i64 m ∧ Hid (Below wx.heap.size wx wr) ∧ Hid (∀ j, j < m → sameK (nthW xv k).key (nthW yv j).key = false))
      case atStart => exact ⟨0, by omega, by omega, rfl, HBO, fun i hi => absurd hi (by omega)⟩
      case round =>
        obtain ⟨m, hm, rfl, rfl, HB, HQ⟩ := hrel
        have d7 := cell_later HB.out D7.out
        have b7 := cell_later HB.out B7.out
        by_cases hlm : m < yv.length
        · obtain ⟨b, off, ex, c0, -, -⟩ := (X2.out.later HB.out) k hlt
          obtain ⟨b', off', ey, g0, -, -⟩ := (Y2.out.later HB.out) m hlm
          subst ex ey
          obtain ⟨p1, hp⟩ : ∃ p, p = (nthW xv k).key := ⟨_, rfl⟩
          obtain ⟨r1, hr⟩ : ∃ r, r = (nthW yv m).key := ⟨_, rfl⟩
          rw [← hp] at c0
          rw [← hr] at g0
          have hm1 : (m : Int) < (yv.length : Int) := by omega
          have k0 := cell_regrown c0
          have l0 := cell_regrown g0
          have m7 := cell_regrown b7
          have n7 := cell_regrown d7
          obtain ⟨z, hz⟩ : ∃ z, sameK p1 r1 = z := ⟨_, rfl⟩
          have HZ : Hid (sameK (nthW xv k).key (nthW yv m).key = z) := by rw [← hp, ← hr]; exact hz
          have qq : (p1.toList == r1.toList) = z := by rw [beq_bytes]; exact hz
          clear hz hp hr
          cases z with
          | true =>
            have hu1 : u = true := HW.out k m hlt hlm HZ.out
            subst hu1
            go_wp2_with fail
            refine wp_region_quiet_below (by kernel_rfl) (by kernel_rfl) ?_
            repeat (go_big_quiet_step (fail))
            refine wpQuiet_nil ?_
            intro wn hwn
            replace hwn := below_of_regrown hwn
            go_wp2_with fail
            go_ret
            exact ⟨rfl, Below.on HBX.out (Below.on HB.out hwn)⟩
          | false =>
            go_wp2_with fail
            refine wp_region_quiet_below (by kernel_rfl) (by kernel_rfl) ?_
            repeat (go_big_quiet_step (fail))
            refine wpQuiet_nil ?_
            intro wn hwn
            replace hwn := below_of_regrown hwn
            go_wp2_with fail
            go_roundg (yv.length - (m + 1))
            case measure => omega
            case rel =>
              refine ⟨m + 1, by omega, rfl, by go_num, Below.on HB.out hwn, fun j hj => ?_⟩
              by_cases e : j = m
              · subst e; exact HZ.out
              · exact HQ.out j (by omega)
        · obtain rfl : m = yv.length := by omega
          have HBP := HB
          clear HB
          go_wp2_with fail
          clear b7 d7
          go_loopg [7] yr.length (fun g s7 wr => ∃ m : Nat, m ≤ yr.length ∧ g = yr.length - m ∧ s7 = .int .i64 m ∧ Hid (Below wx.heap.size wx wr) ∧ Hid (∀ j, j < m → insB (nthW xv k).key (nth2 yr j) = false))
          case atStart => exact ⟨0, by omega, by omega, rfl, HBP, fun i hi => absurd hi (by omega)⟩
          case round =>
            obtain ⟨m, hm, rfl, rfl, HB, HI⟩ := hrel
            have d6 := cell_later HB.out D6.out
            have b7 := cell_later HB.out B7.out
            by_cases hlm : m < yr.length
            · obtain ⟨b, off, ex, c0, -, -⟩ := (X2.out.later HB.out) k hlt
              obtain ⟨b', off', ey, g0, g1⟩ := (Y1.out.later HB.out) m hlm
              subst ex ey
              obtain ⟨p1, hp⟩ : ∃ p, p = (nthW xv k).key := ⟨_, rfl⟩
              obtain ⟨⟨r1, r2⟩, hr⟩ : ∃ r, r = nth2 yr m := ⟨_, rfl⟩
              rw [← hp] at c0
              rw [← hr] at g0 g1
              simp only at g0 g1
              have hm1 : (m : Int) < (yr.length : Int) := by omega
              have k0 := cell_regrown c0
              have l0 := cell_regrown g0
              have l1 := cell_regrown g1
              have m7 := cell_regrown b7
              have n6 := cell_regrown d6
              obtain ⟨z, hz⟩ : ∃ z, insB p1 (r1, r2) = z := ⟨_, rfl⟩
              have HZ : Hid (insB (nthW xv k).key (nth2 yr m) = z) := by rw [← hp, ← hr]; exact hz
              have HZZ := hid hz
              clear hz hp hr
              cases z with
              | true =>
                have hu1 : u = true := HR.out k m hlt hlm HZ.out
                subst hu1
                go_wp2_with fail
                refine wp_region_quiet_below (by kernel_rfl) (by kernel_rfl) ?_
                repeat (go_big_quiet_step (((go_at_call 9; exact Calls.regrown_of (inside_is (s := (r1, r2)) HZZ.out _)))))
                refine wpQuiet_nil ?_
                intro wn hwn
                replace hwn := below_of_regrown hwn
                go_wp2_with fail
                go_ret
                exact ⟨rfl, Below.on HBX.out (Below.on HB.out hwn)⟩
              | false =>
                go_wp2_with fail
                refine wp_region_quiet_below (by kernel_rfl) (by kernel_rfl) ?_
                repeat (go_big_quiet_step (((go_at_call 9; exact Calls.regrown_of (inside_is (s := (r1, r2)) HZZ.out _)))))
                refine wpQuiet_nil ?_
                intro wn hwn
                replace hwn := below_of_regrown hwn
                go_wp2_with fail
                go_roundg (yr.length - (m + 1))
                case measure => omega
                case rel =>
                  refine ⟨m + 1, by omega, rfl, by go_num, Below.on HB.out hwn, fun j hj => ?_⟩
                  by_cases e : j = m
                  · subst e; exact HZ.out
                  · exact HI.out j (by omega)
            · obtain rfl : m = yr.length := by omega
              go_wp2_with fail
              go_roundg (xv.length - (k + 1))
              case measure => omega
              case rel =>
                refine ⟨k + 1, by omega, rfl, by go_num, HB, fun i hi => ?_⟩
                by_cases e : i = k
                · subst e; exact ⟨HQ.out, HI.out⟩
                · exact HA.out i (by omega)
    · obtain rfl : k = xv.length := by omega
      have HBO := HB
      clear HB
      go_wp2_with fail
      clear b7
      go_loopg [8] yv.length (fun g s8 wr => ∃ k : Nat, k ≤ yv.length ∧ g = yv.length - k ∧ s8 = .int .i64 k ∧ Hid (Below wx.heap.size wx wr) ∧ Hid (∀ i, i < k → ∀ j, j < xr.length → insB (nthW yv i).key (nth2 xr j) = false))
      case atStart => exact ⟨0, by omega, by omega, rfl, HBO, fun i hi => absurd hi (by omega)⟩
      case round =>
        clear hk hlt
        obtain ⟨k, hk, rfl, rfl, HB, HC⟩ := hrel
        have d7 := cell_later HB.out D7.out
        by_cases hlt : k < yv.length
        · have hk1 : (k : Int) < (yv.length : Int) := by omega
          have HBP := HB
          clear HB
          go_wp2_with fail
          clear d7
          go_loopg [9] xr.length (fun g s9 wr => ∃ m : Nat, m ≤ xr.length ∧ g = xr.length - m ∧ s9 = .int .i64 m ∧ Hid (Below wx.heap.size wx wr) ∧ Hid (∀ j, j < m → insB (nthW yv k).key (nth2 xr j) = false))
          case atStart => exact ⟨0, by omega, by omega, rfl, HBP, fun i hi => absurd hi (by omega)⟩
          case round =>
            obtain ⟨m, hm, rfl, rfl, HB, HI⟩ := hrel
            have d6 := cell_later HB.out B6.out
            have b7 := cell_later HB.out D7.out
            by_cases hlm : m < xr.length
            · obtain ⟨b, off, ex, c0, -, -⟩ := (Y2.out.later HB.out) k hlt
              obtain ⟨b', off', ey, g0, g1⟩ := (X1.out.later HB.out) m hlm
              subst ex ey
              obtain ⟨p1, hp⟩ : ∃ p, p = (nthW yv k).key := ⟨_, rfl⟩
              obtain ⟨⟨r1, r2⟩, hr⟩ : ∃ r, r = nth2 xr m := ⟨_, rfl⟩
              rw [← hp] at c0
              rw [← hr] at g0 g1
              simp only at g0 g1
              have hm1 : (m : Int) < (xr.length : Int) := by omega
              have k0 := cell_regrown c0
              have l0 := cell_regrown g0
              have l1 := cell_regrown g1
              have m7 := cell_regrown b7
              have n6 := cell_regrown d6
              obtain ⟨z, hz⟩ : ∃ z, insB p1 (r1, r2) = z := ⟨_, rfl⟩
              have HZ : Hid (insB (nthW yv k).key (nth2 xr m) = z) := by rw [← hp, ← hr]; exact hz
              have HZZ := hid hz
              clear hz hp hr
              cases z with
              | true =>
                have hu1 : u = true := HS.out k m hlt hlm HZ.out
                subst hu1
                go_wp2_with fail
                refine wp_region_quiet_below (by kernel_rfl) (by kernel_rfl) ?_
                repeat (go_big_quiet_step (((go_at_call 9; exact Calls.regrown_of (inside_is (s := (r1, r2)) HZZ.out _)))))
                refine wpQuiet_nil ?_
                intro wn hwn
                replace hwn := below_of_regrown hwn
                go_wp2_with fail
                go_ret
                exact ⟨rfl, Below.on HBX.out (Below.on HB.out hwn)⟩
              | false =>
                go_wp2_with fail
                refine wp_region_quiet_below (by kernel_rfl) (by kernel_rfl) ?_
                repeat (go_big_quiet_step (((go_at_call 9; exact Calls.regrown_of (inside_is (s := (r1, r2)) HZZ.out _)))))
                refine wpQuiet_nil ?_
                intro wn hwn
                replace hwn := below_of_regrown hwn
                go_wp2_with fail
                go_roundg (xr.length - (m + 1))
                case measure => omega
                case rel =>
                  refine ⟨m + 1, by omega, rfl, by go_num, Below.on HB.out hwn, fun j hj => ?_⟩
                  by_cases e : j = m
                  · subst e; exact HZ.out
                  · exact HI.out j (by omega)
            · obtain rfl : m = xr.length := by omega
              go_wp2_with fail
              go_roundg (yv.length - (k + 1))
              case measure => omega
              case rel =>
                refine ⟨k + 1, by omega, rfl, by go_num, HB, fun i hi => ?_⟩
                by_cases e : i = k
                · subst e; exact HI.out
                · exact HC.out i (by omega)
        · obtain rfl : k = yv.length := by omega
          have hu0 : u = false := HN.out HA.out HC.out
          subst hu0
          go_wp2_with fail
          go_ret
          exact ⟨rfl, Below.on HBX.out HB.out⟩
end Go.Proofs.Ytbgmbbmnnfmbpaa.Lk
