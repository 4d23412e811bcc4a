import Derived.Test.YtbgmbbmnnfmbpabQDoesN
/- The law's does: Conflict. -/
namespace Go.Proofs.Ytbgmbbmnnfmbpab.Lk
open Go.RowKit Go.Sort
set_option linter.unusedVariables false
theorem roomy_ok {w0 w w1 : World} {v : Hv} {g1 g2 : Nat} (hv : v.ok w0) (h1 : Room2 w w1 g1 v.h.rs) (h2 : RoomW w w1 g2 v.h.ws) : (v.roomy g1 g2).ok w1 := ⟨h1.row, h2.row, hv.rl, hv.wl⟩

set_option maxRecDepth 8000 in
set_option maxHeartbeats 4000000 in
theorem does_conf {B p q n c : Nat} {m1 m2 : Option Nat} {w : World} {a : Option Addr} {V R : List Hv} {I : It} {v : Hv} {s : T2} {on : Int} (T : Both B w p m1 m2 V I q a n c R) (hv : v.ok w) :
    Calls Try.prog 6 #[.pointer (some ⟨p, 0, none⟩), .pointer (some ⟨q, 0, none⟩), .agg #[.int .i64 3, .int .i64 on, .int .u32 v.h.id.1, .int .u32 v.h.id.2, .int .u32 v.h.home, .int .u64 v.h.w, .int .u32 v.h.l, .int .u32 v.h.n, .slice v.ra v.h.rs.length v.rc, .slice v.wa v.h.ws.length v.wc, .string s.1, .string s.2]] w fun e w' => e = .returned (.bool true) ∧ Below w.heap.size w w' := by
  obtain ⟨wx, hwx⟩ : ∃ wx, wx = w.alloc (.cells #[.int .i64 3, .int .i64 on, .int .u32 v.h.id.1, .int .u32 v.h.id.2, .int .u32 v.h.home, .int .u64 v.h.w, .int .u32 v.h.l, .int .u32 v.h.n, .slice v.ra v.h.rs.length v.rc, .slice v.wa v.h.ws.length v.wc, .string s.1, .string s.2] 40) := ⟨_, rfl⟩
  have hbx : Below w.heap.size w wx := by rw [hwx]; exact Below.al (Below.refl _ _) _
  have x0 : wx.cell? ⟨w.heap.size, 0, none⟩ = some (.int .i64 3) := by rw [hwx]; simp [go_sem]
  have x1 : wx.cell? ⟨w.heap.size, 1, none⟩ = some (.int .i64 on) := by rw [hwx]; simp [go_sem]
  have x2 : wx.cell? ⟨w.heap.size, 2, none⟩ = some (.int .u32 v.h.id.1) := by rw [hwx]; simp [go_sem]
  have x3 : wx.cell? ⟨w.heap.size, 3, none⟩ = some (.int .u32 v.h.id.2) := by rw [hwx]; simp [go_sem]
  have x4 : wx.cell? ⟨w.heap.size, 4, none⟩ = some (.int .u32 v.h.home) := by rw [hwx]; simp [go_sem]
  have x5 : wx.cell? ⟨w.heap.size, 5, none⟩ = some (.int .u64 v.h.w) := by rw [hwx]; simp [go_sem]
  have x6 : wx.cell? ⟨w.heap.size, 6, none⟩ = some (.int .u32 v.h.l) := by rw [hwx]; simp [go_sem]
  have x7 : wx.cell? ⟨w.heap.size, 7, none⟩ = some (.int .u32 v.h.n) := by rw [hwx]; simp [go_sem]
  have x8 : wx.cell? ⟨w.heap.size, 8, none⟩ = some (.slice v.ra v.h.rs.length v.rc) := by rw [hwx]; simp [go_sem]
  have x9 : wx.cell? ⟨w.heap.size, 9, none⟩ = some (.slice v.wa v.h.ws.length v.wc) := by rw [hwx]; simp [go_sem]
  have x10 : wx.cell? ⟨w.heap.size, 10, none⟩ = some (.string s.1) := by rw [hwx]; simp [go_sem]
  have x11 : wx.cell? ⟨w.heap.size, 11, none⟩ = some (.string s.2) := by rw [hwx]; simp [go_sem]
  have HBX := hid hbx
  have HT := hid T
  have HV := hid hv
  have CO : Hid (Calls Try.prog 10 #[.agg #[.int .u32 v.h.id.1, .int .u32 v.h.id.2, .int .u32 v.h.home, .int .u64 v.h.w, .int .u32 v.h.l, .int .u32 v.h.n, .slice v.ra v.h.rs.length v.rc, .slice v.wa v.h.ws.length v.wc]] wx fun e w' => ∃ g1 g2, e = .returned (.agg #[.int .u32 v.h.id.1, .int .u32 v.h.id.2, .int .u32 v.h.home, .int .u64 v.h.w, .int .u32 v.h.l, .int .u32 v.h.n, .slice (some ⟨g1, 0, none⟩) v.h.rs.length (v.h.rs.length + 1), .slice (some ⟨g2, 0, none⟩) v.h.ws.length (v.h.ws.length + 1)]) ∧ Room2 wx w' g1 v.h.rs ∧ RoomW wx w' g2 v.h.ws) := copied_is (hv.later hbx)
  clear hbx T hv
  go_enter Try.func6, Try.ntmps6
  go_upto_region 1 with fail
  rw [← hwx]
  clear hwx
  go_wp2_with fail
  refine CO.out.mono ?_
  rintro e w1 ⟨g1, g2, rfl, HR1, HR2⟩
  have HM1 := hid HR1
  have HM2 := hid HR2
  have hb1 := HR2.bl
  replace x0 := cell_later hb1 x0
  replace x1 := cell_later hb1 x1
  replace x2 := cell_later hb1 x2
  replace x3 := cell_later hb1 x3
  replace x4 := cell_later hb1 x4
  replace x5 := cell_later hb1 x5
  replace x6 := cell_later hb1 x6
  replace x7 := cell_later hb1 x7
  replace x8 := cell_later hb1 x8
  replace x9 := cell_later hb1 x9
  replace x10 := cell_later hb1 x10
  replace x11 := cell_later hb1 x11
  have HB1 : Hid (Below w.heap.size w w1) := Below.on HBX.out hb1
  clear CO HR1 HR2 hb1
  obtain ⟨w2, hw2⟩ : ∃ w2, w2 = w1.alloc (.cells #[.int .u32 v.h.id.1, .int .u32 v.h.id.2, .int .u32 v.h.home, .int .u64 v.h.w, .int .u32 v.h.l, .int .u32 v.h.n, .slice (some ⟨g1, 0, none⟩) v.h.rs.length (v.h.rs.length + 1), .slice (some ⟨g2, 0, none⟩) v.h.ws.length (v.h.ws.length + 1)] 36) := ⟨_, rfl⟩
  have hb2 : Below w1.heap.size w1 w2 := by rw [hw2]; exact Below.al (Below.refl _ _) _
  replace x0 := cell_later hb2 x0
  replace x1 := cell_later hb2 x1
  replace x2 := cell_later hb2 x2
  replace x3 := cell_later hb2 x3
  replace x4 := cell_later hb2 x4
  replace x5 := cell_later hb2 x5
  replace x6 := cell_later hb2 x6
  replace x7 := cell_later hb2 x7
  replace x8 := cell_later hb2 x8
  replace x9 := cell_later hb2 x9
  replace x10 := cell_later hb2 x10
  replace x11 := cell_later hb2 x11
  have z0 : w2.cell? ⟨w1.heap.size, 0, none⟩ = some (.int .u32 v.h.id.1) := by rw [hw2]; simp [go_sem]
  have z1 : w2.cell? ⟨w1.heap.size, 1, none⟩ = some (.int .u32 v.h.id.2) := by rw [hw2]; simp [go_sem]
  have z2 : w2.cell? ⟨w1.heap.size, 2, none⟩ = some (.int .u32 v.h.home) := by rw [hw2]; simp [go_sem]
  have z3 : w2.cell? ⟨w1.heap.size, 3, none⟩ = some (.int .u64 v.h.w) := by rw [hw2]; simp [go_sem]
  have z4 : w2.cell? ⟨w1.heap.size, 4, none⟩ = some (.int .u32 v.h.l) := by rw [hw2]; simp [go_sem]
  have z5 : w2.cell? ⟨w1.heap.size, 5, none⟩ = some (.int .u32 v.h.n) := by rw [hw2]; simp [go_sem]
  have z6 : w2.cell? ⟨w1.heap.size, 6, none⟩ = some (.slice (some ⟨g1, 0, none⟩) v.h.rs.length (v.h.rs.length + 1)) := by rw [hw2]; simp [go_sem]
  have z7 : w2.cell? ⟨w1.heap.size, 7, none⟩ = some (.slice (some ⟨g2, 0, none⟩) v.h.ws.length (v.h.ws.length + 1)) := by rw [hw2]; simp [go_sem]
  have H12 := hid hb2
  have HB2 : Hid (Below w.heap.size w w2) := Below.on HB1.out hb2
  clear hb2
  go_upto_region 2 with fail
  rw [← hw2]
  clear hw2
  obtain ⟨u, hu⟩ : ∃ u, confl (V.map Hv.h) v.h.id v.h.rs v.h.ws = u := ⟨_, rfl⟩
  have HRO : Hid ((v.roomy g1 g2).ok w2) := (roomy_ok HV.out HM1.out HM2.out).later H12.out
  have CP : Hid (∀ W, Below w2.heap.size w2 W → Calls Try.prog 16 #[.pointer (some ⟨p, 0, none⟩), .agg #[.int .u32 v.h.id.1, .int .u32 v.h.id.2], .slice (some ⟨g1, 0, none⟩) v.h.rs.length (v.h.rs.length + 1), .slice (some ⟨g2, 0, none⟩) v.h.ws.length (v.h.ws.length + 1)] W fun e w' => e = .returned (.bool u) ∧ Below W.heap.size W w') := fun W hb => conflict_is (i := v.h.id) hu (HT.out.later (Below.on HB2.out hb)).tb (HRO.out.later hb).r (HRO.out.later hb).w (by have := HV.out.rl; omega) (by have := HV.out.wl; omega)
  have CR : Hid (∀ W, Below w2.heap.size w2 W → Calls Try.prog 17 #[.pointer (some ⟨q, 0, none⟩), .agg #[.int .u32 v.h.id.1, .int .u32 v.h.id.2], .slice v.ra v.h.rs.length v.rc, .slice v.wa v.h.ws.length v.wc] W fun e w' => e = .returned (.bool u) ∧ Below W.heap.size W w') := fun W hb => rconf_is (i := v.h.id) (by rw [← HT.out.eq]; exact hu) (HT.out.later (Below.on HB2.out hb)).rt (HV.out.later (Below.on HB2.out hb)).r (HV.out.later (Below.on HB2.out hb)).w (by have := HV.out.rl; omega) (by have := HV.out.wl; omega)
  have LF : Hid (∀ W, Below w2.heap.size w2 W → Calls Try.prog 13 #[.agg #[.int .u32 v.h.id.1, .int .u32 v.h.id.2, .int .u32 v.h.home, .int .u64 v.h.w, .int .u32 v.h.l, .int .u32 v.h.n, .slice (some ⟨g1, 0, none⟩) v.h.rs.length (v.h.rs.length + 1), .slice (some ⟨g2, 0, none⟩) v.h.ws.length (v.h.ws.length + 1)], .agg #[.int .u32 v.h.id.1, .int .u32 v.h.id.2, .int .u32 v.h.home, .int .u64 v.h.w, .int .u32 v.h.l, .int .u32 v.h.n, .slice v.ra v.h.rs.length v.rc, .slice v.wa v.h.ws.length v.wc]] W fun e w' => e = .returned (.bool true) ∧ Below W.heap.size W w') := fun W hb => left_is (HV.out.later (Below.on HB2.out hb)) (HRO.out.later hb) (by
      obtain ⟨f, h1, h2, h3⟩ := HM1.out.cells
      exact ⟨f, (h1.later H12.out).later hb, h2, h3⟩) (by
      obtain ⟨f, h1, h2, h3⟩ := HM2.out.cells
      exact ⟨f, (h1.later H12.out).later hb, h2, h3⟩)
  clear hu
  go_wp2_with fail
  refine (CP.out _ (Below.refl _ _)).mono ?_
  rintro e w3 ⟨rfl, hb3⟩
  replace x0 := cell_later hb3 x0
  replace x1 := cell_later hb3 x1
  replace x2 := cell_later hb3 x2
  replace x3 := cell_later hb3 x3
  replace x4 := cell_later hb3 x4
  replace x5 := cell_later hb3 x5
  replace x6 := cell_later hb3 x6
  replace x7 := cell_later hb3 x7
  replace x8 := cell_later hb3 x8
  replace x9 := cell_later hb3 x9
  replace x10 := cell_later hb3 x10
  replace x11 := cell_later hb3 x11
  replace z0 := cell_later hb3 z0
  replace z1 := cell_later hb3 z1
  replace z2 := cell_later hb3 z2
  replace z3 := cell_later hb3 z3
  replace z4 := cell_later hb3 z4
  replace z5 := cell_later hb3 z5
  replace z6 := cell_later hb3 z6
  replace z7 := cell_later hb3 z7
  have HB3 := hid hb3
  clear hb3
  go_wp2_with fail
  refine (CR.out _ HB3.out).mono ?_
  rintro e w4 ⟨rfl, hb4⟩
  replace x0 := cell_later hb4 x0
  replace x1 := cell_later hb4 x1
  replace x2 := cell_later hb4 x2
  replace x3 := cell_later hb4 x3
  replace x4 := cell_later hb4 x4
  replace x5 := cell_later hb4 x5
  replace x6 := cell_later hb4 x6
  replace x7 := cell_later hb4 x7
  replace x8 := cell_later hb4 x8
  replace x9 := cell_later hb4 x9
  replace x10 := cell_later hb4 x10
  replace x11 := cell_later hb4 x11
  replace z0 := cell_later hb4 z0
  replace z1 := cell_later hb4 z1
  replace z2 := cell_later hb4 z2
  replace z3 := cell_later hb4 z3
  replace z4 := cell_later hb4 z4
  replace z5 := cell_later hb4 z5
  replace z6 := cell_later hb4 z6
  replace z7 := cell_later hb4 z7
  have HB4 : Hid (Below w2.heap.size w2 w4) := Below.on HB3.out hb4
  clear hb4
  cases u with
  | true =>
    go_wp2_with fail
    refine (LF.out _ HB4.out).mono ?_
    rintro e w5 ⟨rfl, hb5⟩
    have HB5 : Hid (Below w.heap.size w w5) := Below.on HB2.out (Below.on HB4.out hb5)
    clear hb5
    go_wp2_with fail
    go_ret
    exact ⟨rfl, HB5.out⟩
  | false =>
    go_wp2_with fail
    refine (LF.out _ HB4.out).mono ?_
    rintro e w5 ⟨rfl, hb5⟩
    have HB5 : Hid (Below w.heap.size w w5) := Below.on HB2.out (Below.on HB4.out hb5)
    clear hb5
    go_wp2_with fail
    go_ret
    exact ⟨rfl, HB5.out⟩
end Go.Proofs.Ytbgmbbmnnfmbpab.Lk
