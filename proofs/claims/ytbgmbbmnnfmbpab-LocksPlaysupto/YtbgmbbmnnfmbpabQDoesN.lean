import Derived.Test.YtbgmbbmnnfmbpabQDoesA
/- The law's does: no kind at all. -/
namespace Go.Proofs.Ytbgmbbmnnfmbpab.Lk
open Go.RowKit Go.Sort
set_option linter.unusedVariables false

set_option maxRecDepth 8000 in
set_option maxHeartbeats 4000000 in
theorem does_none {B p q n c : Nat} {m1 m2 : Option Nat} {w : World} {a : Option Addr} {V R : List Hv} {I : It} {v : Hv} {s : T2} {on : Int} (T : Both B w p m1 m2 V I q a n c R) (hv : v.ok w) {k : Int} (k1 : (k == 1) = false) (k2 : (k == 2) = false) (k3 : (k == 3) = false) (k4 : (k == 4) = false) (k5 : (k == 5) = false) (k6 : (k == 6) = false) (k7 : (k == 7) = false) :
    Calls Try.prog 6 #[.pointer (some ⟨p, 0, none⟩), .pointer (some ⟨q, 0, none⟩), .agg #[.int .i64 k, .int .i64 on, .int .u32 v.h.id.1, .int .u32 v.h.id.2, .int .u32 v.h.home, .int .u64 v.h.w, .int .u32 v.h.l, .int .u32 v.h.n, .slice v.ra v.h.rs.length v.rc, .slice v.wa v.h.ws.length v.wc, .string s.1, .string s.2]] w fun e w' => e = .returned (.bool true) ∧ Below w.heap.size w w' := by
  obtain ⟨wx, hwx⟩ : ∃ wx, wx = w.alloc (.cells #[.int .i64 k, .int .i64 on, .int .u32 v.h.id.1, .int .u32 v.h.id.2, .int .u32 v.h.home, .int .u64 v.h.w, .int .u32 v.h.l, .int .u32 v.h.n, .slice v.ra v.h.rs.length v.rc, .slice v.wa v.h.ws.length v.wc, .string s.1, .string s.2] 40) := ⟨_, rfl⟩
  have hbx : Below w.heap.size w wx := by rw [hwx]; exact Below.al (Below.refl _ _) _
  have x0 : wx.cell? ⟨w.heap.size, 0, none⟩ = some (.int .i64 k) := by rw [hwx]; simp [go_sem]
  have x1 : wx.cell? ⟨w.heap.size, 1, none⟩ = some (.int .i64 on) := by rw [hwx]; simp [go_sem]
  have x2 : wx.cell? ⟨w.heap.size, 2, none⟩ = some (.int .u32 v.h.id.1) := by rw [hwx]; simp [go_sem]
  have x3 : wx.cell? ⟨w.heap.size, 3, none⟩ = some (.int .u32 v.h.id.2) := by rw [hwx]; simp [go_sem]
  have x4 : wx.cell? ⟨w.heap.size, 4, none⟩ = some (.int .u32 v.h.home) := by rw [hwx]; simp [go_sem]
  have x5 : wx.cell? ⟨w.heap.size, 5, none⟩ = some (.int .u64 v.h.w) := by rw [hwx]; simp [go_sem]
  have x6 : wx.cell? ⟨w.heap.size, 6, none⟩ = some (.int .u32 v.h.l) := by rw [hwx]; simp [go_sem]
  have x7 : wx.cell? ⟨w.heap.size, 7, none⟩ = some (.int .u32 v.h.n) := by rw [hwx]; simp [go_sem]
  have x8 : wx.cell? ⟨w.heap.size, 8, none⟩ = some (.slice v.ra v.h.rs.length v.rc) := by rw [hwx]; simp [go_sem]
  have x9 : wx.cell? ⟨w.heap.size, 9, none⟩ = some (.slice v.wa v.h.ws.length v.wc) := by rw [hwx]; simp [go_sem]
  have x10 : wx.cell? ⟨w.heap.size, 10, none⟩ = some (.string s.1) := by rw [hwx]; simp [go_sem]
  have x11 : wx.cell? ⟨w.heap.size, 11, none⟩ = some (.string s.2) := by rw [hwx]; simp [go_sem]
  have HBX := hid hbx
  have HT := hid T
  have HV := hid hv
  have CO : Hid (Calls Try.prog 10 #[.agg #[.int .u32 v.h.id.1, .int .u32 v.h.id.2, .int .u32 v.h.home, .int .u64 v.h.w, .int .u32 v.h.l, .int .u32 v.h.n, .slice v.ra v.h.rs.length v.rc, .slice v.wa v.h.ws.length v.wc]] wx fun e w' => ∃ g1 g2, e = .returned (.agg #[.int .u32 v.h.id.1, .int .u32 v.h.id.2, .int .u32 v.h.home, .int .u64 v.h.w, .int .u32 v.h.l, .int .u32 v.h.n, .slice (some ⟨g1, 0, none⟩) v.h.rs.length (v.h.rs.length + 1), .slice (some ⟨g2, 0, none⟩) v.h.ws.length (v.h.ws.length + 1)]) ∧ Room2 wx w' g1 v.h.rs ∧ RoomW wx w' g2 v.h.ws) := copied_is (hv.later hbx)
  clear hbx T hv
  go_enter Try.func6, Try.ntmps6
  go_upto_region 1 with fail
  rw [← hwx]
  clear hwx
  go_wp2_with fail
  refine CO.out.mono ?_
  rintro e w1 ⟨g1, g2, rfl, HR1, HR2⟩
  have HM1 := hid HR1
  have HM2 := hid HR2
  have hb1 := HR2.bl
  replace x0 := cell_later hb1 x0
  replace x1 := cell_later hb1 x1
  replace x2 := cell_later hb1 x2
  replace x3 := cell_later hb1 x3
  replace x4 := cell_later hb1 x4
  replace x5 := cell_later hb1 x5
  replace x6 := cell_later hb1 x6
  replace x7 := cell_later hb1 x7
  replace x8 := cell_later hb1 x8
  replace x9 := cell_later hb1 x9
  replace x10 := cell_later hb1 x10
  replace x11 := cell_later hb1 x11
  have HB1 : Hid (Below w.heap.size w w1) := Below.on HBX.out hb1
  clear CO HR1 HR2 hb1
  obtain ⟨w2, hw2⟩ : ∃ w2, w2 = w1.alloc (.cells #[.int .u32 v.h.id.1, .int .u32 v.h.id.2, .int .u32 v.h.home, .int .u64 v.h.w, .int .u32 v.h.l, .int .u32 v.h.n, .slice (some ⟨g1, 0, none⟩) v.h.rs.length (v.h.rs.length + 1), .slice (some ⟨g2, 0, none⟩) v.h.ws.length (v.h.ws.length + 1)] 36) := ⟨_, rfl⟩
  have hb2 : Below w1.heap.size w1 w2 := by rw [hw2]; exact Below.al (Below.refl _ _) _
  replace x0 := cell_later hb2 x0
  replace x1 := cell_later hb2 x1
  replace x2 := cell_later hb2 x2
  replace x3 := cell_later hb2 x3
  replace x4 := cell_later hb2 x4
  replace x5 := cell_later hb2 x5
  replace x6 := cell_later hb2 x6
  replace x7 := cell_later hb2 x7
  replace x8 := cell_later hb2 x8
  replace x9 := cell_later hb2 x9
  replace x10 := cell_later hb2 x10
  replace x11 := cell_later hb2 x11
  have z0 : w2.cell? ⟨w1.heap.size, 0, none⟩ = some (.int .u32 v.h.id.1) := by rw [hw2]; simp [go_sem]
  have z1 : w2.cell? ⟨w1.heap.size, 1, none⟩ = some (.int .u32 v.h.id.2) := by rw [hw2]; simp [go_sem]
  have z2 : w2.cell? ⟨w1.heap.size, 2, none⟩ = some (.int .u32 v.h.home) := by rw [hw2]; simp [go_sem]
  have z3 : w2.cell? ⟨w1.heap.size, 3, none⟩ = some (.int .u64 v.h.w) := by rw [hw2]; simp [go_sem]
  have z4 : w2.cell? ⟨w1.heap.size, 4, none⟩ = some (.int .u32 v.h.l) := by rw [hw2]; simp [go_sem]
  have z5 : w2.cell? ⟨w1.heap.size, 5, none⟩ = some (.int .u32 v.h.n) := by rw [hw2]; simp [go_sem]
  have z6 : w2.cell? ⟨w1.heap.size, 6, none⟩ = some (.slice (some ⟨g1, 0, none⟩) v.h.rs.length (v.h.rs.length + 1)) := by rw [hw2]; simp [go_sem]
  have z7 : w2.cell? ⟨w1.heap.size, 7, none⟩ = some (.slice (some ⟨g2, 0, none⟩) v.h.ws.length (v.h.ws.length + 1)) := by rw [hw2]; simp [go_sem]
  have H12 := hid hb2
  have HB2 : Hid (Below w.heap.size w w2) := Below.on HB1.out hb2
  clear hb2
  go_upto_region 2 with fail
  rw [← hw2]
  clear hw2
  go_wp2_with fail
  go_ret
  exact ⟨rfl, HB2.out⟩
end Go.Proofs.Ytbgmbbmnnfmbpab.Lk
