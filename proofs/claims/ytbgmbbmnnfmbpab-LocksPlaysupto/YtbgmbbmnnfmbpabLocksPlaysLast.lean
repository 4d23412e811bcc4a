import Derived.Test.YtbgmbbmnnfmbpabQDoesC
import Derived.Test.YtbgmbbmnnfmbpabQGet
import Derived.Test.YtbgmbbmnnfmbpabQRelease
import Derived.Test.YtbgmbbmnnfmbpabQDoesN
import Derived.Test.YtbgmbbmnnfmbpabQDoesA
import Derived.Test.YtbgmbbmnnfmbpabQBlkP
import Derived.Test.YtbgmbbmnnfmbpabQHold
import Derived.Test.YtbgmbbmnnfmbpabOpenRows
import Derived.Test.YtbgmbbmnnfmbpabQNew
import Derived.Test.YtbgmbbmnnfmbpabQLawP
import Derived.ProofKit
import Derived.OpenShut
import Derived.ShutString
import Derived.ChangeOld
import Derived.Below
import Derived.JoinedCond
/- The law's does: Get. -/
namespace Go.Proofs.Ytbgmbbmnnfmbpab.Lk
open Go.RowKit Go.Sort
set_option linter.unusedVariables false

set_option maxRecDepth 8000 in
set_option maxHeartbeats 4000000 in
theorem does_get {B p q n c : Nat} {m1 m2 : Option Nat} {w : World} {a : Option Addr} {V R : List Hv} {I : It} {v : Hv} {s : T2} {on : Int} (T : Both B w p m1 m2 V I q a n c R) (hv : v.ok w) :
    Calls Try.prog 6 #[.pointer (some ⟨p, 0, none⟩), .pointer (some ⟨q, 0, none⟩), .agg #[.int .i64 4, .int .i64 on, .int .u32 v.h.id.1, .int .u32 v.h.id.2, .int .u32 v.h.home, .int .u64 v.h.w, .int .u32 v.h.l, .int .u32 v.h.n, .slice v.ra v.h.rs.length v.rc, .slice v.wa v.h.ws.length v.wc, .string s.1, .string s.2]] w fun e w' => e = .returned (.bool true) ∧ Below w.heap.size w w' := by
  obtain ⟨wx, hwx⟩ : ∃ wx, wx = w.alloc (.cells #[.int .i64 4, .int .i64 on, .int .u32 v.h.id.1, .int .u32 v.h.id.2, .int .u32 v.h.home, .int .u64 v.h.w, .int .u32 v.h.l, .int .u32 v.h.n, .slice v.ra v.h.rs.length v.rc, .slice v.wa v.h.ws.length v.wc, .string s.1, .string s.2] 40) := ⟨_, rfl⟩
  have hbx : Below w.heap.size w wx := by rw [hwx]; exact Below.al (Below.refl _ _) _
  have x0 : wx.cell? ⟨w.heap.size, 0, none⟩ = some (.int .i64 4) := by rw [hwx]; simp [go_sem]
  have x1 : wx.cell? ⟨w.heap.size, 1, none⟩ = some (.int .i64 on) := by rw [hwx]; simp [go_sem]
  have x2 : wx.cell? ⟨w.heap.size, 2, none⟩ = some (.int .u32 v.h.id.1) := by rw [hwx]; simp [go_sem]
  have x3 : wx.cell? ⟨w.heap.size, 3, none⟩ = some (.int .u32 v.h.id.2) := by rw [hwx]; simp [go_sem]
  have x4 : wx.cell? ⟨w.heap.size, 4, none⟩ = some (.int .u32 v.h.home) := by rw [hwx]; simp [go_sem]
  have x5 : wx.cell? ⟨w.heap.size, 5, none⟩ = some (.int .u64 v.h.w) := by rw [hwx]; simp [go_sem]
  have x6 : wx.cell? ⟨w.heap.size, 6, none⟩ = some (.int .u32 v.h.l) := by rw [hwx]; simp [go_sem]
  have x7 : wx.cell? ⟨w.heap.size, 7, none⟩ = some (.int .u32 v.h.n) := by rw [hwx]; simp [go_sem]
  have x8 : wx.cell? ⟨w.heap.size, 8, none⟩ = some (.slice v.ra v.h.rs.length v.rc) := by rw [hwx]; simp [go_sem]
  have x9 : wx.cell? ⟨w.heap.size, 9, none⟩ = some (.slice v.wa v.h.ws.length v.wc) := by rw [hwx]; simp [go_sem]
  have x10 : wx.cell? ⟨w.heap.size, 10, none⟩ = some (.string s.1) := by rw [hwx]; simp [go_sem]
  have x11 : wx.cell? ⟨w.heap.size, 11, none⟩ = some (.string s.2) := by rw [hwx]; simp [go_sem]
  have HBX := hid hbx
  have HT := hid T
  have HV := hid hv
  have CO : Hid (Calls Try.prog 10 #[.agg #[.int .u32 v.h.id.1, .int .u32 v.h.id.2, .int .u32 v.h.home, .int .u64 v.h.w, .int .u32 v.h.l, .int .u32 v.h.n, .slice v.ra v.h.rs.length v.rc, .slice v.wa v.h.ws.length v.wc]] wx fun e w' => ∃ g1 g2, e = .returned (.agg #[.int .u32 v.h.id.1, .int .u32 v.h.id.2, .int .u32 v.h.home, .int .u64 v.h.w, .int .u32 v.h.l, .int .u32 v.h.n, .slice (some ⟨g1, 0, none⟩) v.h.rs.length (v.h.rs.length + 1), .slice (some ⟨g2, 0, none⟩) v.h.ws.length (v.h.ws.length + 1)]) ∧ Room2 wx w' g1 v.h.rs ∧ RoomW wx w' g2 v.h.ws) := copied_is (hv.later hbx)
  clear hbx T hv
  go_enter Try.func6, Try.ntmps6
  go_upto_region 1 with fail
  rw [← hwx]
  clear hwx
  go_wp2_with fail
  refine CO.out.mono ?_
  rintro e w1 ⟨g1, g2, rfl, HR1, HR2⟩
  have HM1 := hid HR1
  have HM2 := hid HR2
  have hb1 := HR2.bl
  replace x0 := cell_later hb1 x0
  replace x1 := cell_later hb1 x1
  replace x2 := cell_later hb1 x2
  replace x3 := cell_later hb1 x3
  replace x4 := cell_later hb1 x4
  replace x5 := cell_later hb1 x5
  replace x6 := cell_later hb1 x6
  replace x7 := cell_later hb1 x7
  replace x8 := cell_later hb1 x8
  replace x9 := cell_later hb1 x9
  replace x10 := cell_later hb1 x10
  replace x11 := cell_later hb1 x11
  have HB1 : Hid (Below w.heap.size w w1) := Below.on HBX.out hb1
  clear CO HR1 HR2 hb1
  obtain ⟨w2, hw2⟩ : ∃ w2, w2 = w1.alloc (.cells #[.int .u32 v.h.id.1, .int .u32 v.h.id.2, .int .u32 v.h.home, .int .u64 v.h.w, .int .u32 v.h.l, .int .u32 v.h.n, .slice (some ⟨g1, 0, none⟩) v.h.rs.length (v.h.rs.length + 1), .slice (some ⟨g2, 0, none⟩) v.h.ws.length (v.h.ws.length + 1)] 36) := ⟨_, rfl⟩
  have hb2 : Below w1.heap.size w1 w2 := by rw [hw2]; exact Below.al (Below.refl _ _) _
  replace x0 := cell_later hb2 x0
  replace x1 := cell_later hb2 x1
  replace x2 := cell_later hb2 x2
  replace x3 := cell_later hb2 x3
  replace x4 := cell_later hb2 x4
  replace x5 := cell_later hb2 x5
  replace x6 := cell_later hb2 x6
  replace x7 := cell_later hb2 x7
  replace x8 := cell_later hb2 x8
  replace x9 := cell_later hb2 x9
  replace x10 := cell_later hb2 x10
  replace x11 := cell_later hb2 x11
  have z0 : w2.cell? ⟨w1.heap.size, 0, none⟩ = some (.int .u32 v.h.id.1) := by rw [hw2]; simp [go_sem]
  have z1 : w2.cell? ⟨w1.heap.size, 1, none⟩ = some (.int .u32 v.h.id.2) := by rw [hw2]; simp [go_sem]
  have z2 : w2.cell? ⟨w1.heap.size, 2, none⟩ = some (.int .u32 v.h.home) := by rw [hw2]; simp [go_sem]
  have z3 : w2.cell? ⟨w1.heap.size, 3, none⟩ = some (.int .u64 v.h.w) := by rw [hw2]; simp [go_sem]
  have z4 : w2.cell? ⟨w1.heap.size, 4, none⟩ = some (.int .u32 v.h.l) := by rw [hw2]; simp [go_sem]
  have z5 : w2.cell? ⟨w1.heap.size, 5, none⟩ = some (.int .u32 v.h.n) := by rw [hw2]; simp [go_sem]
  have z6 : w2.cell? ⟨w1.heap.size, 6, none⟩ = some (.slice (some ⟨g1, 0, none⟩) v.h.rs.length (v.h.rs.length + 1)) := by rw [hw2]; simp [go_sem]
  have z7 : w2.cell? ⟨w1.heap.size, 7, none⟩ = some (.slice (some ⟨g2, 0, none⟩) v.h.ws.length (v.h.ws.length + 1)) := by rw [hw2]; simp [go_sem]
  have H12 := hid hb2
  have HB2 : Hid (Below w.heap.size w w2) := Below.on HB1.out hb2
  clear hb2
  go_upto_region 2 with fail
  rw [← hw2]
  clear hw2
  obtain ⟨u, hu⟩ : ∃ u, hasB (V.map Hv.h) v.h.id = u := ⟨_, rfl⟩
  have HU := hid hu
  have GP : Hid (∀ W, Below w2.heap.size w2 W → Calls Try.prog 18 #[.pointer (some ⟨p, 0, none⟩), .agg #[.int .u32 v.h.id.1, .int .u32 v.h.id.2]] W fun e w' => ∃ x : Hv, e = .returned (.tuple #[.agg #[.int .u32 x.h.id.1, .int .u32 x.h.id.2, .int .u32 x.h.home, .int .u64 x.h.w, .int .u32 x.h.l, .int .u32 x.h.n, .slice x.ra x.h.rs.length x.rc, .slice x.wa x.h.ws.length x.wc], .bool u]) ∧ Hid (gotP (V.map Hv.h) v.h.id u x) ∧ Hid (x.ok w') ∧ Below W.heap.size W w') := fun W hb => (get_is (HT.out.later (Below.on HB2.out hb)).tb v.h.id).mono fun e w' ⟨x, h1, h2, h3, _, h5, h6⟩ => by
    rw [HU.out] at h1 h2 h3
    exact ⟨x, h1, ⟨h2.out, h3.out⟩, h5, h6.out⟩
  have GR : Hid (∀ W, Below w2.heap.size w2 W → Calls Try.prog 19 #[.pointer (some ⟨q, 0, none⟩), .agg #[.int .u32 v.h.id.1, .int .u32 v.h.id.2]] W fun e w' => ∃ x : Hv, e = .returned (.tuple #[.agg #[.int .u32 x.h.id.1, .int .u32 x.h.id.2, .int .u32 x.h.home, .int .u64 x.h.w, .int .u32 x.h.l, .int .u32 x.h.n, .slice x.ra x.h.rs.length x.rc, .slice x.wa x.h.ws.length x.wc], .bool u]) ∧ Hid (gotP (V.map Hv.h) v.h.id u x) ∧ Hid (x.ok w') ∧ Below W.heap.size W w') := fun W hb => (rget_is (i := v.h.id) (HT.out.later (Below.on HB2.out hb)).rt).mono fun e w' ⟨x, h1, h2, h5, h6⟩ => by
    rw [← HT.out.eq, HU.out] at h1 h2
    exact ⟨x, h1, h2, h5, h6.out⟩
  have HEQ : Hid (∀ x y : Hv, gotP (V.map Hv.h) v.h.id u x → gotP (V.map Hv.h) v.h.id u y → x.h = y.h) := fun x y h1 h2 => by
    cases u with
    | true =>
      obtain ⟨a1, a2⟩ := h1.1 rfl
      obtain ⟨b1, b2⟩ := h2.1 rfl
      exact nodup_inj HT.out.tb.ok.ids a1 b1 (a2.trans b2.symm)
    | false => exact (h1.2 rfl).trans (h2.2 rfl).symm
  clear hu
  go_wp2_with fail
  refine (GP.out _ (Below.refl _ _)).mono ?_
  rintro e w3 ⟨x, rfl, hx1, hx2, hb3⟩
  replace z0 := cell_later hb3 z0
  replace z1 := cell_later hb3 z1
  replace z2 := cell_later hb3 z2
  replace z3 := cell_later hb3 z3
  replace z4 := cell_later hb3 z4
  replace z5 := cell_later hb3 z5
  replace z6 := cell_later hb3 z6
  replace z7 := cell_later hb3 z7
  have ha3 : Below w3.heap.size w3 (w3.alloc (.cells #[.int .u32 x.h.id.1, .int .u32 x.h.id.2, .int .u32 x.h.home, .int .u64 x.h.w, .int .u32 x.h.l, .int .u32 x.h.n, .slice x.ra x.h.rs.length x.rc, .slice x.wa x.h.ws.length x.wc] 36)) := Below.al (Below.refl _ _) _
  replace z0 := cell_later ha3 z0
  replace z1 := cell_later ha3 z1
  replace z2 := cell_later ha3 z2
  replace z3 := cell_later ha3 z3
  replace z4 := cell_later ha3 z4
  replace z5 := cell_later ha3 z5
  replace z6 := cell_later ha3 z6
  replace z7 := cell_later ha3 z7
  have a0 : (w3.alloc (.cells #[.int .u32 x.h.id.1, .int .u32 x.h.id.2, .int .u32 x.h.home, .int .u64 x.h.w, .int .u32 x.h.l, .int .u32 x.h.n, .slice x.ra x.h.rs.length x.rc, .slice x.wa x.h.ws.length x.wc] 36)).cell? ⟨w3.heap.size, 0, none⟩ = some (.int .u32 x.h.id.1) := by simp [go_sem]
  have a1 : (w3.alloc (.cells #[.int .u32 x.h.id.1, .int .u32 x.h.id.2, .int .u32 x.h.home, .int .u64 x.h.w, .int .u32 x.h.l, .int .u32 x.h.n, .slice x.ra x.h.rs.length x.rc, .slice x.wa x.h.ws.length x.wc] 36)).cell? ⟨w3.heap.size, 1, none⟩ = some (.int .u32 x.h.id.2) := by simp [go_sem]
  have a2 : (w3.alloc (.cells #[.int .u32 x.h.id.1, .int .u32 x.h.id.2, .int .u32 x.h.home, .int .u64 x.h.w, .int .u32 x.h.l, .int .u32 x.h.n, .slice x.ra x.h.rs.length x.rc, .slice x.wa x.h.ws.length x.wc] 36)).cell? ⟨w3.heap.size, 2, none⟩ = some (.int .u32 x.h.home) := by simp [go_sem]
  have a3 : (w3.alloc (.cells #[.int .u32 x.h.id.1, .int .u32 x.h.id.2, .int .u32 x.h.home, .int .u64 x.h.w, .int .u32 x.h.l, .int .u32 x.h.n, .slice x.ra x.h.rs.length x.rc, .slice x.wa x.h.ws.length x.wc] 36)).cell? ⟨w3.heap.size, 3, none⟩ = some (.int .u64 x.h.w) := by simp [go_sem]
  have a4 : (w3.alloc (.cells #[.int .u32 x.h.id.1, .int .u32 x.h.id.2, .int .u32 x.h.home, .int .u64 x.h.w, .int .u32 x.h.l, .int .u32 x.h.n, .slice x.ra x.h.rs.length x.rc, .slice x.wa x.h.ws.length x.wc] 36)).cell? ⟨w3.heap.size, 4, none⟩ = some (.int .u32 x.h.l) := by simp [go_sem]
  have a5 : (w3.alloc (.cells #[.int .u32 x.h.id.1, .int .u32 x.h.id.2, .int .u32 x.h.home, .int .u64 x.h.w, .int .u32 x.h.l, .int .u32 x.h.n, .slice x.ra x.h.rs.length x.rc, .slice x.wa x.h.ws.length x.wc] 36)).cell? ⟨w3.heap.size, 5, none⟩ = some (.int .u32 x.h.n) := by simp [go_sem]
  have a6 : (w3.alloc (.cells #[.int .u32 x.h.id.1, .int .u32 x.h.id.2, .int .u32 x.h.home, .int .u64 x.h.w, .int .u32 x.h.l, .int .u32 x.h.n, .slice x.ra x.h.rs.length x.rc, .slice x.wa x.h.ws.length x.wc] 36)).cell? ⟨w3.heap.size, 6, none⟩ = some (.slice x.ra x.h.rs.length x.rc) := by simp [go_sem]
  have a7 : (w3.alloc (.cells #[.int .u32 x.h.id.1, .int .u32 x.h.id.2, .int .u32 x.h.home, .int .u64 x.h.w, .int .u32 x.h.l, .int .u32 x.h.n, .slice x.ra x.h.rs.length x.rc, .slice x.wa x.h.ws.length x.wc] 36)).cell? ⟨w3.heap.size, 7, none⟩ = some (.slice x.wa x.h.ws.length x.wc) := by simp [go_sem]
  have HB3 : Hid (Below w2.heap.size w2 (w3.alloc (.cells #[.int .u32 x.h.id.1, .int .u32 x.h.id.2, .int .u32 x.h.home, .int .u64 x.h.w, .int .u32 x.h.l, .int .u32 x.h.n, .slice x.ra x.h.rs.length x.rc, .slice x.wa x.h.ws.length x.wc] 36))) := Below.on hb3 ha3
  have HA3 := hid ha3
  clear hb3 ha3
  go_wp2_with fail
  refine (GR.out _ HB3.out).mono ?_
  rintro e w4 ⟨y, rfl, hy1, hy2, hb4⟩
  have ha4 : Below w4.heap.size w4 (w4.alloc (.cells #[.int .u32 y.h.id.1, .int .u32 y.h.id.2, .int .u32 y.h.home, .int .u64 y.h.w, .int .u32 y.h.l, .int .u32 y.h.n, .slice y.ra y.h.rs.length y.rc, .slice y.wa y.h.ws.length y.wc] 36)) := Below.al (Below.refl _ _) _
  replace a0 := cell_later ha4 (cell_later hb4 a0)
  replace a1 := cell_later ha4 (cell_later hb4 a1)
  replace a2 := cell_later ha4 (cell_later hb4 a2)
  replace a3 := cell_later ha4 (cell_later hb4 a3)
  replace a4 := cell_later ha4 (cell_later hb4 a4)
  replace a5 := cell_later ha4 (cell_later hb4 a5)
  replace a6 := cell_later ha4 (cell_later hb4 a6)
  replace a7 := cell_later ha4 (cell_later hb4 a7)
  have b0 : (w4.alloc (.cells #[.int .u32 y.h.id.1, .int .u32 y.h.id.2, .int .u32 y.h.home, .int .u64 y.h.w, .int .u32 y.h.l, .int .u32 y.h.n, .slice y.ra y.h.rs.length y.rc, .slice y.wa y.h.ws.length y.wc] 36)).cell? ⟨w4.heap.size, 0, none⟩ = some (.int .u32 y.h.id.1) := by simp [go_sem]
  have b1 : (w4.alloc (.cells #[.int .u32 y.h.id.1, .int .u32 y.h.id.2, .int .u32 y.h.home, .int .u64 y.h.w, .int .u32 y.h.l, .int .u32 y.h.n, .slice y.ra y.h.rs.length y.rc, .slice y.wa y.h.ws.length y.wc] 36)).cell? ⟨w4.heap.size, 1, none⟩ = some (.int .u32 y.h.id.2) := by simp [go_sem]
  have b2 : (w4.alloc (.cells #[.int .u32 y.h.id.1, .int .u32 y.h.id.2, .int .u32 y.h.home, .int .u64 y.h.w, .int .u32 y.h.l, .int .u32 y.h.n, .slice y.ra y.h.rs.length y.rc, .slice y.wa y.h.ws.length y.wc] 36)).cell? ⟨w4.heap.size, 2, none⟩ = some (.int .u32 y.h.home) := by simp [go_sem]
  have b3 : (w4.alloc (.cells #[.int .u32 y.h.id.1, .int .u32 y.h.id.2, .int .u32 y.h.home, .int .u64 y.h.w, .int .u32 y.h.l, .int .u32 y.h.n, .slice y.ra y.h.rs.length y.rc, .slice y.wa y.h.ws.length y.wc] 36)).cell? ⟨w4.heap.size, 3, none⟩ = some (.int .u64 y.h.w) := by simp [go_sem]
  have b4 : (w4.alloc (.cells #[.int .u32 y.h.id.1, .int .u32 y.h.id.2, .int .u32 y.h.home, .int .u64 y.h.w, .int .u32 y.h.l, .int .u32 y.h.n, .slice y.ra y.h.rs.length y.rc, .slice y.wa y.h.ws.length y.wc] 36)).cell? ⟨w4.heap.size, 4, none⟩ = some (.int .u32 y.h.l) := by simp [go_sem]
  have b5 : (w4.alloc (.cells #[.int .u32 y.h.id.1, .int .u32 y.h.id.2, .int .u32 y.h.home, .int .u64 y.h.w, .int .u32 y.h.l, .int .u32 y.h.n, .slice y.ra y.h.rs.length y.rc, .slice y.wa y.h.ws.length y.wc] 36)).cell? ⟨w4.heap.size, 5, none⟩ = some (.int .u32 y.h.n) := by simp [go_sem]
  have b6 : (w4.alloc (.cells #[.int .u32 y.h.id.1, .int .u32 y.h.id.2, .int .u32 y.h.home, .int .u64 y.h.w, .int .u32 y.h.l, .int .u32 y.h.n, .slice y.ra y.h.rs.length y.rc, .slice y.wa y.h.ws.length y.wc] 36)).cell? ⟨w4.heap.size, 6, none⟩ = some (.slice y.ra y.h.rs.length y.rc) := by simp [go_sem]
  have b7 : (w4.alloc (.cells #[.int .u32 y.h.id.1, .int .u32 y.h.id.2, .int .u32 y.h.home, .int .u64 y.h.w, .int .u32 y.h.l, .int .u32 y.h.n, .slice y.ra y.h.rs.length y.rc, .slice y.wa y.h.ws.length y.wc] 36)).cell? ⟨w4.heap.size, 7, none⟩ = some (.slice y.wa y.h.ws.length y.wc) := by simp [go_sem]
  have hbz : Below w3.heap.size w3 (w4.alloc (.cells #[.int .u32 y.h.id.1, .int .u32 y.h.id.2, .int .u32 y.h.home, .int .u64 y.h.w, .int .u32 y.h.l, .int .u32 y.h.n, .slice y.ra y.h.rs.length y.rc, .slice y.wa y.h.ws.length y.wc] 36)) := Below.on (Below.on HA3.out hb4) ha4
  have SM : Hid (∀ W, Below (w4.alloc (.cells #[.int .u32 y.h.id.1, .int .u32 y.h.id.2, .int .u32 y.h.home, .int .u64 y.h.w, .int .u32 y.h.l, .int .u32 y.h.n, .slice y.ra y.h.rs.length y.rc, .slice y.wa y.h.ws.length y.wc] 36)).heap.size (w4.alloc (.cells #[.int .u32 y.h.id.1, .int .u32 y.h.id.2, .int .u32 y.h.home, .int .u64 y.h.w, .int .u32 y.h.l, .int .u32 y.h.n, .slice y.ra y.h.rs.length y.rc, .slice y.wa y.h.ws.length y.wc] 36)) W → Calls Try.prog 20 #[.agg #[.int .u32 x.h.id.1, .int .u32 x.h.id.2, .int .u32 x.h.home, .int .u64 x.h.w, .int .u32 x.h.l, .int .u32 x.h.n, .slice x.ra x.h.rs.length x.rc, .slice x.wa x.h.ws.length x.wc], .agg #[.int .u32 y.h.id.1, .int .u32 y.h.id.2, .int .u32 y.h.home, .int .u64 y.h.w, .int .u32 y.h.l, .int .u32 y.h.n, .slice y.ra y.h.rs.length y.rc, .slice y.wa y.h.ws.length y.wc]] W fun e w' => e = .returned (.bool true) ∧ Below W.heap.size W w') := fun W hb => same_is (x := x) (y := y) (u := true) (by simp [HEQ.out x y hx1.out hy1.out]) (hx2.out.later (Below.on hbz hb)) (hy2.out.later (Below.on ha4 hb))
  have HB4 : Hid (Below w.heap.size w (w4.alloc (.cells #[.int .u32 y.h.id.1, .int .u32 y.h.id.2, .int .u32 y.h.home, .int .u64 y.h.w, .int .u32 y.h.l, .int .u32 y.h.n, .slice y.ra y.h.rs.length y.rc, .slice y.wa y.h.ws.length y.wc] 36))) := Below.on HB2.out (Below.on (Below.on HB3.out hb4) ha4)
  clear hb4 ha4 hbz z0 z1 z2 z3 z4 z5 z6 z7 x0 x1 x2 x3 x4 x5 x6 x7 x8 x9 x10 x11
  cases u with
  | true =>
    go_wp2_with fail
    refine (SM.out _ (Below.refl _ _)).mono ?_
    rintro e w5 ⟨rfl, hb5⟩
    have HB5 : Hid (Below w.heap.size w w5) := Below.on HB4.out hb5
    clear hb5
    go_wp2_with fail
    go_ret
    exact ⟨rfl, HB5.out⟩
  | false =>
    go_wp2_with fail
    refine (SM.out _ (Below.refl _ _)).mono ?_
    rintro e w5 ⟨rfl, hb5⟩
    have HB5 : Hid (Below w.heap.size w w5) := Below.on HB4.out hb5
    clear hb5
    go_wp2_with fail
    go_ret
    exact ⟨rfl, HB5.out⟩
end Go.Proofs.Ytbgmbbmnnfmbpab.Lk
/- The law's does: Release. -/
namespace Go.Proofs.Ytbgmbbmnnfmbpab.Lk
open Go.RowKit Go.Sort
set_option linter.unusedVariables false
theorem onl_wide {F G : Nat → Prop} {w w' : World} (h : Onl F w w') (hs : ∀ b, F b → G b) : Onl G w w' := { h with block := fun b hb hn => h.block b hb (fun k => hn (hs b k)) }
theorem its_lt {w : World} {p : Nat} {m1 m2 : Option Nat} {V : List Hv} {I : It} (T : Tb w p m1 m2 V I) {b : Nat} (h : Its p m1 m2 b) : b < w.heap.size := by
  rcases h with rfl | h | h
  · exact T.lt
  · exact T.held.lt b h
  · exact T.ints.lt b h

set_option maxRecDepth 8000 in
set_option maxHeartbeats 4000000 in
theorem does_release {B p q n c : Nat} {m1 m2 : Option Nat} {w : World} {a : Option Addr} {V R : List Hv} {I : It} {v : Hv} {s : T2} {on : Int} (T : Both B w p m1 m2 V I q a n c R) (hv : v.ok w) (hB : B ≤ w.heap.size) (hn : n ≤ 1759218604441) :
    Calls Try.prog 6 #[.pointer (some ⟨p, 0, none⟩), .pointer (some ⟨q, 0, none⟩), .agg #[.int .i64 2, .int .i64 on, .int .u32 v.h.id.1, .int .u32 v.h.id.2, .int .u32 v.h.home, .int .u64 v.h.w, .int .u32 v.h.l, .int .u32 v.h.n, .slice v.ra v.h.rs.length v.rc, .slice v.wa v.h.ws.length v.wc, .string s.1, .string s.2]] w fun e w' => e = .returned (.bool true) ∧ ∃ V' I' a' n' c' R', Hid (Both B w' p m1 m2 V' I' q a' n' c' R' ∧ V'.map Hv.h = dropM (V.map Hv.h) v.h.id ∧ Onl (fun b => Its p m1 m2 b ∨ RIt q a n c b) w w' ∧ ∀ b, RIt q a' n' c' b → RIt q a n c b ∨ w.heap.size ≤ b) := by
  obtain ⟨wx, hwx⟩ : ∃ wx, wx = w.alloc (.cells #[.int .i64 2, .int .i64 on, .int .u32 v.h.id.1, .int .u32 v.h.id.2, .int .u32 v.h.home, .int .u64 v.h.w, .int .u32 v.h.l, .int .u32 v.h.n, .slice v.ra v.h.rs.length v.rc, .slice v.wa v.h.ws.length v.wc, .string s.1, .string s.2] 40) := ⟨_, rfl⟩
  have hbx : Below w.heap.size w wx := by rw [hwx]; exact Below.al (Below.refl _ _) _
  have x0 : wx.cell? ⟨w.heap.size, 0, none⟩ = some (.int .i64 2) := by rw [hwx]; simp [go_sem]
  have x1 : wx.cell? ⟨w.heap.size, 1, none⟩ = some (.int .i64 on) := by rw [hwx]; simp [go_sem]
  have x2 : wx.cell? ⟨w.heap.size, 2, none⟩ = some (.int .u32 v.h.id.1) := by rw [hwx]; simp [go_sem]
  have x3 : wx.cell? ⟨w.heap.size, 3, none⟩ = some (.int .u32 v.h.id.2) := by rw [hwx]; simp [go_sem]
  have x4 : wx.cell? ⟨w.heap.size, 4, none⟩ = some (.int .u32 v.h.home) := by rw [hwx]; simp [go_sem]
  have x5 : wx.cell? ⟨w.heap.size, 5, none⟩ = some (.int .u64 v.h.w) := by rw [hwx]; simp [go_sem]
  have x6 : wx.cell? ⟨w.heap.size, 6, none⟩ = some (.int .u32 v.h.l) := by rw [hwx]; simp [go_sem]
  have x7 : wx.cell? ⟨w.heap.size, 7, none⟩ = some (.int .u32 v.h.n) := by rw [hwx]; simp [go_sem]
  have x8 : wx.cell? ⟨w.heap.size, 8, none⟩ = some (.slice v.ra v.h.rs.length v.rc) := by rw [hwx]; simp [go_sem]
  have x9 : wx.cell? ⟨w.heap.size, 9, none⟩ = some (.slice v.wa v.h.ws.length v.wc) := by rw [hwx]; simp [go_sem]
  have x10 : wx.cell? ⟨w.heap.size, 10, none⟩ = some (.string s.1) := by rw [hwx]; simp [go_sem]
  have x11 : wx.cell? ⟨w.heap.size, 11, none⟩ = some (.string s.2) := by rw [hwx]; simp [go_sem]
  have HBX := hid hbx
  have HT := hid T
  have HV := hid hv
  have CO : Hid (Calls Try.prog 10 #[.agg #[.int .u32 v.h.id.1, .int .u32 v.h.id.2, .int .u32 v.h.home, .int .u64 v.h.w, .int .u32 v.h.l, .int .u32 v.h.n, .slice v.ra v.h.rs.length v.rc, .slice v.wa v.h.ws.length v.wc]] wx fun e w' => ∃ g1 g2, e = .returned (.agg #[.int .u32 v.h.id.1, .int .u32 v.h.id.2, .int .u32 v.h.home, .int .u64 v.h.w, .int .u32 v.h.l, .int .u32 v.h.n, .slice (some ⟨g1, 0, none⟩) v.h.rs.length (v.h.rs.length + 1), .slice (some ⟨g2, 0, none⟩) v.h.ws.length (v.h.ws.length + 1)]) ∧ Room2 wx w' g1 v.h.rs ∧ RoomW wx w' g2 v.h.ws) := copied_is (hv.later hbx)
  clear hbx T hv
  go_enter Try.func6, Try.ntmps6
  go_upto_region 1 with fail
  rw [← hwx]
  clear hwx
  go_wp2_with fail
  refine CO.out.mono ?_
  rintro e w1 ⟨g1, g2, rfl, HR1, HR2⟩
  have HM1 := hid HR1
  have HM2 := hid HR2
  have hb1 := HR2.bl
  replace x0 := cell_later hb1 x0
  replace x1 := cell_later hb1 x1
  replace x2 := cell_later hb1 x2
  replace x3 := cell_later hb1 x3
  replace x4 := cell_later hb1 x4
  replace x5 := cell_later hb1 x5
  replace x6 := cell_later hb1 x6
  replace x7 := cell_later hb1 x7
  replace x8 := cell_later hb1 x8
  replace x9 := cell_later hb1 x9
  replace x10 := cell_later hb1 x10
  replace x11 := cell_later hb1 x11
  have HB1 : Hid (Below w.heap.size w w1) := Below.on HBX.out hb1
  clear CO HR1 HR2 hb1
  obtain ⟨w2, hw2⟩ : ∃ w2, w2 = w1.alloc (.cells #[.int .u32 v.h.id.1, .int .u32 v.h.id.2, .int .u32 v.h.home, .int .u64 v.h.w, .int .u32 v.h.l, .int .u32 v.h.n, .slice (some ⟨g1, 0, none⟩) v.h.rs.length (v.h.rs.length + 1), .slice (some ⟨g2, 0, none⟩) v.h.ws.length (v.h.ws.length + 1)] 36) := ⟨_, rfl⟩
  have hb2 : Below w1.heap.size w1 w2 := by rw [hw2]; exact Below.al (Below.refl _ _) _
  replace x0 := cell_later hb2 x0
  replace x1 := cell_later hb2 x1
  replace x2 := cell_later hb2 x2
  replace x3 := cell_later hb2 x3
  replace x4 := cell_later hb2 x4
  replace x5 := cell_later hb2 x5
  replace x6 := cell_later hb2 x6
  replace x7 := cell_later hb2 x7
  replace x8 := cell_later hb2 x8
  replace x9 := cell_later hb2 x9
  replace x10 := cell_later hb2 x10
  replace x11 := cell_later hb2 x11
  have z0 : w2.cell? ⟨w1.heap.size, 0, none⟩ = some (.int .u32 v.h.id.1) := by rw [hw2]; simp [go_sem]
  have z1 : w2.cell? ⟨w1.heap.size, 1, none⟩ = some (.int .u32 v.h.id.2) := by rw [hw2]; simp [go_sem]
  have z2 : w2.cell? ⟨w1.heap.size, 2, none⟩ = some (.int .u32 v.h.home) := by rw [hw2]; simp [go_sem]
  have z3 : w2.cell? ⟨w1.heap.size, 3, none⟩ = some (.int .u64 v.h.w) := by rw [hw2]; simp [go_sem]
  have z4 : w2.cell? ⟨w1.heap.size, 4, none⟩ = some (.int .u32 v.h.l) := by rw [hw2]; simp [go_sem]
  have z5 : w2.cell? ⟨w1.heap.size, 5, none⟩ = some (.int .u32 v.h.n) := by rw [hw2]; simp [go_sem]
  have z6 : w2.cell? ⟨w1.heap.size, 6, none⟩ = some (.slice (some ⟨g1, 0, none⟩) v.h.rs.length (v.h.rs.length + 1)) := by rw [hw2]; simp [go_sem]
  have z7 : w2.cell? ⟨w1.heap.size, 7, none⟩ = some (.slice (some ⟨g2, 0, none⟩) v.h.ws.length (v.h.ws.length + 1)) := by rw [hw2]; simp [go_sem]
  have H12 := hid hb2
  have HB2 : Hid (Below w.heap.size w w2) := Below.on HB1.out hb2
  clear hb2
  go_upto_region 2 with fail
  rw [← hw2]
  clear hw2
  obtain ⟨u, hu⟩ : ∃ u, hasB (V.map Hv.h) v.h.id = u := ⟨_, rfl⟩
  have T2 := hid (HT.out.later HB2.out)
  have RP : Hid (Calls Try.prog 14 #[.pointer (some ⟨p, 0, none⟩), .agg #[.int .u32 v.h.id.1, .int .u32 v.h.id.2]] w2 fun e w' => e = .returned (.bool u) ∧ ∃ V' I', Tb w' p m1 m2 V' I' ∧ V'.map Hv.h = dropM (V.map Hv.h) v.h.id ∧ Onl (Its p m1 m2) w2 w' ∧ ∀ x ∈ V', x ∈ V) := by
    rw [← hu]; exact release_is T2.out.tb v.h.id
  have HU := hid hu
  have HBB := hid hB
  have hz : ¬ Its p m1 m2 w1.heap.size := fun h => by
    have h1 := its_lt HT.out.tb h
    have h2 := HB1.out.size
    omega
  clear hu hB
  go_wp2_with fail
  refine RP.out.mono ?_
  rintro e w3 ⟨rfl, V', I', hT3, hE3, ho3, hs3⟩
  have z0 := ho3.cell hz z0
  have z1 := ho3.cell hz z1
  have HR3 := hid (T2.out.rt.prog T2.out.tb ho3)
  have HY3 : Hid (∀ x ∈ V', x.typ w3) := fun x hx => (T2.out.ty x (hs3 x hx)).onl ho3 T2.out.tb.foreign
  have HT3 := hid hT3
  have HE3 := hid hE3
  have HO3 := hid ho3
  have RR : Hid (Calls Try.prog 15 #[.pointer (some ⟨q, 0, none⟩), .agg #[.int .u32 v.h.id.1, .int .u32 v.h.id.2]] w3 fun e w' => e = .returned (.bool u) ∧ ∃ a' n' c' R', Hid (RT B w' q a' n' c' R' ∧ R'.map Hv.h = dropM (R.map Hv.h) v.h.id ∧ Onl (RIt q a n c) w3 w' ∧ ∀ b, RIt q a' n' c' b → RIt q a n c b ∨ w3.heap.size ≤ b)) := by
    have h := rrel_is (i := v.h.id) HR3.out (Nat.le_trans HBB.out (Nat.le_trans HB2.out.size ho3.size)) hn (by rw [← HT.out.eq]; exact HT.out.tb.ok.ids)
    rw [← HT.out.eq, HU.out, HT.out.eq] at h
    exact h
  clear RP hT3 hE3 ho3 hs3
  go_wp2_with fail
  refine RR.out.mono ?_
  rintro e w4 ⟨rfl, a', n', c', R', h4⟩
  have HF : Hid (Both B w4 p m1 m2 V' I' q a' n' c' R' ∧ V'.map Hv.h = dropM (V.map Hv.h) v.h.id ∧ Onl (fun b => Its p m1 m2 b ∨ RIt q a n c b) w w4 ∧ ∀ b, RIt q a' n' c' b → RIt q a n c b ∨ w.heap.size ≤ b) := by
    obtain ⟨h41, h42, h43, h44⟩ := h4.out
    have hTB := HT3.out.ref HY3.out HR3.out h43
    refine ⟨⟨hTB, h41, by rw [HE3.out, h42, HT.out.eq], fun x hx => (HY3.out x hx).onl h43 HR3.out.foreign, fun b h k => h41.apart hTB k h⟩, HE3.out, ?_, fun b hb => ?_⟩
    · exact ((Onl.of_below HB2.out).trans (onl_wide HO3.out fun b h => .inl h)).trans (onl_wide h43 fun b h => .inr h)
    · rcases h44 b hb with h | h
      · exact .inl h
      · exact .inr (Nat.le_trans (Nat.le_trans HB2.out.size HO3.out.size) h)
  clear RR h4
  cases u with
  | true =>
    go_wp2_with fail
    go_ret
    exact ⟨rfl, _, _, _, _, _, _, HF⟩
  | false =>
    go_wp2_with fail
    go_ret
    exact ⟨rfl, _, _, _, _, _, _, HF⟩
end Go.Proofs.Ytbgmbbmnnfmbpab.Lk
/- The law's does: Hold. -/
namespace Go.Proofs.Ytbgmbbmnnfmbpab.Lk
open Go.RowKit Go.Sort
set_option linter.unusedVariables false
theorem rm_ok {w0 w1 : World} {v : Hv} {g1 g2 : Nat} (hv : v.ok w0) (h1 : Rm2 w1 g1 v.h.rs) (h2 : RmW w1 g2 v.h.ws) : (v.roomy g1 g2).ok w1 := by
  obtain ⟨f1, a1, b1, _⟩ := h1
  obtain ⟨f2, a2, b2, _⟩ := h2
  refine ⟨fun i hi => ?_, fun i hi => ?_, hv.rl, hv.wl⟩
  · have hi' : i < v.h.rs.length := hi
    have h := a1 i (by omega)
    rw [b1 i hi'] at h
    refine ⟨g1, 0, rfl, ?_, ?_⟩
    · rw [Nat.zero_add]; exact h.1
    · rw [Nat.zero_add]; exact h.2
  · have hi' : i < v.h.ws.length := hi
    have h := a2 i (by omega)
    rw [b2 i hi'] at h
    refine ⟨g2, 0, rfl, ?_, ?_, ?_⟩
    · rw [Nat.zero_add]; exact h.1
    · rw [Nat.zero_add]; exact h.2.1
    · rw [Nat.zero_add]; exact h.2.2

set_option maxRecDepth 8000 in
set_option maxHeartbeats 4000000 in
theorem does_hold {B p q n c : Nat} {m1 m2 : Option Nat} {w : World} {a : Option Addr} {V R : List Hv} {I : It} {v : Hv} {s : T2} {on : Int} (T : Both B w p m1 m2 V I q a n c R) (hv : v.ok w) (hB : B ≤ w.heap.size) (hn : n + 1 ≤ 1759218604441) (hvk : ∀ w' w'', Onl (RIt q a n c) w' w'' → v.ok w' → v.ok w'') :
    Calls Try.prog 6 #[.pointer (some ⟨p, 0, none⟩), .pointer (some ⟨q, 0, none⟩), .agg #[.int .i64 1, .int .i64 on, .int .u32 v.h.id.1, .int .u32 v.h.id.2, .int .u32 v.h.home, .int .u64 v.h.w, .int .u32 v.h.l, .int .u32 v.h.n, .slice v.ra v.h.rs.length v.rc, .slice v.wa v.h.ws.length v.wc, .string s.1, .string s.2]] w fun e w' => e = .returned (.bool true) ∧ ∃ m1' m2' V' I' a' n' c' R', Hid (Both B w' p m1' m2' V' I' q a' n' c' R' ∧ V'.map Hv.h = holdM (V.map Hv.h) v.h ∧ Onl (fun b => Its p m1 m2 b ∨ RIt q a n c b) w w' ∧ (∀ b, Its p m1' m2' b → Its p m1 m2 b ∨ w.heap.size ≤ b) ∧ ∀ b, RIt q a' n' c' b → RIt q a n c b ∨ w.heap.size ≤ b) := by
  obtain ⟨wx, hwx⟩ : ∃ wx, wx = w.alloc (.cells #[.int .i64 1, .int .i64 on, .int .u32 v.h.id.1, .int .u32 v.h.id.2, .int .u32 v.h.home, .int .u64 v.h.w, .int .u32 v.h.l, .int .u32 v.h.n, .slice v.ra v.h.rs.length v.rc, .slice v.wa v.h.ws.length v.wc, .string s.1, .string s.2] 40) := ⟨_, rfl⟩
  have hbx : Below w.heap.size w wx := by rw [hwx]; exact Below.al (Below.refl _ _) _
  have x0 : wx.cell? ⟨w.heap.size, 0, none⟩ = some (.int .i64 1) := by rw [hwx]; simp [go_sem]
  have x1 : wx.cell? ⟨w.heap.size, 1, none⟩ = some (.int .i64 on) := by rw [hwx]; simp [go_sem]
  have x2 : wx.cell? ⟨w.heap.size, 2, none⟩ = some (.int .u32 v.h.id.1) := by rw [hwx]; simp [go_sem]
  have x3 : wx.cell? ⟨w.heap.size, 3, none⟩ = some (.int .u32 v.h.id.2) := by rw [hwx]; simp [go_sem]
  have x4 : wx.cell? ⟨w.heap.size, 4, none⟩ = some (.int .u32 v.h.home) := by rw [hwx]; simp [go_sem]
  have x5 : wx.cell? ⟨w.heap.size, 5, none⟩ = some (.int .u64 v.h.w) := by rw [hwx]; simp [go_sem]
  have x6 : wx.cell? ⟨w.heap.size, 6, none⟩ = some (.int .u32 v.h.l) := by rw [hwx]; simp [go_sem]
  have x7 : wx.cell? ⟨w.heap.size, 7, none⟩ = some (.int .u32 v.h.n) := by rw [hwx]; simp [go_sem]
  have x8 : wx.cell? ⟨w.heap.size, 8, none⟩ = some (.slice v.ra v.h.rs.length v.rc) := by rw [hwx]; simp [go_sem]
  have x9 : wx.cell? ⟨w.heap.size, 9, none⟩ = some (.slice v.wa v.h.ws.length v.wc) := by rw [hwx]; simp [go_sem]
  have x10 : wx.cell? ⟨w.heap.size, 10, none⟩ = some (.string s.1) := by rw [hwx]; simp [go_sem]
  have x11 : wx.cell? ⟨w.heap.size, 11, none⟩ = some (.string s.2) := by rw [hwx]; simp [go_sem]
  have HBX := hid hbx
  have HT := hid T
  have HV := hid hv
  have CO : Hid (Calls Try.prog 10 #[.agg #[.int .u32 v.h.id.1, .int .u32 v.h.id.2, .int .u32 v.h.home, .int .u64 v.h.w, .int .u32 v.h.l, .int .u32 v.h.n, .slice v.ra v.h.rs.length v.rc, .slice v.wa v.h.ws.length v.wc]] wx fun e w' => ∃ g1 g2, e = .returned (.agg #[.int .u32 v.h.id.1, .int .u32 v.h.id.2, .int .u32 v.h.home, .int .u64 v.h.w, .int .u32 v.h.l, .int .u32 v.h.n, .slice (some ⟨g1, 0, none⟩) v.h.rs.length (v.h.rs.length + 1), .slice (some ⟨g2, 0, none⟩) v.h.ws.length (v.h.ws.length + 1)]) ∧ Room2 wx w' g1 v.h.rs ∧ RoomW wx w' g2 v.h.ws) := copied_is (hv.later hbx)
  clear hbx T hv
  go_enter Try.func6, Try.ntmps6
  go_upto_region 1 with fail
  rw [← hwx]
  clear hwx
  go_wp2_with fail
  refine CO.out.mono ?_
  rintro e w1 ⟨g1, g2, rfl, HR1, HR2⟩
  have HM1 := hid HR1
  have HM2 := hid HR2
  have hb1 := HR2.bl
  replace x0 := cell_later hb1 x0
  replace x1 := cell_later hb1 x1
  replace x2 := cell_later hb1 x2
  replace x3 := cell_later hb1 x3
  replace x4 := cell_later hb1 x4
  replace x5 := cell_later hb1 x5
  replace x6 := cell_later hb1 x6
  replace x7 := cell_later hb1 x7
  replace x8 := cell_later hb1 x8
  replace x9 := cell_later hb1 x9
  replace x10 := cell_later hb1 x10
  replace x11 := cell_later hb1 x11
  have HB1 : Hid (Below w.heap.size w w1) := Below.on HBX.out hb1
  clear CO HR1 HR2 hb1
  obtain ⟨w2, hw2⟩ : ∃ w2, w2 = w1.alloc (.cells #[.int .u32 v.h.id.1, .int .u32 v.h.id.2, .int .u32 v.h.home, .int .u64 v.h.w, .int .u32 v.h.l, .int .u32 v.h.n, .slice (some ⟨g1, 0, none⟩) v.h.rs.length (v.h.rs.length + 1), .slice (some ⟨g2, 0, none⟩) v.h.ws.length (v.h.ws.length + 1)] 36) := ⟨_, rfl⟩
  have hb2 : Below w1.heap.size w1 w2 := by rw [hw2]; exact Below.al (Below.refl _ _) _
  replace x0 := cell_later hb2 x0
  replace x1 := cell_later hb2 x1
  replace x2 := cell_later hb2 x2
  replace x3 := cell_later hb2 x3
  replace x4 := cell_later hb2 x4
  replace x5 := cell_later hb2 x5
  replace x6 := cell_later hb2 x6
  replace x7 := cell_later hb2 x7
  replace x8 := cell_later hb2 x8
  replace x9 := cell_later hb2 x9
  replace x10 := cell_later hb2 x10
  replace x11 := cell_later hb2 x11
  have z0 : w2.cell? ⟨w1.heap.size, 0, none⟩ = some (.int .u32 v.h.id.1) := by rw [hw2]; simp [go_sem]
  have z1 : w2.cell? ⟨w1.heap.size, 1, none⟩ = some (.int .u32 v.h.id.2) := by rw [hw2]; simp [go_sem]
  have z2 : w2.cell? ⟨w1.heap.size, 2, none⟩ = some (.int .u32 v.h.home) := by rw [hw2]; simp [go_sem]
  have z3 : w2.cell? ⟨w1.heap.size, 3, none⟩ = some (.int .u64 v.h.w) := by rw [hw2]; simp [go_sem]
  have z4 : w2.cell? ⟨w1.heap.size, 4, none⟩ = some (.int .u32 v.h.l) := by rw [hw2]; simp [go_sem]
  have z5 : w2.cell? ⟨w1.heap.size, 5, none⟩ = some (.int .u32 v.h.n) := by rw [hw2]; simp [go_sem]
  have z6 : w2.cell? ⟨w1.heap.size, 6, none⟩ = some (.slice (some ⟨g1, 0, none⟩) v.h.rs.length (v.h.rs.length + 1)) := by rw [hw2]; simp [go_sem]
  have z7 : w2.cell? ⟨w1.heap.size, 7, none⟩ = some (.slice (some ⟨g2, 0, none⟩) v.h.ws.length (v.h.ws.length + 1)) := by rw [hw2]; simp [go_sem]
  have H12 := hid hb2
  have HB2 : Hid (Below w.heap.size w w2) := Below.on HB1.out hb2
  clear hb2
  go_upto_region 2 with fail
  rw [← hw2]
  clear hw2
  obtain ⟨C, hC⟩ : ∃ C, holdC (V.map Hv.h) v.h = C := ⟨_, rfl⟩
  have T2 := hid (HT.out.later HB2.out)
  have HRO : Hid ((v.roomy g1 g2).ok w2) := (roomy_ok HV.out HM1.out HM2.out).later H12.out
  have RP := hid (hold_is T2.out.tb HRO.out)
  simp only [Hv.val, Hv.roomy] at RP
  rw [hC] at RP
  have HC := hid hC
  have HBB := hid hB
  have HVK := hid hvk
  have no : ∀ g, w.heap.size ≤ g → ¬ Its p m1 m2 g ∧ ¬ RIt q a n c g := fun g hg => ⟨fun h => by
    have h1 := its_lt HT.out.tb h
    omega, fun h => by
    have h1 := HT.out.rt.its_lt h
    omega⟩
  have NG1 : Hid (w.heap.size ≤ g1) := Nat.le_trans HBX.out.size HM1.out.low
  have NG2 : Hid (w.heap.size ≤ g2) := Nat.le_trans HBX.out.size HM2.out.low
  have N0 := hid (no w.heap.size (Nat.le_refl _))
  have N1 := hid (no w1.heap.size HB1.out.size)
  have NO := hid no
  clear hC hB hvk no
  go_wp2_with fail
  refine RP.out.mono ?_
  rintro e w3 ⟨rfl, m1', m2', V', I', hT3, hE3, ho3, hi3, hs3⟩
  replace x0 := ho3.cell N0.out.1 x0
  replace x1 := ho3.cell N0.out.1 x1
  replace x2 := ho3.cell N0.out.1 x2
  replace x3 := ho3.cell N0.out.1 x3
  replace x4 := ho3.cell N0.out.1 x4
  replace x5 := ho3.cell N0.out.1 x5
  replace x6 := ho3.cell N0.out.1 x6
  replace x7 := ho3.cell N0.out.1 x7
  replace x8 := ho3.cell N0.out.1 x8
  replace x9 := ho3.cell N0.out.1 x9
  replace x10 := ho3.cell N0.out.1 x10
  replace x11 := ho3.cell N0.out.1 x11
  replace z0 := ho3.cell N1.out.1 z0
  replace z1 := ho3.cell N1.out.1 z1
  replace z2 := ho3.cell N1.out.1 z2
  replace z3 := ho3.cell N1.out.1 z3
  replace z4 := ho3.cell N1.out.1 z4
  replace z5 := ho3.cell N1.out.1 z5
  replace z6 := ho3.cell N1.out.1 z6
  replace z7 := ho3.cell N1.out.1 z7
  have HR3 := hid (T2.out.rt.prog T2.out.tb ho3)
  have HY3 : Hid (∀ x ∈ V', x.typ w3) := fun x hx => by
    rcases hs3 x hx with h | h
    · exact (T2.out.ty x h).onl ho3 T2.out.tb.foreign
    · exact h.typ
  have HV3 : Hid (v.ok w3) := (HV.out.later HB2.out).onl ho3 (fun b hb => T2.out.tb.bare hb)
  have HT3 := hid hT3
  have HE3 := hid hE3
  have HO3 := hid ho3
  have HI3 := hid hi3
  have RR : Hid (Calls Try.prog 12 #[.pointer (some ⟨q, 0, none⟩), .agg #[.int .u32 v.h.id.1, .int .u32 v.h.id.2, .int .u32 v.h.home, .int .u64 v.h.w, .int .u32 v.h.l, .int .u32 v.h.n, .slice v.ra v.h.rs.length v.rc, .slice v.wa v.h.ws.length v.wc]] w3 fun e w' => e = .returned (.int .i64 C) ∧ ∃ a' n' c' R', Hid (RT B w' q a' n' c' R' ∧ R'.map Hv.h = holdM (R.map Hv.h) v.h ∧ Onl (RIt q a n c) w3 w' ∧ ∀ b, RIt q a' n' c' b → RIt q a n c b ∨ w3.heap.size ≤ b)) := by
    have h := rhold_is HR3.out HV3.out (Nat.le_trans HBB.out (Nat.le_trans HB2.out.size ho3.size)) hn
    rw [← HT.out.eq, HC.out, HT.out.eq] at h
    exact h
  clear RP hT3 hE3 ho3 hs3 hi3
  go_wp2_with fail
  refine RR.out.mono ?_
  rintro e w4 ⟨rfl, a', n', c', R', h4⟩
  have ho4 := h4.out.2.2.1
  replace x0 := ho4.cell N0.out.2 x0
  replace x1 := ho4.cell N0.out.2 x1
  replace x2 := ho4.cell N0.out.2 x2
  replace x3 := ho4.cell N0.out.2 x3
  replace x4 := ho4.cell N0.out.2 x4
  replace x5 := ho4.cell N0.out.2 x5
  replace x6 := ho4.cell N0.out.2 x6
  replace x7 := ho4.cell N0.out.2 x7
  replace x8 := ho4.cell N0.out.2 x8
  replace x9 := ho4.cell N0.out.2 x9
  replace x10 := ho4.cell N0.out.2 x10
  replace x11 := ho4.cell N0.out.2 x11
  replace z0 := ho4.cell N1.out.2 z0
  replace z1 := ho4.cell N1.out.2 z1
  replace z2 := ho4.cell N1.out.2 z2
  replace z3 := ho4.cell N1.out.2 z3
  replace z4 := ho4.cell N1.out.2 z4
  replace z5 := ho4.cell N1.out.2 z5
  replace z6 := ho4.cell N1.out.2 z6
  replace z7 := ho4.cell N1.out.2 z7
  have HM4 : Hid (Rm2 w4 g1 v.h.rs) := by
    obtain ⟨f, h1, h2, h3⟩ := HM1.out.cells
    exact ⟨f, ((h1.later H12.out).onl HO3.out (NO.out g1 NG1.out).1).onl ho4 (NO.out g1 NG1.out).2, h2, h3⟩
  have HW4 : Hid (RmW w4 g2 v.h.ws) := by
    obtain ⟨f, h1, h2, h3⟩ := HM2.out.cells
    exact ⟨f, ((h1.later H12.out).onl HO3.out (NO.out g2 NG2.out).1).onl ho4 (NO.out g2 NG2.out).2, h2, h3⟩
  have LF := hid (left_is (HVK.out _ _ ho4 HV3.out) (rm_ok HV.out HM4.out HW4.out) HM4.out HW4.out)
  have HF : Hid (Both B w4 p m1' m2' V' I' q a' n' c' R' ∧ V'.map Hv.h = holdM (V.map Hv.h) v.h ∧ Onl (fun b => Its p m1 m2 b ∨ RIt q a n c b) w w4 ∧ (∀ b, Its p m1' m2' b → Its p m1 m2 b ∨ w.heap.size ≤ b) ∧ ∀ b, RIt q a' n' c' b → RIt q a n c b ∨ w.heap.size ≤ b) := by
    obtain ⟨h41, h42, h43, h44⟩ := h4.out
    have hTB := HT3.out.ref HY3.out HR3.out h43
    refine ⟨⟨hTB, h41, by rw [HE3.out, h42, HT.out.eq], fun x hx => (HY3.out x hx).onl h43 HR3.out.foreign, fun b h k => h41.apart hTB k h⟩, HE3.out, ?_, fun b hb => ?_, fun b hb => ?_⟩
    · exact ((Onl.of_below HB2.out).trans (onl_wide HO3.out fun b h => .inl h)).trans (onl_wide h43 fun b h => .inr h)
    · rcases HI3.out b hb with h | h
      · exact .inl h
      · exact .inr (Nat.le_trans HB2.out.size h)
    · rcases h44 b hb with h | h
      · exact .inl h
      · exact .inr (Nat.le_trans (Nat.le_trans HB2.out.size HO3.out.size) h)
  clear RR h4 ho4
  go_wp2_with fail
  refine LF.out.mono ?_
  rintro e w5 ⟨rfl, hb5⟩
  have HF5 : Hid (Both B w5 p m1' m2' V' I' q a' n' c' R' ∧ V'.map Hv.h = holdM (V.map Hv.h) v.h ∧ Onl (fun b => Its p m1 m2 b ∨ RIt q a n c b) w w5 ∧ (∀ b, Its p m1' m2' b → Its p m1 m2 b ∨ w.heap.size ≤ b) ∧ ∀ b, RIt q a' n' c' b → RIt q a n c b ∨ w.heap.size ≤ b) := ⟨HF.out.1.later hb5, HF.out.2.1, HF.out.2.2.1.on hb5, HF.out.2.2.2⟩
  clear LF HF hb5
  go_wp2_with fail
  go_ret
  exact ⟨rfl, _, _, _, _, _, _, _, _, HF5⟩
end Go.Proofs.Ytbgmbbmnnfmbpab.Lk
/- The law's does, any kind; two pairs of tables. -/
namespace Go.Proofs.Ytbgmbbmnnfmbpab.Lk
open Go.RowKit Go.Sort
set_option linter.unusedVariables false

/-- a pair of tables: where it lies -/
structure Pk where
  B : Nat
  p : Nat
  m1 : Option Nat
  m2 : Option Nat
  V : List Hv
  I : It
  q : Nat
  a : Option Addr
  n : Nat
  c : Nat
  R : List Hv
def Pk.at (w : World) (k : Pk) : Prop := Both k.B w k.p k.m1 k.m2 k.V k.I k.q k.a k.n k.c k.R
/-- its blocks -/
def Pk.bl (k : Pk) (b : Nat) : Prop := Its k.p k.m1 k.m2 b ∨ RIt k.q k.a k.n k.c b
theorem Pk.at.later {w w' : World} {k : Pk} (h : k.at w) (hb : Below w.heap.size w w') : k.at w' := Both.later h hb
theorem Pk.at.lt {w : World} {k : Pk} (h : k.at w) {b : Nat} (hb : k.bl b) : b < w.heap.size := by
  rcases hb with hb | hb
  · exact its_lt (Both.tb h) hb
  · exact (Both.rt h).its_lt hb
theorem Pk.at.foreign {w : World} {k : Pk} (h : k.at w) : Foreign w k.bl := fun b hb => by
  rcases hb with hb | hb
  · exact (Both.tb h).foreign b hb
  · exact (Both.rt h).foreign b hb
/-- another pair stays -/
theorem Pk.at.other {w w' : World} {k k' : Pk} (h : k.at w) (h' : k'.at w) (hd : ∀ b, k.bl b → ¬ k'.bl b) (ho : Onl k'.bl w w') : k.at w' := by
  have T := Both.tb h
  have R := Both.rt h
  have F := h'.foreign
  have tb : Tb w' k.p k.m1 k.m2 k.V k.I :=
    ⟨(ho.block k.p T.lt (hd _ (.inl (.inl rfl)))).trans T.blk, T.held.same fun b e => ho.block b (T.held.lt b e) (hd b (.inl (.inr (.inl e)))), T.ints.same fun b e => ho.block b (T.ints.lt b e) (hd b (.inl (.inr (.inr e)))),
      fun v hv => (T.rows v hv).typ_onl (Both.ty h v hv) ho F, T.ok, T.nil, T.ne⟩
  have rt : RT k.B w' k.q k.a k.n k.c k.R :=
    ⟨(ho.block k.q R.lt (hd _ (.inr (.inl rfl)))).trans R.blk, ⟨owns_keep R.row.own fun g hg => ho.block g (R.row.own.lt g hg).2 (hd g (.inr (.inr hg))), R.row.len, fun v hv => (R.row.ok v hv).typ_onl (R.typ v hv) ho F⟩, fun v hv => (R.typ v hv).onl ho F⟩
  exact ⟨tb, rt, Both.eq h, fun v hv => (Both.ty h v hv).onl ho F, Both.ap h⟩
/-- lists of the argument's stay -/
theorem vk {W : World} {v : Hv} {q n c : Nat} {a : Option Addr} (hv : v.ok W) (hl : ∀ b, RIt q a n c b → W.heap.size ≤ b) (w w' : World) (ho : Onl (RIt q a n c) w w') (h : v.ok w) : v.ok w' := by
  refine ⟨fun i hi => ?_, fun i hi => ?_, h.rl, h.wl⟩
  · obtain ⟨b, off, e, h0, h1⟩ := h.r i hi
    obtain ⟨b', off', e', k0, k1⟩ := hv.r i hi
    rw [e] at e'
    injection e' with e'
    injection e' with e1 e2
    subst e1
    have hlt : b < W.heap.size := World.block_lt_of_cell? _ _ k0
    have hn : ¬ RIt q a n c b := fun k => by have := hl b k; omega
    exact ⟨b, off, e, ho.cell hn h0, ho.cell hn h1⟩
  · obtain ⟨b, off, e, h0, h1, h2⟩ := h.w i hi
    obtain ⟨b', off', e', k0, k1⟩ := hv.w i hi
    rw [e] at e'
    injection e' with e'
    injection e' with e1 e2
    subst e1
    have hlt : b < W.heap.size := World.block_lt_of_cell? _ _ k0
    have hn : ¬ RIt q a n c b := fun k => by have := hl b k; omega
    exact ⟨b, off, e, ho.cell hn h0, ho.cell hn h1, ho.cell hn h2⟩
/-- what a step leaves of a pair -/
structure Aft (w w' : World) (k k' : Pk) (v : Hv) : Prop where
  B : k'.B = k.B
  p : k'.p = k.p
  q : k'.q = k.q
  at_ : k'.at w'
  n : k'.n ≤ k.n + 1
  s : sumW (k'.V.map Hv.h) ≤ sumW (k.V.map Hv.h) + v.h.ws.length
  on : Onl k.bl w w'
  new : ∀ b, k'.bl b → k.bl b ∨ w.heap.size ≤ b
theorem Aft.same {w w' : World} {k : Pk} {v : Hv} (h : k.at w) (hb : Below w.heap.size w w') : Aft w w' k k v :=
  ⟨rfl, rfl, rfl, h.later hb, by omega, by omega, Onl.of_below hb, fun b hb => .inl hb⟩
theorem dropM_sum (M : List Hd) (i : Ix) : sumW (dropM M i) ≤ sumW M := by
  unfold dropM sumW
  induction M with
  | nil => simp
  | cons x M ih =>
    rw [List.filter_cons]
    split
    · simp only [List.map_cons, List.sum_cons]; omega
    · simp only [List.map_cons, List.sum_cons]; omega
theorem does_any {k : Pk} {W w : World} {v : Hv} {s : T2} {on kd : Int} (h : k.at w) (hv : v.ok w) (hB : k.B ≤ w.heap.size) (hn : k.n + 1 ≤ 1759218604441) (hI : sumW (k.V.map Hv.h) ≤ 1048576) (hW : v.ok W) (hl : ∀ b, k.bl b → W.heap.size ≤ b) :
    Calls Try.prog 6 #[.pointer (some ⟨k.p, 0, none⟩), .pointer (some ⟨k.q, 0, none⟩), .agg #[.int .i64 kd, .int .i64 on, .int .u32 v.h.id.1, .int .u32 v.h.id.2, .int .u32 v.h.home, .int .u64 v.h.w, .int .u32 v.h.l, .int .u32 v.h.n, .slice v.ra v.h.rs.length v.rc, .slice v.wa v.h.ws.length v.wc, .string s.1, .string s.2]] w fun e w' => e = .returned (.bool true) ∧ ∃ k', Hid (Aft w w' k k' v) := by
  by_cases e1 : kd = 1
  · subst e1
    refine (does_hold h hv hB hn (vk hW fun b hb => hl b (.inr hb))).mono ?_
    rintro e w' ⟨he, m1', m2', V', I', a', n', c', R', hh⟩
    obtain ⟨h1, h2, h3, h4, h5⟩ := hh.out
    refine ⟨he, ⟨k.B, k.p, m1', m2', V', I', k.q, a', n', c', R'⟩, rfl, rfl, rfl, h1, ?_, ?_, h3, fun b hb => ?_⟩
    · have x1 := Both.len h1
      have x2 := Both.len h
      have x3 := congrArg List.length h2
      have x4 := holdM_len (k.V.map Hv.h) v.h
      simp only [List.length_map] at x3 x4
      show n' ≤ k.n + 1
      omega
    · show sumW (V'.map Hv.h) ≤ _
      rw [h2]; exact holdM_sum _ _
    · rcases hb with hb | hb
      · rcases h4 b hb with x | x
        · exact .inl (.inl x)
        · exact .inr x
      · rcases h5 b hb with x | x
        · exact .inl (.inr x)
        · exact .inr x
  by_cases e2 : kd = 2
  · subst e2
    refine (does_release h hv hB (by omega)).mono ?_
    rintro e w' ⟨he, V', I', a', n', c', R', hh⟩
    obtain ⟨h1, h2, h3, h5⟩ := hh.out
    refine ⟨he, ⟨k.B, k.p, k.m1, k.m2, V', I', k.q, a', n', c', R'⟩, rfl, rfl, rfl, h1, ?_, ?_, h3, fun b hb => ?_⟩
    · have x1 := Both.len h1
      have x2 := Both.len h
      have x3 := congrArg List.length h2
      have x4 := dropM_le (k.V.map Hv.h) v.h.id
      simp only [List.length_map] at x3 x4
      show n' ≤ k.n + 1
      omega
    · show sumW (V'.map Hv.h) ≤ _
      rw [h2]
      have := dropM_sum (k.V.map Hv.h) v.h.id
      omega
    · rcases hb with hb | hb
      · exact .inl (.inl hb)
      · rcases h5 b hb with x | x
        · exact .inl (.inr x)
        · exact .inr x
  by_cases e3 : kd = 3
  · subst e3
    exact (does_conf h hv).mono fun e w' x => ⟨x.1, k, Aft.same h x.2⟩
  by_cases e4 : kd = 4
  · subst e4
    exact (does_get h hv).mono fun e w' x => ⟨x.1, k, Aft.same h x.2⟩
  by_cases e5 : kd = 5
  · subst e5
    exact (does_blocks h hv hn (Nat.le_trans (ints_le (Both.tb h).ok) hI)).mono fun e w' x => ⟨x.1, k, Aft.same h x.2⟩
  by_cases e6 : kd = 6
  · subst e6
    exact (does_all h hv hn).mono fun e w' x => ⟨x.1, k, Aft.same h x.2⟩
  by_cases e7 : kd = 7
  · subst e7
    exact (does_len h hv).mono fun e w' x => ⟨x.1, k, Aft.same h x.2⟩
  have f : ∀ z : Int, ¬ kd = z → (kd == z) = false := fun z h => by simpa using h
  exact (does_none h hv (f 1 e1) (f 2 e2) (f 3 e3) (f 4 e4) (f 5 e5) (f 6 e6) (f 7 e7)).mono fun e w' x => ⟨x.1, k, Aft.same h x.2⟩
end Go.Proofs.Ytbgmbbmnnfmbpab.Lk
/- A step of a script. -/
namespace Go.Proofs.Ytbgmbbmnnfmbpab.Lk
open Go.RowKit Go.Sort
set_option linter.unusedVariables false

/-- a step of a script -/
structure Stp where
  k : Int
  o : Int
  v : Hv
  sp : T2
abbrev Stp.cells (x : Stp) : List Value := [.int .i64 x.k, .int .i64 x.o, .int .u32 x.v.h.id.1, .int .u32 x.v.h.id.2, .int .u32 x.v.h.home, .int .u64 x.v.h.w, .int .u32 x.v.h.l, .int .u32 x.v.h.n, .slice x.v.ra x.v.h.rs.length x.v.rc, .slice x.v.wa x.v.h.ws.length x.v.wc, .string x.sp.1, .string x.sp.2]
def zstp : Stp := ⟨0, 0, Hv.zero, (⟨#[]⟩, ⟨#[]⟩)⟩
def nthP (l : List Stp) (i : Nat) : Stp := (l[i]?).getD zstp
abbrev RowP (W : World) (a : Option Addr) (l : List Stp) : Prop := RowC zstp Stp.cells 12 W a l
theorem nthP_mem {l : List Stp} {i : Nat} (h : i < l.length) : nthP l i ∈ l := by
  have : nthP l i = l[i] := by simp [nthP, h]
  rw [this]; exact List.getElem_mem h
theorem rowP_at {W w : World} {a : Option Addr} {l : List Stp} (h : RowP W a l) (hb : Below W.heap.size W w) {i : Nat} (hi : i < l.length) : ∃ b off, a = some ⟨b, off, none⟩ ∧ ∀ o u, ((nthP l i).cells)[o]? = some u → w.cell? ⟨b, off + i * 12 + o, none⟩ = some u := by
  obtain ⟨b, off, e, hc⟩ := h i hi
  exact ⟨b, off, e, fun o u ho => cell_later hb (hc o u ho)⟩
end Go.Proofs.Ytbgmbbmnnfmbpab.Lk
/- LocksPlays. -/
namespace Go.Proofs.Ytbgmbbmnnfmbpab.Lk
open Go.RowKit Go.Sort
set_option linter.unusedVariables false

def sumS (l : List Stp) (i : Nat) : Nat := ((l.take i).map fun x => x.v.h.ws.length).sum
theorem sumS_step {l : List Stp} {i : Nat} (h : i < l.length) : sumS l (i + 1) = sumS l i + (nthP l i).v.h.ws.length := by
  have e : nthP l i = l[i] := by simp [nthP, h]
  rw [sumS, sumS, List.take_succ_eq_append_getElem h, List.map_append, List.sum_append, e]
  simp only [List.map_cons, List.map_nil, List.sum_cons, List.sum_nil, Nat.add_zero]
theorem sumS_le (l : List Stp) (i : Nat) : sumS l i ≤ sumS l l.length := by
  rw [sumS, sumS, List.take_length]
  conv => rhs; rw [← List.take_append_drop i l]
  rw [List.map_append, List.sum_append]
  omega
/-- the two pairs -/
structure Two (W w : World) (k1 k2 : Pk) (i S : Nat) : Prop where
  a1 : k1.at w
  a2 : k2.at w
  ap : ∀ b, k1.bl b → ¬ k2.bl b
  l1 : ∀ b, k1.bl b → W.heap.size ≤ b
  l2 : ∀ b, k2.bl b → W.heap.size ≤ b
  b1 : k1.B ≤ w.heap.size
  b2 : k2.B ≤ w.heap.size
  n1 : k1.n ≤ i
  n2 : k2.n ≤ i
  s1 : sumW (k1.V.map Hv.h) ≤ S
  s2 : sumW (k2.V.map Hv.h) ≤ S
  be : Below W.heap.size W w
theorem Two.later {W w w' : World} {k1 k2 : Pk} {i S : Nat} (h : Two W w k1 k2 i S) (hb : Below w.heap.size w w') : Two W w' k1 k2 i S :=
  ⟨h.a1.later hb, h.a2.later hb, h.ap, h.l1, h.l2, Nat.le_trans h.b1 hb.size, Nat.le_trans h.b2 hb.size, h.n1, h.n2, h.s1, h.s2, Below.on h.be hb⟩
theorem Two.turn {W w : World} {k1 k2 : Pk} {i S : Nat} (h : Two W w k1 k2 i S) : Two W w k2 k1 i S :=
  ⟨h.a2, h.a1, fun b x y => h.ap b y x, h.l2, h.l1, h.b2, h.b1, h.n2, h.n1, h.s2, h.s1, h.be⟩
theorem Two.step {W w w' : World} {k1 k2 k : Pk} {i S : Nat} {v : Hv} (h : Two W w k1 k2 i S) (a : Aft w w' k1 k v) : Two W w' k k2 (i + 1) (S + v.h.ws.length) := by
  have hz := h.be.size
  refine ⟨a.at_, h.a2.other h.a1 (fun b x y => h.ap b y x) a.on, fun b x y => ?_, fun b x => ?_, h.l2, by rw [a.B]; exact Nat.le_trans h.b1 a.on.size, Nat.le_trans h.b2 a.on.size, Nat.le_trans a.n (by have := h.n1; omega), by have := h.n2; omega, Nat.le_trans a.s (by have := h.s1; omega), by have := h.s2; omega, h.be.trans (a.on.below (B := W.heap.size) (fun j hj => h.l1 j hj) hz)⟩
  · rcases a.new b x with z | z
    · exact h.ap b z y
    · have := h.a2.lt y; omega
  · rcases a.new b x with z | z
    · exact h.l1 b z
    · omega
theorem pk_new {B p q : Nat} {w : World} (hT : Tb w p none none [] []) (hR : RT B w q none 0 0 []) : Pk.at w ⟨B, p, none, none, [], [], q, none, 0, 0, []⟩ :=
  ⟨hT, hR, rfl, by simp, fun b h k => hR.apart hT k h⟩
theorem bl_new {B p q b : Nat} (h : Pk.bl ⟨B, p, none, none, [], [], q, none, 0, 0, []⟩ b) : b = p ∨ b = q := by
  rcases h with (h | h | h) | (h | h)
  · exact .inl h
  · cases h
  · cases h
  · exact .inr h
  · cases h

set_option maxRecDepth 16000 in
set_option maxHeartbeats 4000000 in
theorem plays_law {W : World} {a : Option Addr} {c : Nat} {l : List Stp} (h : RowP W a l) (hok : ∀ x ∈ l, x.v.ok W) (hl : l.length ≤ 1048576) (hs : sumS l l.length ≤ 1048576) :
    Calls Try.prog 3 #[.slice a l.length c] W fun e w' => e = .returned (.bool true) ∧ Below W.heap.size W w' := by
  have HR := hid h
  have HOK := hid hok
  have HS := hid hs
  clear h hok hs
  obtain ⟨p1, hp1⟩ : ∃ p, p = W.heap.size := ⟨_, rfl⟩
  have NE : Hid (Calls Try.prog 4 #[] W fun e w' => e = .returned (.pointer (some ⟨p1, 0, none⟩)) ∧ Hid (Tb w' p1 none none [] []) ∧ Hid (Below W.heap.size W w')) := by rw [hp1]; exact new_is W
  have HP1 := hid hp1
  clear hp1
  go_enter Try.func3, Try.ntmps3
  go_wp2_with fail
  refine NE.out.mono ?_
  rintro e w1 ⟨rfl, HT1, HB1⟩
  clear NE
  obtain ⟨p2, hp2⟩ : ∃ p, p = w1.heap.size := ⟨_, rfl⟩
  have NE : Hid (Calls Try.prog 4 #[] w1 fun e w' => e = .returned (.pointer (some ⟨p2, 0, none⟩)) ∧ Hid (Tb w' p2 none none [] []) ∧ Hid (Below w1.heap.size w1 w')) := by rw [hp2]; exact new_is w1
  have HP2 := hid hp2
  clear hp2
  go_wp2_with fail
  refine NE.out.mono ?_
  rintro e w2 ⟨rfl, HT2, HB2⟩
  clear NE
  obtain ⟨q1, hq1⟩ : ∃ p, p = w2.heap.size := ⟨_, rfl⟩
  have NE : Hid (Calls Try.prog 5 #[] w2 fun e w' => e = .returned (.pointer (some ⟨q1, 0, none⟩)) ∧ Hid (RT q1 w' q1 none 0 0 []) ∧ Hid (Below w2.heap.size w2 w')) := by rw [hq1]; exact rnew_is w2
  have HQ1 := hid hq1
  clear hq1
  go_wp2_with fail
  refine NE.out.mono ?_
  rintro e w3 ⟨rfl, HT3, HB3⟩
  clear NE
  obtain ⟨q2, hq2⟩ : ∃ p, p = w3.heap.size := ⟨_, rfl⟩
  have NE : Hid (Calls Try.prog 5 #[] w3 fun e w' => e = .returned (.pointer (some ⟨q2, 0, none⟩)) ∧ Hid (RT q2 w' q2 none 0 0 []) ∧ Hid (Below w3.heap.size w3 w')) := by rw [hq2]; exact rnew_is w3
  have HQ2 := hid hq2
  clear hq2
  go_wp2_with fail
  refine NE.out.mono ?_
  rintro e w4 ⟨rfl, HT4, HB4⟩
  clear NE
  have HINV : Hid (∃ k1 k2, k1.p = p1 ∧ k1.q = q1 ∧ k2.p = p2 ∧ k2.q = q2 ∧ Two W w4 k1 k2 0 (sumS l 0)) := by
    have e1 := HP1.out
    have e2 := HP2.out
    have e3 := HQ1.out
    have e4 := HQ2.out
    have x1 := HT1.out.lt
    have x2 := HT2.out.lt
    have x3 := HT3.out.lt
    have x4 := HT4.out.lt
    have z1 := HB1.out.size
    have z2 := HB2.out.size
    have z3 := HB3.out.size
    have z4 := HB4.out.size
    refine ⟨⟨q1, p1, none, none, [], [], q1, none, 0, 0, []⟩, ⟨q2, p2, none, none, [], [], q2, none, 0, 0, []⟩, rfl, rfl, rfl, rfl, pk_new (((HT1.out.later HB2.out).later HB3.out).later HB4.out) (HT3.out.later HB4.out), pk_new ((HT2.out.later HB3.out).later HB4.out) HT4.out, fun b x y => ?_, fun b x => ?_, fun b x => ?_, by show q1 ≤ _; omega, by show q2 ≤ _; omega, Nat.le_refl _, Nat.le_refl _, by simp [sumW, sumS], by simp [sumW, sumS], Below.on (Below.on (Below.on HB1.out HB2.out) HB3.out) HB4.out⟩
    · have h1 := bl_new x
      have h2 := bl_new y
      omega
    · have h1 := bl_new x
      omega
    · have h1 := bl_new x
      omega
  clear HT1 HT2 HT3 HT4 HB1 HB2 HB3 HB4 HP1 HP2 HQ1 HQ2
  go_wp2_with fail
  go_loopg [7] l.length (fun g s7 wr => ∃ i : Nat, i ≤ l.length ∧ g = l.length - i ∧ s7 = .int .i64 i ∧ Hid (∃ k1 k2, k1.p = p1 ∧ k1.q = q1 ∧ k2.p = p2 ∧ k2.q = q2 ∧ Two W wr k1 k2 i (sumS l i)))
  case atStart => exact ⟨0, by omega, by omega, rfl, HINV⟩
  case round =>
    clear HINV
    obtain ⟨i, hi, rfl, rfl, HI⟩ := hrel
    by_cases hlt : i < l.length
    · obtain ⟨k1, k2, e1, e2, e3, e4, T⟩ := HI.out
      obtain ⟨b, off, ea, hc⟩ := rowP_at HR.out T.be hlt
      subst ea
      obtain ⟨x, hx⟩ : ∃ x, x = nthP l i := ⟨_, rfl⟩
      rw [← hx] at hc
      have hxo : x.v.ok W := HOK.out x (by rw [hx]; exact nthP_mem hlt)
      have hstep : sumS l (i + 1) = sumS l i + x.v.h.ws.length := by rw [hx]; exact sumS_step hlt
      have hle : sumS l i ≤ 1048576 := Nat.le_trans (sumS_le l i) HS.out
      have hi1 : (i : Int) < (l.length : Int) := by omega
      obtain ⟨xk, xo, xv, xs⟩ := x
      have c0 : wr.cell? ⟨b, off + i * 12, none⟩ = some (.int .i64 xk) := hc 0 _ rfl
      have c1 := hc 1 _ rfl
      have c2 := hc 2 _ rfl
      have c3 := hc 3 _ rfl
      have c4 := hc 4 _ rfl
      have c5 := hc 5 _ rfl
      have c6 := hc 6 _ rfl
      have c7 := hc 7 _ rfl
      have c8 := hc 8 _ rfl
      have c9 := hc 9 _ rfl
      have c10 := hc 10 _ rfl
      have c11 := hc 11 _ rfl
      clear hc hx
      simp only at hxo hstep
      by_cases ho : xo = 1
      · have ho1 : (xo == 1) = true := by simpa using ho
        have DO := hid (does_any (kd := xk) (on := xo) (s := xs) T.a2 (hxo.later T.be) T.b2 (by have := T.n2; omega) (Nat.le_trans T.s2 hle) hxo T.l2)
        rw [e3, e4] at DO
        have HT : Hid (∀ w' k', Aft wr w' k2 k' xv → ∃ k1 k2, k1.p = p1 ∧ k1.q = q1 ∧ k2.p = p2 ∧ k2.q = q2 ∧ Two W w' k1 k2 (i + 1) (sumS l (i + 1))) := fun w' k' a => ⟨k1, k', e1, e2, a.p.trans e3, a.q.trans e4, by rw [hstep]; exact (T.turn.step a).turn⟩
        clear HI T e1 e2 e3 e4 hxo hstep hle ho
        go_wp2_with fail
        refine DO.out.mono ?_
        rintro e w1 ⟨rfl, k', HA⟩
        go_wp2_with fail
        go_roundg (l.length - (i + 1))
        case measure => omega
        case rel => exact ⟨i + 1, by omega, rfl, by go_num, hid (HT.out _ _ HA.out)⟩
      · have ho1 : (xo == 1) = false := by simpa using ho
        have DO := hid (does_any (kd := xk) (on := xo) (s := xs) T.a1 (hxo.later T.be) T.b1 (by have := T.n1; omega) (Nat.le_trans T.s1 hle) hxo T.l1)
        rw [e1, e2] at DO
        have HT : Hid (∀ w' k', Aft wr w' k1 k' xv → ∃ k1 k2, k1.p = p1 ∧ k1.q = q1 ∧ k2.p = p2 ∧ k2.q = q2 ∧ Two W w' k1 k2 (i + 1) (sumS l (i + 1))) := fun w' k' a => ⟨k', k2, a.p.trans e1, a.q.trans e2, e3, e4, by rw [hstep]; exact T.step a⟩
        clear HI T e1 e2 e3 e4 hxo hstep hle ho
        go_wp2_with fail
        refine DO.out.mono ?_
        rintro e w1 ⟨rfl, k', HA⟩
        go_wp2_with fail
        go_roundg (l.length - (i + 1))
        case measure => omega
        case rel => exact ⟨i + 1, by omega, rfl, by go_num, hid (HT.out _ _ HA.out)⟩
    · obtain rfl : i = l.length := by omega
      obtain ⟨k1, k2, e1, e2, e3, e4, T⟩ := HI.out
      have hn1 : k1.n + 1 ≤ 1759218604441 := by have := T.n1; omega
      have hn2 : k2.n + 1 ≤ 1759218604441 := by have := T.n2; omega
      have HT := hid T
      have AP := hid (all_is (Both.tb T.a1) (by rw [Both.len T.a1]; omega))
      rw [e1] at AP
      have HE : Hid (k1.q = q1 ∧ k2.p = p2 ∧ k2.q = q2) := ⟨e2, e3, e4⟩
      clear T HI e1 e2 e3 e4 hlt
      go_wp2_with fail
      refine AP.out.mono ?_
      rintro e w1 ⟨a1, n1, c1, U1, rfl, hU1, hU2, hU3, hU4, hU5, hb1⟩
      have HTo1 : Hid (Told (U1.map Hv.h) (k1.R.map Hv.h)) := by rw [← Both.eq HT.out.a1]; exact ⟨hU4, hU5⟩
      have HU1 : Hid (RowH wr.heap.size w1 a1 n1 c1 U1) := ⟨hU2, hU1, fun u hu => (hU3 u hu).2⟩
      have HT1 := hid (HT.out.later hb1)
      have RA := hid (rall_is (Both.rt HT1.out.a1) hn1 (by rw [← Both.eq HT.out.a1]; exact (Both.tb HT.out.a1).ok.ids) HTo1.out)
      rw [HE.out.1] at RA
      clear AP hU1 hU2 hU3 hU4 hU5 hb1 HT
      go_wp2_with fail
      refine RA.out.mono ?_
      rintro e w2 ⟨a2, c2, U2, rfl, hR2, hE2, _, hb2⟩
      have HT2 := hid (HT1.out.later hb2.out)
      have SL := hid (sameList_is (u := true) (by simp [hE2.out]) (HU1.out.later hb2.out) hR2.out)
      clear RA HT1
      go_wp2_with fail
      refine SL.out.mono ?_
      rintro e w3 ⟨rfl, hb3⟩
      have HT3 := hid (HT2.out.later hb3)
      have AP := hid (all_is (Both.tb HT3.out.a2) (by rw [Both.len HT3.out.a2]; omega))
      rw [HE.out.2.1] at AP
      clear SL hb3 HT2
      go_wp2_with fail
      refine AP.out.mono ?_
      rintro e w4 ⟨a4, n4, c4, U4, rfl, hU1, hU2, hU3, hU4, hU5, hb4⟩
      have HTo4 : Hid (Told (U4.map Hv.h) (k2.R.map Hv.h)) := by rw [← Both.eq HT3.out.a2]; exact ⟨hU4, hU5⟩
      have HU4 : Hid (RowH w3.heap.size w4 a4 n4 c4 U4) := ⟨hU2, hU1, fun u hu => (hU3 u hu).2⟩
      have HT4 := hid (HT3.out.later hb4)
      have RA := hid (rall_is (Both.rt HT4.out.a2) hn2 (by rw [← Both.eq HT3.out.a2]; exact (Both.tb HT3.out.a2).ok.ids) HTo4.out)
      rw [HE.out.2.2] at RA
      clear AP hU1 hU2 hU3 hU4 hU5 hb4 HT3
      go_wp2_with fail
      refine RA.out.mono ?_
      rintro e w5 ⟨a5, c5, U5, rfl, hR5, hE5, _, hb5⟩
      have HT5 := hid (HT4.out.later hb5.out)
      have SL := hid (sameList_is (u := true) (by simp [hE5.out]) (HU4.out.later hb5.out) hR5.out)
      clear RA HT4
      go_wp2_with fail
      refine SL.out.mono ?_
      rintro e w6 ⟨rfl, hb6⟩
      have HB6 := hid (Below.on HT5.out.be hb6)
      clear SL
      go_wp2_with fail
      go_ret
      exact ⟨rfl, HB6.out⟩
end Go.Proofs.Ytbgmbbmnnfmbpab.Lk
/- The openings: what is held, steps, a scene. -/
namespace Go.Proofs.Ytbgmbbmnnfmbpab.Lk
open Go.ChangeShapes Go.WideShapes Go.ChangeAt Go.RowKit Go.Deep
set_option linter.unusedVariables false

theorem cells_str : Try.prog.cellsOf 9 = 1 := by kernel_rfl
theorem cells_bool : Try.prog.cellsOf 4 = 1 := by kernel_rfl
theorem cells_int : Try.prog.cellsOf 3 = 1 := by kernel_rfl
theorem cells_u64 : Try.prog.cellsOf 30 = 1 := by kernel_rfl
theorem cells_u32 : Try.prog.cellsOf 27 = 1 := by kernel_rfl
theorem cells_txn : Try.prog.cellsOf 29 = 2 := by kernel_rfl
theorem cells_stamp : Try.prog.cellsOf 32 = 3 := by kernel_rfl
theorem cells_spans : Try.prog.cellsOf 33 = 1 := by kernel_rfl
theorem cells_writes : Try.prog.cellsOf 34 = 1 := by kernel_rfl
theorem cells_Span : Try.prog.cellsOf 38 = 2 := by kernel_rfl
theorem cells_Write : Try.prog.cellsOf 70 = 3 := by kernel_rfl
theorem cells_Held : Try.prog.cellsOf 36 = 8 := by kernel_rfl
theorem bytes_Span : Try.prog.bytesOf 38 = 32 := by kernel_rfl
theorem bytes_Write : Try.prog.bytesOf 70 = 40 := by kernel_rfl
theorem bytes_Held : Try.prog.bytesOf 36 = 80 := by kernel_rfl
theorem list2 {α : Type} {cs : List α} (h : cs.length = 2) : ∃ c0 c1, cs = [c0, c1] := by
  match cs, h with
  | [c0, c1], _ => exact ⟨c0, c1, rfl⟩
theorem list3 {α : Type} {cs : List α} (h : cs.length = 3) : ∃ c0 c1 c2, cs = [c0, c1, c2] := by
  match cs, h with
  | [c0, c1, c2], _ => exact ⟨c0, c1, c2, rfl⟩
theorem list4 {α : Type} {cs : List α} (h : cs.length = 4) : ∃ c0 c1 c2 c3, cs = [c0, c1, c2, c3] := by
  match cs, h with
  | [c0, c1, c2, c3], _ => exact ⟨c0, c1, c2, c3, rfl⟩
theorem list5 {α : Type} {cs : List α} (h : cs.length = 5) : ∃ c0 c1 c2 c3 c4, cs = [c0, c1, c2, c3, c4] := by
  match cs, h with
  | [c0, c1, c2, c3, c4], _ => exact ⟨c0, c1, c2, c3, c4, rfl⟩
theorem list8 {α : Type} {cs : List α} (h : cs.length = 8) : ∃ c0 c1 c2 c3 c4 c5 c6 c7, cs = [c0, c1, c2, c3, c4, c5, c6, c7] := by
  match cs, h with
  | [c0, c1, c2, c3, c4, c5, c6, c7], _ => exact ⟨c0, c1, c2, c3, c4, c5, c6, c7, rfl⟩
theorem list12 {α : Type} {cs : List α} (h : cs.length = 12) : ∃ c0 c1 c2 c3 c4 c5 c6 c7 c8 c9 c10 c11, cs = [c0, c1, c2, c3, c4, c5, c6, c7, c8, c9, c10, c11] := by
  match cs, h with
  | [c0, c1, c2, c3, c4, c5, c6, c7, c8, c9, c10, c11], _ => exact ⟨c0, c1, c2, c3, c4, c5, c6, c7, c8, c9, c10, c11, rfl⟩

section
variable {H : Type} {enc : TypeId × Value → H} {w : World} {base : Nat} {fuel : Nat} {cs : List Value} {y : DataW H × List MemPlace}

theorem trod_Span (h : DataW.trod enc Try.prog w base (fun _ => true) true fuel 38 cs = some y) : ∃ x : T2, cs = encS x := by
  obtain ⟨ys, n, _, rfl, hl, hlen, hf⟩ := DataW.trod_struct Try.underlying38 h
  rw [cells_Span] at hl
  obtain ⟨c0, c1, rfl⟩ := list2 hl
  obtain ⟨y0, y1, rfl⟩ := list2 (cs := ys) (by simpa using hlen)
  obtain ⟨s0, e0, _, _⟩ := DataW.trod_string Try.underlying9 (hf 0 _ rfl)
  obtain ⟨s1, e1, _, _⟩ := DataW.trod_string Try.underlying9 (hf 1 _ rfl)
  simp [cells_str] at e0 e1
  subst e0 e1
  exact ⟨(s0, s1), rfl⟩
theorem trod_Write (h : DataW.trod enc Try.prog w base (fun _ => true) true fuel 70 cs = some y) (hr : InReach 70 y.1) : ∃ x : Wr, cs = encW x ∧ x.key.size ≤ reachBytes := by
  obtain ⟨ys, n, _, rfl, hl, hlen, hf⟩ := DataW.trod_struct Try.underlying70 h
  rw [cells_Write] at hl
  obtain ⟨c0, c1, c2, rfl⟩ := list3 hl
  obtain ⟨y0, y1, y2, rfl⟩ := list3 (cs := ys) (by simpa using hlen)
  obtain ⟨s0, e0, d0, _⟩ := DataW.trod_string Try.underlying9 (hf 0 _ rfl)
  obtain ⟨b1, e1, _⟩ := DataW.trod_bool Try.underlying4 (hf 1 _ rfl)
  obtain ⟨s2, e2, _, _⟩ := DataW.trod_string Try.underlying9 (hf 2 _ rfl)
  simp [cells_str, cells_bool] at e0 e1 e2
  subst e0 e1 e2
  refine ⟨⟨s0, b1, s2⟩, rfl, ?_⟩
  have := InReach.part (ps := [y0.1, y1.1, y2.1]) hr Try.underlying70 (j := 0) rfl rfl
  rw [d0] at this
  exact this.text
theorem trod_txn (h : DataW.trod enc Try.prog w base (fun _ => true) true fuel 29 cs = some y) : ∃ a b : Int, cs = [.int .u32 a, .int .u32 b] ∧ (0 ≤ a ∧ a ≤ 4294967295) := by
  obtain ⟨ys, n, _, rfl, hl, hlen, hf⟩ := DataW.trod_struct Try.underlying29 h
  rw [cells_txn] at hl
  obtain ⟨c0, c1, rfl⟩ := list2 hl
  obtain ⟨y0, y1, rfl⟩ := list2 (cs := ys) (by simpa using hlen)
  obtain ⟨s0, e0, _, w0⟩ := DataW.trod_int Try.underlying27 (hf 0 _ rfl)
  obtain ⟨s1, e1, _, w1⟩ := DataW.trod_int Try.underlying27 (hf 1 _ rfl)
  simp [cells_u32] at e0 e1
  subst e0 e1
  refine ⟨s0, s1, rfl, ?_⟩
  simp [Lit.wf, IntKind.min, IntKind.max, IntKind.bits, IntKind.signed] at w0; omega
theorem trod_st (h : DataW.trod enc Try.prog w base (fun _ => true) true fuel 32 cs = some y) : ∃ a b c : Int, cs = [.int .u64 a, .int .u32 b, .int .u32 c] := by
  obtain ⟨ys, n, _, rfl, hl, hlen, hf⟩ := DataW.trod_struct Try.underlying32 h
  rw [cells_stamp] at hl
  obtain ⟨c0, c1, c2, rfl⟩ := list3 hl
  obtain ⟨y0, y1, y2, rfl⟩ := list3 (cs := ys) (by simpa using hlen)
  obtain ⟨s0, e0, _, _⟩ := DataW.trod_int Try.underlying30 (hf 0 _ rfl)
  obtain ⟨s1, e1, _, _⟩ := DataW.trod_int Try.underlying27 (hf 1 _ rfl)
  obtain ⟨s2, e2, _, _⟩ := DataW.trod_int Try.underlying27 (hf 2 _ rfl)
  simp [cells_u32, cells_u64] at e0 e1 e2
  subst e0 e1 e2
  exact ⟨s0, s1, s2, rfl⟩
/-- the list of spans -/
theorem Span_cell {v : Value} (hf : DataW.trod enc Try.prog w base (fun _ => true) true fuel 33 [v] = some y) (hr : InReach 33 y.1) :
    ∃ (a : Option Addr) (cap : Nat) (xs : List T2), v = .slice a xs.length cap ∧ Row2 w a xs ∧ xs.length + 1 ≤ 4398046511104 := by
  obtain ⟨a, cap, xs, rfl, _, _, hrow, hel⟩ := open_rows Try.underlying33 cells_Span (by decide) ((⟨#[]⟩, ⟨#[]⟩) : T2) encS (fun _ _ => True) (fun _ _ _ h _ => by obtain ⟨x, e⟩ := trod_Span h; exact ⟨x, e, trivial⟩) hf hr
  refine ⟨a, cap, xs, rfl, fun i hi => ?_, ?_⟩
  · obtain ⟨b, off, e, hc⟩ := hrow i hi
    exact ⟨b, off, e, hc 0 _ rfl, hc 1 _ rfl⟩
  · rcases hel with rfl | ⟨el, sp, e1, e2, _⟩
    · simp
    · rw [e1] at hr
      have := hr.len Try.underlying33 bytes_Span (by decide)
      rw [e2] at this
      simp only [reachBytes] at this
      omega
theorem Write_cell {v : Value} (hf : DataW.trod enc Try.prog w base (fun _ => true) true fuel 34 [v] = some y) (hr : InReach 34 y.1) :
    ∃ (a : Option Addr) (cap : Nat) (xs : List Wr), v = .slice a xs.length cap ∧ RowW w a xs ∧ xs.length + 1 ≤ 3518437208883 ∧ (∀ x ∈ xs, x.key.size ≤ reachBytes) ∧ xs.length ≤ Rows.uptoBulk y.1 := by
  obtain ⟨a, cap, xs, rfl, _, _, hrow, hel⟩ := open_rows Try.underlying34 cells_Write (by decide) (⟨⟨#[]⟩, false, ⟨#[]⟩⟩ : Wr) encW (fun x _ => x.key.size ≤ reachBytes) (fun _ _ _ h k => trod_Write h k) hf hr
  refine ⟨a, cap, xs, rfl, fun i hi => ?_, ?_⟩
  · obtain ⟨b, off, e, hc⟩ := hrow i hi
    exact ⟨b, off, e, hc 0 _ rfl, hc 1 _ rfl, hc 2 _ rfl⟩
  · rcases hel with rfl | ⟨el, sp, e1, e2, e3⟩
    · simp
    · rw [e1] at hr
      have := hr.len Try.underlying34 bytes_Write (by decide)
      rw [e2] at this
      simp only [reachBytes] at this
      refine ⟨by omega, fun x hx => ?_, ?_⟩
      · obtain ⟨i, hi, rfl⟩ := List.getElem_of_mem hx
        obtain ⟨d, hd, hg⟩ := e3 i hi
        simpa [hi] using hg
      · have := bulkAll_len el
        rw [e1]; simp only [Rows.uptoBulk]; omega
/-- what is held -/
theorem trod_Held (h : DataW.trod enc Try.prog w base (fun _ => true) true fuel 36 cs = some y) (hr : InReach 36 y.1) : ∃ x : Hv, cs = hcs x ∧ x.ok w ∧ (0 ≤ x.h.id.1 ∧ x.h.id.1 ≤ 4294967295) ∧ (∀ z ∈ x.h.ws, z.key.size ≤ reachBytes) ∧ x.h.ws.length ≤ Rows.uptoBulk y.1 := by
  obtain ⟨ys, n, _, rfl, hl, hlen, hf⟩ := DataW.trod_struct Try.underlying36 h
  rw [cells_Held] at hl
  obtain ⟨c0, c1, c2, c3, c4, c5, c6, c7, rfl⟩ := list8 hl
  obtain ⟨y0, y1, y2, y3, y4, rfl⟩ := list5 (cs := ys) (by simpa using hlen)
  obtain ⟨a0, a1, e0, w0⟩ := trod_txn (hf 0 _ rfl)
  obtain ⟨a2, e2, _, _⟩ := DataW.trod_int Try.underlying27 (hf 1 _ rfl)
  obtain ⟨a3, a4, a5, e3⟩ := trod_st (hf 2 _ rfl)
  have s6 : ([c0, c1, c2, c3, c4, c5, c6, c7].drop 6).take (Try.prog.cellsOf 33) = [c6] := by rw [cells_spans]; rfl
  have s7 : ([c0, c1, c2, c3, c4, c5, c6, c7].drop 7).take (Try.prog.cellsOf 34) = [c7] := by rw [cells_writes]; rfl
  have g6 : DataW.trod enc Try.prog w base (fun _ => true) true n 33 [c6] = some y3 := by rw [← s6]; exact hf 3 _ rfl
  have g7 : DataW.trod enc Try.prog w base (fun _ => true) true n 34 [c7] = some y4 := by rw [← s7]; exact hf 4 _ rfl
  obtain ⟨ra, rc, rs, rfl, hR, hrl⟩ := Span_cell g6 (InReach.part (ps := [y0.1, y1.1, y2.1, y3.1, y4.1]) hr Try.underlying36 (j := 3) rfl rfl)
  obtain ⟨wa, wc, ws, rfl, hW, hwl, hk, hbk⟩ := Write_cell g7 (InReach.part (ps := [y0.1, y1.1, y2.1, y3.1, y4.1]) hr Try.underlying36 (j := 4) rfl rfl)
  simp [cells_u32, cells_txn, cells_stamp] at e0 e2 e3
  obtain ⟨e0, e1⟩ := e0
  obtain ⟨e3, e4, e5⟩ := e3
  subst e0 e1 e2 e3 e4 e5
  refine ⟨⟨⟨⟨a0, a1⟩, a2, a3, a4, a5, rs, ws⟩, ra, rc, wa, wc⟩, rfl, ⟨hR, hW, hrl, hwl⟩, w0, hk, ?_⟩
  show ws.length ≤ _
  simp only [List.map_cons, List.map_nil, Rows.uptoBulk, Rows.uptoBulkAll]
  omega
end
end Go.Proofs.Ytbgmbbmnnfmbpab.Lk
/- The openings: a script. -/
namespace Go.Proofs.Ytbgmbbmnnfmbpab.Lk
open Go.ChangeShapes Go.WideShapes Go.ChangeAt Go.RowKit Go.Deep
set_option linter.unusedVariables false

theorem cells_Step : Try.prog.cellsOf 40 = 12 := by kernel_rfl
theorem bytes_Step : Try.prog.bytesOf 40 = 128 := by kernel_rfl
set_option maxRecDepth 100000 in
theorem trod_Step {H : Type} {enc : TypeId × Value → H} {w : World} {base : Nat} {fuel : Nat} {cs : List Value} {y : DataW H × List MemPlace}
    (h : DataW.trod enc Try.prog w base (fun _ => true) true fuel 40 cs = some y) (hr : InReach 40 y.1) : ∃ x : Stp, cs = x.cells ∧ x.v.ok w ∧ x.v.h.ws.length ≤ Rows.uptoBulk y.1 := by
  obtain ⟨ys, n, _, rfl, hl, hlen, hf⟩ := DataW.trod_struct Try.underlying40 h
  rw [cells_Step] at hl
  obtain ⟨c0, c1, c2, c3, c4, c5, c6, c7, c8, c9, c10, c11, rfl⟩ := list12 hl
  obtain ⟨y0, y1, y2, y3, rfl⟩ := list4 (cs := ys) (by simpa using hlen)
  obtain ⟨a0, e0, _, _⟩ := DataW.trod_int Try.underlying3 (hf 0 _ rfl)
  obtain ⟨a1, e1, _, _⟩ := DataW.trod_int Try.underlying3 (hf 1 _ rfl)
  obtain ⟨x, e2, hx, _, _, hbk⟩ := trod_Held (hf 2 _ rfl) (InReach.part (ps := [y0.1, y1.1, y2.1, y3.1]) hr Try.underlying40 (j := 2) rfl rfl)
  obtain ⟨s, e3⟩ := trod_Span (hf 3 _ rfl)
  simp [cells_int, cells_Held, cells_Span] at e0 e1 e2 e3
  obtain ⟨e2, e4, e5, e6, e7, e8, e9, e10⟩ := e2
  obtain ⟨e3, e11⟩ := e3
  subst e0 e1 e2 e3 e4 e5 e6 e7 e8 e9 e10 e11
  refine ⟨⟨a0, a1, x, s⟩, rfl, hx, Nat.le_trans hbk ?_⟩
  simp only [Rows.uptoBulk, List.map_cons, List.map_nil, Rows.uptoBulkAll]
  omega
set_option maxRecDepth 100000 in
theorem open_stepsU {H : Type} {enc : TypeId × Value → H} {W : World} {r : Reach} {b : Nat} {v : Value} {d : DataW H} {p : List MemPlace}
    (hv : Value.okWide Try.prog W r b 22 v) (h : DataW.Trod enc Try.prog W 0 (fun _ => true) true 22 v d p) (hk : Rows.uptoBulk d ≤ 1048576) :
    ∃ (a : Option Addr) (cap : Nat) (xs : List Stp), v = .slice a xs.length cap ∧ RowP W a xs ∧ (∀ x ∈ xs, x.v.ok W) ∧ xs.length ≤ 1048576 ∧ sumS xs xs.length ≤ 1048576 := by
  obtain ⟨a0, len, cap, rfl⟩ := okWide_slice Try.underlying22 hv
  obtain ⟨fuel, hf⟩ := h
  have hr : InReach 22 d := .inr hk
  obtain ⟨a, cap, xs, e, _, _, hrow, hel⟩ := open_rows Try.underlying22 cells_Step (by decide) zstp Stp.cells (fun x d => x.v.ok W ∧ x.v.h.ws.length ≤ Rows.uptoBulk d) (fun _ _ _ h k => trod_Step h k) hf hr
  refine ⟨a, cap, xs, e, hrow, ?_, ?_, ?_⟩
  · rcases hel with rfl | ⟨el, sp, _, _, e3⟩
    · simp
    · intro x hx
      obtain ⟨i, hi, rfl⟩ := List.getElem_of_mem hx
      obtain ⟨d, _, hg⟩ := e3 i hi
      simpa [hi] using hg.1
  · rcases hel with rfl | ⟨el, sp, e1, e2, _⟩
    · simp
    · simp only at e1
      rw [e1] at hk
      have h1 := bulkAll_len el
      simp only [Rows.uptoBulk] at hk
      omega
  · rcases hel with rfl | ⟨el, sp, e1, e2, e3⟩
    · simp [sumS]
    · simp only at e1
      rw [e1] at hk
      have h1 := bulkAll_sum zstp (fun x : Stp => x.v.h.ws.length) e2 (fun i hi => by obtain ⟨d, hd, hg⟩ := e3 i hi; exact ⟨d, hd, hg.2⟩)
      simp only [Rows.uptoBulk] at hk
      rw [sumS, List.take_length]
      omega
set_option maxRecDepth 100000 in
theorem opened_locksPlays {H : Type} {enc : TypeId × Value → H} {W : World} {r : Reach} {b : Nat} {v : Value} {d : DataW H} {p : List MemPlace}
    (hv : Value.okWide Try.prog W r b 22 v) (h : DataW.Trod enc Try.prog W 0 (fun _ => true) true 22 v d p) (hk : Rows.uptoBulk d ≤ 1048576) :
    Calls Try.prog 3 #[v] W fun e w' => e = .returned (.bool true) ∧ Below W.heap.size W w' := by
  obtain ⟨a, cap, xs, rfl, h1, h2, h3, h4⟩ := open_stepsU hv h hk
  exact plays_law h1 h2 h3 h4
end Go.Proofs.Ytbgmbbmnnfmbpab.Lk
namespace Go.Proofs.Ytbgmbbmnnfmbpab.locksPlaysLast
open Go.ChangeShapes Go.WideShapes Go.ChangeAt Go.RowKit Lk
set_option linter.unusedVariables false

theorem own : ownKnob Try.prog.godebug = none := by kernel_rfl
theorem laidOut : laidOutB Try.prog = true := by kernel_rfl

set_option maxRecDepth 100000 in
theorem contract (H : Type) (enc : TypeId × Value → H) (W : World) (base : Nat) (args : Array Value) (ds gs : List (DataW H)) (before : List MemPlace)
    (hval : ∀ (j : Nat) t v, Try.f3.params[j]? = some t → args[j]? = some v → Value.okWide Try.prog W .any base t v)
    (hW : DataW.Whole enc Try.prog Try.f3.params.toList Rows.locksPlaysSpec.vars false W args.toList ds gs before) (hk : Rows.uptoBulkAll (ds ++ gs) ≤ 1048576) :
    Calls Try.prog 3 args W fun e W' => ∃ v, e = .returned v ∧ Rows.locksPlaysSpec.post enc Try.prog Try.f3 false true false false W args v W' := by
  have hW' := hW
  obtain ⟨p, q, hA0, hVr, rfl, hfz, hnd⟩ := hW
  have hA : DataW.TrodAll enc Try.prog W 0 (fun _ => true) true Try.f3.params.toList args.toList ds p := hA0
  rw [Try.params3] at hA hval
  obtain ⟨v0, vs0, d0, ds0, p0, q0, hargs, rfl, rfl, h0, r0⟩ := trodAll_cons hA
  obtain ⟨rfl, rfl, rfl⟩ := trodAll_nil r0
  obtain rfl : args = #[v0] := by cases args; simp_all
  obtain ⟨rfl, rfl⟩ := trodVars_none hVr
  have lt0 : ∀ x ∈ p0, x.block < W.heap.size := by obtain ⟨m, hm⟩ := h0; exact DataW.trod_lt m _ _ _ hm
  clear hA0
  have hk0 : Rows.uptoBulk d0 ≤ 1048576 := by
    simp only [List.cons_append, List.nil_append, Rows.uptoBulkAll] at hk
    omega
  refine (opened_locksPlays (hval 0 22 v0 rfl rfl) h0 hk0).mono fun e W' ⟨he, bel⟩ => ?_
  subst he
  exact ⟨_, rfl, _, _, _, [], _, [], hW', trodAll_mk1 (shut_bool Try.underlying4 _), (trodAll_cons_mk (Below.trod laidOut (by kernel_rfl) (of_decide_eq_true (by kernel_rfl)) h0 bel lt0) trodAll_mk0), rfl, bel.frame _, fun h => by cases h⟩

set_option maxRecDepth 100000 in
theorem lifted (os : Os) (started : os.Started) (H : Type) (enc : TypeId × Value → H) (F : Stop.Interp) :
    ReturnsInHanded {} Try.checked os 3 .any ((Rows.OpenSpec.upto Rows.locksPlaysSpec).pre6 enc Try.prog Try.f3 Rows.locksPlaysUptoRow.domain false) (((Rows.OpenSpec.upto Rows.locksPlaysSpec).at F).post enc Try.prog Try.f3 false true false false) := by
  refine returnsInHanded_of_cond (C := Try.checked) (s := Rows.OpenSpec.upto Rows.locksPlaysSpec) (k := Rows.uptoSmall) rfl own started (by kernel_rfl) Try.func3
    (OpenSpec.witness (enc := enc) (C := Try.checked) (s := Rows.OpenSpec.upto Rows.locksPlaysSpec) (k := Rows.uptoSmall) rfl false ⟨#[], #[.slice none 0 0], []⟩ 8 (by kernel_rfl) (by kernel_rfl) (by kernel_rfl)
      (x := ([.nil], [], [])) (by kernel_rfl) rfl (by kernel_rfl)) ?_
  intro W base args ds gs before hval hW _ hk _
  exact contract H enc W base args ds gs before hval hW (of_decide_eq_true hk)

theorem said : Rows.LocksPlaysUptoSaid :=
  OpenClaim.holds_of_cond 3 Try.f3 rfl rfl rfl rfl rfl rfl rfl ⟨rfl, rfl, rfl, rfl, rfl⟩ rfl rfl rfl rfl rfl (by kernel_rfl) Try.func3 (by kernel_rfl)
    (of_decide_eq_true (by kernel_rfl)) (by unfold Func.isWrapper; first | (rw [if_pos (by decide +kernel)]; kernel_rfl) | (rw [if_neg (by decide +kernel)]; exact ⟨rfl, rfl⟩))
    (fun os started H enc _ F => lifted os started H enc F)
end Go.Proofs.Ytbgmbbmnnfmbpab.locksPlaysLast
namespace Go.Proofs.Ytbgmbbmnnfmbpab
theorem locksPlays_holds : Rows.LocksPlaysUptoSaid := locksPlaysLast.said
#print axioms locksPlays_holds
end Go.Proofs.Ytbgmbbmnnfmbpab
