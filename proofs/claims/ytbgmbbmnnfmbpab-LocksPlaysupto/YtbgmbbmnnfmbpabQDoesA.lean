import Derived.Test.YtbgmbbmnnfmbpabQDoes
import Derived.Test.YtbgmbbmnnfmbpabQLists
/- The law's does: All, Blocks. -/
namespace Go.Proofs.Ytbgmbbmnnfmbpab.Lk
open Go.RowKit Go.Sort
set_option linter.unusedVariables false

set_option maxRecDepth 8000 in
set_option maxHeartbeats 4000000 in
theorem does_all {B p q n c : Nat} {m1 m2 : Option Nat} {w : World} {a : Option Addr} {V R : List Hv} {I : It} {v : Hv} {s : T2} {on : Int} (T : Both B w p m1 m2 V I q a n c R) (hv : v.ok w) (hn : n + 1 ≤ 1759218604441) :
    Calls Try.prog 6 #[.pointer (some ⟨p, 0, none⟩), .pointer (some ⟨q, 0, none⟩), .agg #[.int .i64 6, .int .i64 on, .int .u32 v.h.id.1, .int .u32 v.h.id.2, .int .u32 v.h.home, .int .u64 v.h.w, .int .u32 v.h.l, .int .u32 v.h.n, .slice v.ra v.h.rs.length v.rc, .slice v.wa v.h.ws.length v.wc, .string s.1, .string s.2]] w fun e w' => e = .returned (.bool true) ∧ Below w.heap.size w w' := by
  obtain ⟨wx, hwx⟩ : ∃ wx, wx = w.alloc (.cells #[.int .i64 6, .int .i64 on, .int .u32 v.h.id.1, .int .u32 v.h.id.2, .int .u32 v.h.home, .int .u64 v.h.w, .int .u32 v.h.l, .int .u32 v.h.n, .slice v.ra v.h.rs.length v.rc, .slice v.wa v.h.ws.length v.wc, .string s.1, .string s.2] 40) := ⟨_, rfl⟩
  have hbx : Below w.heap.size w wx := by rw [hwx]; exact Below.al (Below.refl _ _) _
  have x0 : wx.cell? ⟨w.heap.size, 0, none⟩ = some (.int .i64 6) := by rw [hwx]; simp [go_sem]
  have x1 : wx.cell? ⟨w.heap.size, 1, none⟩ = some (.int .i64 on) := by rw [hwx]; simp [go_sem]
  have x2 : wx.cell? ⟨w.heap.size, 2, none⟩ = some (.int .u32 v.h.id.1) := by rw [hwx]; simp [go_sem]
  have x3 : wx.cell? ⟨w.heap.size, 3, none⟩ = some (.int .u32 v.h.id.2) := by rw [hwx]; simp [go_sem]
  have x4 : wx.cell? ⟨w.heap.size, 4, none⟩ = some (.int .u32 v.h.home) := by rw [hwx]; simp [go_sem]
  have x5 : wx.cell? ⟨w.heap.size, 5, none⟩ = some (.int .u64 v.h.w) := by rw [hwx]; simp [go_sem]
  have x6 : wx.cell? ⟨w.heap.size, 6, none⟩ = some (.int .u32 v.h.l) := by rw [hwx]; simp [go_sem]
  have x7 : wx.cell? ⟨w.heap.size, 7, none⟩ = some (.int .u32 v.h.n) := by rw [hwx]; simp [go_sem]
  have x8 : wx.cell? ⟨w.heap.size, 8, none⟩ = some (.slice v.ra v.h.rs.length v.rc) := by rw [hwx]; simp [go_sem]
  have x9 : wx.cell? ⟨w.heap.size, 9, none⟩ = some (.slice v.wa v.h.ws.length v.wc) := by rw [hwx]; simp [go_sem]
  have x10 : wx.cell? ⟨w.heap.size, 10, none⟩ = some (.string s.1) := by rw [hwx]; simp [go_sem]
  have x11 : wx.cell? ⟨w.heap.size, 11, none⟩ = some (.string s.2) := by rw [hwx]; simp [go_sem]
  have HBX := hid hbx
  have HT := hid T
  have HV := hid hv
  have CO : Hid (Calls Try.prog 10 #[.agg #[.int .u32 v.h.id.1, .int .u32 v.h.id.2, .int .u32 v.h.home, .int .u64 v.h.w, .int .u32 v.h.l, .int .u32 v.h.n, .slice v.ra v.h.rs.length v.rc, .slice v.wa v.h.ws.length v.wc]] wx fun e w' => ∃ g1 g2, e = .returned (.agg #[.int .u32 v.h.id.1, .int .u32 v.h.id.2, .int .u32 v.h.home, .int .u64 v.h.w, .int .u32 v.h.l, .int .u32 v.h.n, .slice (some ⟨g1, 0, none⟩) v.h.rs.length (v.h.rs.length + 1), .slice (some ⟨g2, 0, none⟩) v.h.ws.length (v.h.ws.length + 1)]) ∧ Room2 wx w' g1 v.h.rs ∧ RoomW wx w' g2 v.h.ws) := copied_is (hv.later hbx)
  clear hbx T hv
  go_enter Try.func6, Try.ntmps6
  go_upto_region 1 with fail
  rw [← hwx]
  clear hwx
  go_wp2_with fail
  refine CO.out.mono ?_
  rintro e w1 ⟨g1, g2, rfl, HR1, HR2⟩
  have HM1 := hid HR1
  have HM2 := hid HR2
  have hb1 := HR2.bl
  replace x0 := cell_later hb1 x0
  replace x1 := cell_later hb1 x1
  replace x2 := cell_later hb1 x2
  replace x3 := cell_later hb1 x3
  replace x4 := cell_later hb1 x4
  replace x5 := cell_later hb1 x5
  replace x6 := cell_later hb1 x6
  replace x7 := cell_later hb1 x7
  replace x8 := cell_later hb1 x8
  replace x9 := cell_later hb1 x9
  replace x10 := cell_later hb1 x10
  replace x11 := cell_later hb1 x11
  have HB1 : Hid (Below w.heap.size w w1) := Below.on HBX.out hb1
  clear CO HR1 HR2 hb1
  obtain ⟨w2, hw2⟩ : ∃ w2, w2 = w1.alloc (.cells #[.int .u32 v.h.id.1, .int .u32 v.h.id.2, .int .u32 v.h.home, .int .u64 v.h.w, .int .u32 v.h.l, .int .u32 v.h.n, .slice (some ⟨g1, 0, none⟩) v.h.rs.length (v.h.rs.length + 1), .slice (some ⟨g2, 0, none⟩) v.h.ws.length (v.h.ws.length + 1)] 36) := ⟨_, rfl⟩
  have hb2 : Below w1.heap.size w1 w2 := by rw [hw2]; exact Below.al (Below.refl _ _) _
  replace x0 := cell_later hb2 x0
  replace x1 := cell_later hb2 x1
  replace x2 := cell_later hb2 x2
  replace x3 := cell_later hb2 x3
  replace x4 := cell_later hb2 x4
  replace x5 := cell_later hb2 x5
  replace x6 := cell_later hb2 x6
  replace x7 := cell_later hb2 x7
  replace x8 := cell_later hb2 x8
  replace x9 := cell_later hb2 x9
  replace x10 := cell_later hb2 x10
  replace x11 := cell_later hb2 x11
  have z0 : w2.cell? ⟨w1.heap.size, 0, none⟩ = some (.int .u32 v.h.id.1) := by rw [hw2]; simp [go_sem]
  have z1 : w2.cell? ⟨w1.heap.size, 1, none⟩ = some (.int .u32 v.h.id.2) := by rw [hw2]; simp [go_sem]
  have z2 : w2.cell? ⟨w1.heap.size, 2, none⟩ = some (.int .u32 v.h.home) := by rw [hw2]; simp [go_sem]
  have z3 : w2.cell? ⟨w1.heap.size, 3, none⟩ = some (.int .u64 v.h.w) := by rw [hw2]; simp [go_sem]
  have z4 : w2.cell? ⟨w1.heap.size, 4, none⟩ = some (.int .u32 v.h.l) := by rw [hw2]; simp [go_sem]
  have z5 : w2.cell? ⟨w1.heap.size, 5, none⟩ = some (.int .u32 v.h.n) := by rw [hw2]; simp [go_sem]
  have z6 : w2.cell? ⟨w1.heap.size, 6, none⟩ = some (.slice (some ⟨g1, 0, none⟩) v.h.rs.length (v.h.rs.length + 1)) := by rw [hw2]; simp [go_sem]
  have z7 : w2.cell? ⟨w1.heap.size, 7, none⟩ = some (.slice (some ⟨g2, 0, none⟩) v.h.ws.length (v.h.ws.length + 1)) := by rw [hw2]; simp [go_sem]
  have H12 := hid hb2
  have HB2 : Hid (Below w.heap.size w w2) := Below.on HB1.out hb2
  clear hb2
  go_upto_region 2 with fail
  rw [← hw2]
  clear hw2
  have AP := hid (all_is (HT.out.later HB2.out).tb (by rw [HT.out.len]; omega))
  go_wp2_with fail
  refine AP.out.mono ?_
  rintro e w3 ⟨a3, n3, c3, U, rfl, hU1, hU2, hU3, hU4, hU5, hb3⟩
  have HTo : Hid (Told (U.map Hv.h) (R.map Hv.h)) := by rw [← HT.out.eq]; exact ⟨hU4, hU5⟩
  have HU3 : Hid (RowH w2.heap.size w3 a3 n3 c3 U) := ⟨hU2, hU1, fun u hu => (hU3 u hu).2⟩
  have HB3 : Hid (Below w.heap.size w w3) := Below.on HB2.out hb3
  have RA := hid (rall_is (HT.out.later HB3.out).rt hn (by rw [← HT.out.eq]; exact HT.out.tb.ok.ids) HTo.out)
  clear AP hU1 hU2 hU3 hU4 hU5 hb3
  go_wp2_with fail
  refine RA.out.mono ?_
  rintro e w4 ⟨a4, c4, U4, rfl, hR4, hE4, _, hb4⟩
  have HB4 : Hid (Below w.heap.size w w4) := Below.on HB3.out hb4.out
  have SL := hid (sameList_is (u := true) (by simp [hE4.out]) (HU3.out.later hb4.out) hR4.out)
  clear RA
  go_wp2_with fail
  refine SL.out.mono ?_
  rintro e w5 ⟨rfl, hb5⟩
  have HB5 : Hid (Below w.heap.size w w5) := Below.on HB4.out hb5
  clear SL hb5
  go_wp2_with fail
  go_ret
  exact ⟨rfl, HB5.out⟩

theorem rowI_later {w W : World} {a : Option Addr} {D : List Ix} (h : RowI w a D) (hb : Below w.heap.size w W) : RowI W a D := fun i hi => by
  obtain ⟨b, off, e, hc⟩ := h i hi
  exact ⟨b, off, e, fun o u ho => cell_later hb (hc o u ho)⟩
theorem blk_mem {L M : List Hd} {s : T2} {aw al an : Int} {i : Ix} (h : Told L M) : i ∈ (L.filter (blkB s aw al an)).map Hd.id ↔ ∃ h ∈ M, h.id = i ∧ blkB s aw al an h = true := by
  constructor
  · intro hi
    obtain ⟨x, hx, rfl⟩ := List.mem_map.1 hi
    obtain ⟨h1, h2⟩ := List.mem_filter.1 hx
    exact ⟨x, h.perm.mem_iff.1 h1, rfl, h2⟩
  · rintro ⟨x, hx, rfl, h2⟩
    exact List.mem_map.2 ⟨x, List.mem_filter.2 ⟨h.perm.mem_iff.2 hx, h2⟩, rfl⟩
theorem blk_rise {L M : List Hd} {s : T2} {aw al an : Int} (hn : (M.map Hd.id).Nodup) (h : Told L M) : ((L.filter (blkB s aw al an)).map Hd.id).Pairwise (fun x y => ltI x y = true) := by
  rw [List.pairwise_map]
  exact (h.lt hn).filter _

set_option maxRecDepth 8000 in
set_option maxHeartbeats 4000000 in
theorem does_blocks {B p q n c : Nat} {m1 m2 : Option Nat} {w : World} {a : Option Addr} {V R : List Hv} {I : It} {v : Hv} {s : T2} {on : Int} (T : Both B w p m1 m2 V I q a n c R) (hv : v.ok w) (hn : n + 1 ≤ 1759218604441) (hI : I.length ≤ 1048576) :
    Calls Try.prog 6 #[.pointer (some ⟨p, 0, none⟩), .pointer (some ⟨q, 0, none⟩), .agg #[.int .i64 5, .int .i64 on, .int .u32 v.h.id.1, .int .u32 v.h.id.2, .int .u32 v.h.home, .int .u64 v.h.w, .int .u32 v.h.l, .int .u32 v.h.n, .slice v.ra v.h.rs.length v.rc, .slice v.wa v.h.ws.length v.wc, .string s.1, .string s.2]] w fun e w' => e = .returned (.bool true) ∧ Below w.heap.size w w' := by
  obtain ⟨wx, hwx⟩ : ∃ wx, wx = w.alloc (.cells #[.int .i64 5, .int .i64 on, .int .u32 v.h.id.1, .int .u32 v.h.id.2, .int .u32 v.h.home, .int .u64 v.h.w, .int .u32 v.h.l, .int .u32 v.h.n, .slice v.ra v.h.rs.length v.rc, .slice v.wa v.h.ws.length v.wc, .string s.1, .string s.2] 40) := ⟨_, rfl⟩
  have hbx : Below w.heap.size w wx := by rw [hwx]; exact Below.al (Below.refl _ _) _
  have x0 : wx.cell? ⟨w.heap.size, 0, none⟩ = some (.int .i64 5) := by rw [hwx]; simp [go_sem]
  have x1 : wx.cell? ⟨w.heap.size, 1, none⟩ = some (.int .i64 on) := by rw [hwx]; simp [go_sem]
  have x2 : wx.cell? ⟨w.heap.size, 2, none⟩ = some (.int .u32 v.h.id.1) := by rw [hwx]; simp [go_sem]
  have x3 : wx.cell? ⟨w.heap.size, 3, none⟩ = some (.int .u32 v.h.id.2) := by rw [hwx]; simp [go_sem]
  have x4 : wx.cell? ⟨w.heap.size, 4, none⟩ = some (.int .u32 v.h.home) := by rw [hwx]; simp [go_sem]
  have x5 : wx.cell? ⟨w.heap.size, 5, none⟩ = some (.int .u64 v.h.w) := by rw [hwx]; simp [go_sem]
  have x6 : wx.cell? ⟨w.heap.size, 6, none⟩ = some (.int .u32 v.h.l) := by rw [hwx]; simp [go_sem]
  have x7 : wx.cell? ⟨w.heap.size, 7, none⟩ = some (.int .u32 v.h.n) := by rw [hwx]; simp [go_sem]
  have x8 : wx.cell? ⟨w.heap.size, 8, none⟩ = some (.slice v.ra v.h.rs.length v.rc) := by rw [hwx]; simp [go_sem]
  have x9 : wx.cell? ⟨w.heap.size, 9, none⟩ = some (.slice v.wa v.h.ws.length v.wc) := by rw [hwx]; simp [go_sem]
  have x10 : wx.cell? ⟨w.heap.size, 10, none⟩ = some (.string s.1) := by rw [hwx]; simp [go_sem]
  have x11 : wx.cell? ⟨w.heap.size, 11, none⟩ = some (.string s.2) := by rw [hwx]; simp [go_sem]
  have HBX := hid hbx
  have HT := hid T
  have HV := hid hv
  have CO : Hid (Calls Try.prog 10 #[.agg #[.int .u32 v.h.id.1, .int .u32 v.h.id.2, .int .u32 v.h.home, .int .u64 v.h.w, .int .u32 v.h.l, .int .u32 v.h.n, .slice v.ra v.h.rs.length v.rc, .slice v.wa v.h.ws.length v.wc]] wx fun e w' => ∃ g1 g2, e = .returned (.agg #[.int .u32 v.h.id.1, .int .u32 v.h.id.2, .int .u32 v.h.home, .int .u64 v.h.w, .int .u32 v.h.l, .int .u32 v.h.n, .slice (some ⟨g1, 0, none⟩) v.h.rs.length (v.h.rs.length + 1), .slice (some ⟨g2, 0, none⟩) v.h.ws.length (v.h.ws.length + 1)]) ∧ Room2 wx w' g1 v.h.rs ∧ RoomW wx w' g2 v.h.ws) := copied_is (hv.later hbx)
  clear hbx T hv
  go_enter Try.func6, Try.ntmps6
  go_upto_region 1 with fail
  rw [← hwx]
  clear hwx
  go_wp2_with fail
  refine CO.out.mono ?_
  rintro e w1 ⟨g1, g2, rfl, HR1, HR2⟩
  have HM1 := hid HR1
  have HM2 := hid HR2
  have hb1 := HR2.bl
  replace x0 := cell_later hb1 x0
  replace x1 := cell_later hb1 x1
  replace x2 := cell_later hb1 x2
  replace x3 := cell_later hb1 x3
  replace x4 := cell_later hb1 x4
  replace x5 := cell_later hb1 x5
  replace x6 := cell_later hb1 x6
  replace x7 := cell_later hb1 x7
  replace x8 := cell_later hb1 x8
  replace x9 := cell_later hb1 x9
  replace x10 := cell_later hb1 x10
  replace x11 := cell_later hb1 x11
  have HB1 : Hid (Below w.heap.size w w1) := Below.on HBX.out hb1
  clear CO HR1 HR2 hb1
  obtain ⟨w2, hw2⟩ : ∃ w2, w2 = w1.alloc (.cells #[.int .u32 v.h.id.1, .int .u32 v.h.id.2, .int .u32 v.h.home, .int .u64 v.h.w, .int .u32 v.h.l, .int .u32 v.h.n, .slice (some ⟨g1, 0, none⟩) v.h.rs.length (v.h.rs.length + 1), .slice (some ⟨g2, 0, none⟩) v.h.ws.length (v.h.ws.length + 1)] 36) := ⟨_, rfl⟩
  have hb2 : Below w1.heap.size w1 w2 := by rw [hw2]; exact Below.al (Below.refl _ _) _
  replace x0 := cell_later hb2 x0
  replace x1 := cell_later hb2 x1
  replace x2 := cell_later hb2 x2
  replace x3 := cell_later hb2 x3
  replace x4 := cell_later hb2 x4
  replace x5 := cell_later hb2 x5
  replace x6 := cell_later hb2 x6
  replace x7 := cell_later hb2 x7
  replace x8 := cell_later hb2 x8
  replace x9 := cell_later hb2 x9
  replace x10 := cell_later hb2 x10
  replace x11 := cell_later hb2 x11
  have z0 : w2.cell? ⟨w1.heap.size, 0, none⟩ = some (.int .u32 v.h.id.1) := by rw [hw2]; simp [go_sem]
  have z1 : w2.cell? ⟨w1.heap.size, 1, none⟩ = some (.int .u32 v.h.id.2) := by rw [hw2]; simp [go_sem]
  have z2 : w2.cell? ⟨w1.heap.size, 2, none⟩ = some (.int .u32 v.h.home) := by rw [hw2]; simp [go_sem]
  have z3 : w2.cell? ⟨w1.heap.size, 3, none⟩ = some (.int .u64 v.h.w) := by rw [hw2]; simp [go_sem]
  have z4 : w2.cell? ⟨w1.heap.size, 4, none⟩ = some (.int .u32 v.h.l) := by rw [hw2]; simp [go_sem]
  have z5 : w2.cell? ⟨w1.heap.size, 5, none⟩ = some (.int .u32 v.h.n) := by rw [hw2]; simp [go_sem]
  have z6 : w2.cell? ⟨w1.heap.size, 6, none⟩ = some (.slice (some ⟨g1, 0, none⟩) v.h.rs.length (v.h.rs.length + 1)) := by rw [hw2]; simp [go_sem]
  have z7 : w2.cell? ⟨w1.heap.size, 7, none⟩ = some (.slice (some ⟨g2, 0, none⟩) v.h.ws.length (v.h.ws.length + 1)) := by rw [hw2]; simp [go_sem]
  have H12 := hid hb2
  have HB2 : Hid (Below w.heap.size w w2) := Below.on HB1.out hb2
  clear hb2
  go_upto_region 2 with fail
  rw [← hw2]
  clear hw2
  obtain ⟨L, hL⟩ := told_ex (R.map Hv.h)
  have HND : Hid (((R.map Hv.h).map Hd.id).Nodup) := by rw [← HT.out.eq]; exact HT.out.tb.ok.ids
  obtain ⟨DL, hDL⟩ : ∃ DL, DL = (L.filter (blkB s v.h.w v.h.l v.h.n)).map Hd.id := ⟨_, rfl⟩
  obtain ⟨N, hN⟩ : ∃ N, DL.length = N := ⟨_, rfl⟩
  have hNn : N ≤ n := by
    have h1 := hL.len
    rw [List.length_map, HT.out.rt.row.len] at h1
    rw [← hN, hDL, List.length_map, ← h1]
    exact List.length_filter_le _ _
  have BP : Hid (∀ W, Below w2.heap.size w2 W → Calls Try.prog 22 #[.pointer (some ⟨p, 0, none⟩), .agg #[.string s.1, .string s.2], .agg #[.int .u64 v.h.w, .int .u32 v.h.l, .int .u32 v.h.n]] W fun e w' => ∃ a3 c3, e = .returned (.slice a3 N c3) ∧ Hid (RowI w' a3 DL) ∧ Below W.heap.size W w') := fun W hb => (blocks_is (s := s) (aw := v.h.w) (al := v.h.l) (an := v.h.n) (HT.out.later (Below.on HB2.out hb)).tb hI).mono fun e w' ⟨a3, n3, c3, D, he, hD1, hD2, hD3, hD4, hb3⟩ => by
    obtain rfl : D = DL := by
      rw [hDL]
      exact rise_uniq hD3.out (blk_rise HND.out hL) (fun i => by rw [hD4.out i, blk_mem hL, HT.out.eq])
    obtain rfl : n3 = N := by rw [← hN, ← hD1.out]
    exact ⟨a3, c3, he, hD2, hb3.out⟩
  have RB : Hid (∀ W, Below w2.heap.size w2 W → Calls Try.prog 23 #[.pointer (some ⟨q, 0, none⟩), .agg #[.string s.1, .string s.2], .agg #[.int .u64 v.h.w, .int .u32 v.h.l, .int .u32 v.h.n]] W fun e w' => ∃ a3 c3, e = .returned (.slice a3 N c3) ∧ Hid (RowI w' a3 DL) ∧ Below W.heap.size W w') := fun W hb => (rblocks_is (s := s) (aw := v.h.w) (al := v.h.l) (an := v.h.n) (HT.out.later (Below.on HB2.out hb)).rt hn HND.out hL).mono fun e w' ⟨a3, n3, c3, D, he, hD1, hD2, hD3, hb3⟩ => by
    obtain rfl : D = DL := by rw [hDL, hD3.out]
    obtain rfl : n3 = N := by rw [← hN, ← hD1.out]
    exact ⟨a3, c3, he, hD2, hb3.out⟩
  have SI : Hid (∀ W a3 c3 a4 c4, RowI W a3 DL → RowI W a4 DL → Calls Try.prog 21 #[.slice a3 N c3, .slice a4 N c4] W fun e w' => e = .returned (.bool true) ∧ Below W.heap.size W w') := fun W a3 c3 a4 c4 h3 h4 => sameids_is hN h3 h4 (by omega)
  clear hL hDL hN hNn hn hI
  go_wp2_with fail
  go_region_held3 (fun w' => w'.cell? ⟨w.heap.size, 10, none⟩ = some (.string s.1) ∧ w'.cell? ⟨w.heap.size, 11, none⟩ = some (.string s.2) ∧ w'.cell? ⟨w1.heap.size, 3, none⟩ = some (.int .u64 v.h.w) ∧ w'.cell? ⟨w1.heap.size, 4, none⟩ = some (.int .u32 v.h.l) ∧ w'.cell? ⟨w1.heap.size, 5, none⟩ = some (.int .u32 v.h.n) ∧ Below w2.heap.size w2 w')
    ((refine (fun (hB : Below w2.heap.size w2 _) => ⟨cell_later hB x10, cell_later hB x11, cell_later hB z3, cell_later hB z4, cell_later hB z5, hB⟩) ?_; (repeat (first | exact Below.refl _ _ | assumption | refine Below.drew ?_ | refine Below.al ?_ _ | refine Below.setCell ?_ (by first | exact Nat.le_refl _ | (simp; omega) | (simp; done)) _ | refine Below.on ?_ (by assumption)))))
    (first
      | (go_at_call 22; refine (BP.out _ (by (repeat (first | exact Below.refl _ _ | assumption | refine Below.drew ?_ | refine Below.al ?_ _ | refine Below.setCell ?_ (by first | exact Nat.le_refl _ | (simp; omega) | (simp; done)) _ | refine Below.on ?_ (by assumption))))).mono ?_; rintro e w3 ⟨a3, c3, rfl, hq3, hb3⟩)
      | (go_at_call 23; refine (RB.out _ (by (repeat (first | exact Below.refl _ _ | assumption | refine Below.drew ?_ | refine Below.al ?_ _ | refine Below.setCell ?_ (by first | exact Nat.le_refl _ | (simp; omega) | (simp; done)) _ | refine Below.on ?_ (by assumption))))).mono ?_; rintro e w4 ⟨a4, c4, rfl, hq4, hb4⟩)
      | (go_at_call 21; refine (SI.out _ _ _ _ _ (rowI_later hq3.out (by (repeat (first | exact Below.refl _ _ | assumption | refine Below.drew ?_ | refine Below.al ?_ _ | refine Below.setCell ?_ (by first | exact Nat.le_refl _ | (simp; omega) | (simp; done)) _ | refine Below.on ?_ (by assumption))))) (rowI_later hq4.out (by (repeat (first | exact Below.refl _ _ | assumption | refine Below.drew ?_ | refine Below.al ?_ _ | refine Below.setCell ?_ (by first | exact Nat.le_refl _ | (simp; omega) | (simp; done)) _ | refine Below.on ?_ (by assumption)))))).mono ?_; rintro e w5 ⟨rfl, hb5⟩))
  all_goals (try go_wp2_with fail)
  all_goals
    have hb25 : Below w2.heap.size w2 w5 := by (repeat (first | exact Below.refl _ _ | assumption | refine Below.drew ?_ | refine Below.al ?_ _ | refine Below.setCell ?_ (by first | exact Nat.le_refl _ | (simp; omega) | (simp; done)) _ | refine Below.on ?_ (by assumption)))
    have HB5 : Hid (Below w.heap.size w w5) := Below.on HB2.out hb25
    go_ret
    exact ⟨rfl, HB5.out⟩
end Go.Proofs.Ytbgmbbmnnfmbpab.Lk
