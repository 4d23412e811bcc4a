import Derived.Test.YtbgmbbmnnfmbpabQIds
/- The law's left. -/
namespace Go.Proofs.Ytbgmbbmnnfmbpab.Lk
open Go.RowKit Go.Sort
set_option linter.unusedVariables false

/-- a list and the mark behind it -/
def Rm2 (w : World) (g : Nat) (xs : List T2) : Prop := ∃ f, Cells2 w g f (xs.length + 1) ∧ (∀ i, i < xs.length → f i = nth2 xs i) ∧ f xs.length = (spareS, ⟨#[]⟩)
def RmW (w : World) (g : Nat) (xs : List Wr) : Prop := ∃ f, CellsW w g f (xs.length + 1) ∧ (∀ i, i < xs.length → f i = nthW xs i) ∧ f xs.length = ⟨spareS, false, ⟨#[]⟩⟩

set_option maxRecDepth 8000 in
set_option maxHeartbeats 4000000 in
theorem left_is {w : World} {v : Hv} {g1 g2 : Nat} (h : v.ok w) (hr : (v.roomy g1 g2).ok w) (h1 : Rm2 w g1 v.h.rs) (h2 : RmW w g2 v.h.ws) :
    Calls Try.prog 13 #[.agg #[.int .u32 v.h.id.1, .int .u32 v.h.id.2, .int .u32 v.h.home, .int .u64 v.h.w, .int .u32 v.h.l, .int .u32 v.h.n, .slice (some ⟨g1, 0, none⟩) v.h.rs.length (v.h.rs.length + 1), .slice (some ⟨g2, 0, none⟩) v.h.ws.length (v.h.ws.length + 1)], .agg #[.int .u32 v.h.id.1, .int .u32 v.h.id.2, .int .u32 v.h.home, .int .u64 v.h.w, .int .u32 v.h.l, .int .u32 v.h.n, .slice v.ra v.h.rs.length v.rc, .slice v.wa v.h.ws.length v.wc]] w fun e w' => e = .returned (.bool true) ∧ Below w.heap.size w w' := by
  obtain ⟨f1, hf1, _, hm1⟩ := h1
  obtain ⟨f2, hf2, _, hm2⟩ := h2
  have m0 := hf1 v.h.rs.length (by omega)
  have m1 := hf2 v.h.ws.length (by omega)
  rw [hm1] at m0
  rw [hm2] at m1
  obtain ⟨wx, hwx⟩ : ∃ wx, wx = (w.alloc (.cells #[.int .u32 v.h.id.1, .int .u32 v.h.id.2, .int .u32 v.h.home, .int .u64 v.h.w, .int .u32 v.h.l, .int .u32 v.h.n, .slice (some ⟨g1, 0, none⟩) v.h.rs.length (v.h.rs.length + 1), .slice (some ⟨g2, 0, none⟩) v.h.ws.length (v.h.ws.length + 1)] 36)).alloc (.cells #[.int .u32 v.h.id.1, .int .u32 v.h.id.2, .int .u32 v.h.home, .int .u64 v.h.w, .int .u32 v.h.l, .int .u32 v.h.n, .slice v.ra v.h.rs.length v.rc, .slice v.wa v.h.ws.length v.wc] 36) := ⟨_, rfl⟩
  have hbx : Below w.heap.size w wx := by rw [hwx]; exact Below.al (Below.al (Below.refl _ _) _) _
  have x0 : wx.cell? ⟨w.heap.size, 0, none⟩ = some (.int .u32 v.h.id.1) := by rw [hwx]; simp [go_sem]
  have x1 : wx.cell? ⟨w.heap.size, 1, none⟩ = some (.int .u32 v.h.id.2) := by rw [hwx]; simp [go_sem]
  have x2 : wx.cell? ⟨w.heap.size, 2, none⟩ = some (.int .u32 v.h.home) := by rw [hwx]; simp [go_sem]
  have x3 : wx.cell? ⟨w.heap.size, 3, none⟩ = some (.int .u64 v.h.w) := by rw [hwx]; simp [go_sem]
  have x4 : wx.cell? ⟨w.heap.size, 4, none⟩ = some (.int .u32 v.h.l) := by rw [hwx]; simp [go_sem]
  have x5 : wx.cell? ⟨w.heap.size, 5, none⟩ = some (.int .u32 v.h.n) := by rw [hwx]; simp [go_sem]
  have x6 : wx.cell? ⟨w.heap.size, 6, none⟩ = some (.slice (some ⟨g1, 0, none⟩) v.h.rs.length (v.h.rs.length + 1)) := by rw [hwx]; simp [go_sem]
  have x7 : wx.cell? ⟨w.heap.size, 7, none⟩ = some (.slice (some ⟨g2, 0, none⟩) v.h.ws.length (v.h.ws.length + 1)) := by rw [hwx]; simp [go_sem]
  have y0 : wx.cell? ⟨w.heap.size + 1, 0, none⟩ = some (.int .u32 v.h.id.1) := by rw [hwx]; simp [go_sem]
  have y1 : wx.cell? ⟨w.heap.size + 1, 1, none⟩ = some (.int .u32 v.h.id.2) := by rw [hwx]; simp [go_sem]
  have y2 : wx.cell? ⟨w.heap.size + 1, 2, none⟩ = some (.int .u32 v.h.home) := by rw [hwx]; simp [go_sem]
  have y3 : wx.cell? ⟨w.heap.size + 1, 3, none⟩ = some (.int .u64 v.h.w) := by rw [hwx]; simp [go_sem]
  have y4 : wx.cell? ⟨w.heap.size + 1, 4, none⟩ = some (.int .u32 v.h.l) := by rw [hwx]; simp [go_sem]
  have y5 : wx.cell? ⟨w.heap.size + 1, 5, none⟩ = some (.int .u32 v.h.n) := by rw [hwx]; simp [go_sem]
  have y6 : wx.cell? ⟨w.heap.size + 1, 6, none⟩ = some (.slice v.ra v.h.rs.length v.rc) := by rw [hwx]; simp [go_sem]
  have y7 : wx.cell? ⟨w.heap.size + 1, 7, none⟩ = some (.slice v.wa v.h.ws.length v.wc) := by rw [hwx]; simp [go_sem]
  have hrl := h.rl
  have hwl := h.wl
  have HBX := hid hbx
  have SM : Hid (Calls Try.prog 20 #[.agg #[.int .u32 v.h.id.1, .int .u32 v.h.id.2, .int .u32 v.h.home, .int .u64 v.h.w, .int .u32 v.h.l, .int .u32 v.h.n, .slice (some ⟨g1, 0, none⟩) v.h.rs.length (v.h.rs.length + 1), .slice (some ⟨g2, 0, none⟩) v.h.ws.length (v.h.ws.length + 1)], .agg #[.int .u32 v.h.id.1, .int .u32 v.h.id.2, .int .u32 v.h.home, .int .u64 v.h.w, .int .u32 v.h.l, .int .u32 v.h.n, .slice v.ra v.h.rs.length v.rc, .slice v.wa v.h.ws.length v.wc]] wx fun e w' => e = .returned (.bool true) ∧ Below wx.heap.size wx w') := same_is (x := v.roomy g1 g2) (y := v) (u := true) (by simp [Hv.roomy]) (hr.later hbx) (h.later hbx)
  clear hbx hf1 hf2 hm1 hm2
  go_enter Try.func13, Try.ntmps13
  go_upto_region 1 with fail
  rw [← hwx]
  clear hwx
  go_wp2_with fail
  refine SM.out.mono ?_
  rintro e w2 ⟨rfl, hb2⟩
  have y6 := cell_later hb2 y6
  have y7 := cell_later hb2 y7
  have hb02 : Below w.heap.size w w2 := Below.on HBX.out hb2
  have n0 := cell_later hb02 m0.1
  have n1 := cell_later hb02 m0.2
  have n2 := cell_later hb02 m1.1
  have n3 := cell_later hb02 m1.2.1
  have n4 := cell_later hb02 m1.2.2
  have HB2 := hid hb02
  clear SM m0 m1 hb02 hb2 x0 x1 x2 x3 x4 x5 x6 x7 y0 y1 y2 y3 y4 y5
  have he : (spareS == (⟨#[115, 112, 97, 114, 101]⟩ : ByteArray)) = true := by decide
  unfold spareS at n0 n2
  go_wp2_with fail
  go_ret
  exact ⟨rfl, HB2.out⟩
end Go.Proofs.Ytbgmbbmnnfmbpab.Lk
