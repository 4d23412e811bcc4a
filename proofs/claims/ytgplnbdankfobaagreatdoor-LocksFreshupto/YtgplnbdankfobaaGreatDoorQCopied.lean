import Derived.Test.YtgplnbdankfobaaGreatDoorQRoom
/- copied: with room behind its lists. -/
namespace Go.Proofs.YtgplnbdankfobaaGreatDoor
open Go.RowKit Go.Sort
set_option linter.unusedVariables false
theorem Room2.later {w wr w' : World} {g : Nat} {xs : List T2} (h : Room2 w wr g xs) (hb : Below wr.heap.size wr w') : Room2 w w' g xs := by
  obtain ⟨f, h1, h2, h3⟩ := h.cells
  exact ⟨⟨f, h1.later hb, h2, h3⟩, h.loose.later hb h.lt, h.low, Nat.lt_of_lt_of_le h.lt hb.size, Below.on h.bl hb, h.obj.later hb⟩
theorem RoomW.later {w wr w' : World} {g : Nat} {xs : List Wr} (h : RoomW w wr g xs) (hb : Below wr.heap.size wr w') : RoomW w w' g xs := by
  obtain ⟨f, h1, h2, h3⟩ := h.cells
  exact ⟨⟨f, h1.later hb, h2, h3⟩, h.loose.later hb h.lt, h.low, Nat.lt_of_lt_of_le h.lt hb.size, Below.on h.bl hb, h.obj.later hb⟩
theorem Room2.onl {w wr w' : World} {G : Nat → Prop} {g : Nat} {xs : List T2} (h : Room2 w wr g xs) (ho : Onl G wr w') (hg : ¬ G g) (hb : Below w.heap.size w w') : Room2 w w' g xs := by
  obtain ⟨f, h1, h2, h3⟩ := h.cells
  exact ⟨⟨f, h1.onl ho hg, h2, h3⟩, ho.loose hg h.lt h.loose, h.low, Nat.lt_of_lt_of_le h.lt ho.size, hb, h.obj.onl ho hg⟩
theorem RoomW.onl {w wr w' : World} {G : Nat → Prop} {g : Nat} {xs : List Wr} (h : RoomW w wr g xs) (ho : Onl G wr w') (hg : ¬ G g) (hb : Below w.heap.size w w') : RoomW w w' g xs := by
  obtain ⟨f, h1, h2, h3⟩ := h.cells
  exact ⟨⟨f, h1.onl ho hg, h2, h3⟩, ho.loose hg h.lt h.loose, h.low, Nat.lt_of_lt_of_le h.lt ho.size, hb, h.obj.onl ho hg⟩
theorem Room2.from {w w0 wr : World} {g : Nat} {xs : List T2} (h : Room2 w0 wr g xs) (hb : Below w.heap.size w w0) : Room2 w wr g xs := ⟨h.cells, h.loose, Nat.le_trans hb.size h.low, h.lt, Below.on hb h.bl, h.obj⟩
theorem RoomW.from {w w0 wr : World} {g : Nat} {xs : List Wr} (h : RoomW w0 wr g xs) (hb : Below w.heap.size w w0) : RoomW w wr g xs := ⟨h.cells, h.loose, Nat.le_trans hb.size h.low, h.lt, Below.on hb h.bl, h.obj⟩
theorem Room2.row {w wr : World} {g : Nat} {xs : List T2} (h : Room2 w wr g xs) : Row2 wr (some ⟨g, 0, none⟩) xs := by
  obtain ⟨f, h1, h2, h3⟩ := h.cells
  intro i hi
  refine ⟨g, 0, rfl, ?_, ?_⟩
  · rw [Nat.zero_add, (h1 i (by omega)).1, h2 i hi]
  · rw [Nat.zero_add, (h1 i (by omega)).2, h2 i hi]
theorem RoomW.row {w wr : World} {g : Nat} {xs : List Wr} (h : RoomW w wr g xs) : RowW wr (some ⟨g, 0, none⟩) xs := by
  obtain ⟨f, h1, h2, h3⟩ := h.cells
  intro i hi
  refine ⟨g, 0, rfl, ?_, ?_, ?_⟩
  · rw [Nat.zero_add, (h1 i (by omega)).1, h2 i hi]
  · rw [Nat.zero_add, (h1 i (by omega)).2.1, h2 i hi]
  · rw [Nat.zero_add, (h1 i (by omega)).2.2, h2 i hi]

namespace Lk
/-- with lists of its own, each with room behind it -/
def Hv.roomy (v : Hv) (g1 g2 : Nat) : Hv := ⟨v.h, some ⟨g1, 0, none⟩, v.h.rs.length + 1, some ⟨g2, 0, none⟩, v.h.ws.length + 1⟩

theorem room2_ne {w w' : World} {g q : Nat} {xs : List T2} {z : Int} {b c d e f h i : Value} (r : Room2 w w' g xs) (hq : w'.heap[q]? = some (.cells #[.int .u32 z, b, c, d, e, f, h, i] 32)) (e : g = q) : False := by
  subst e
  obtain ⟨f, h1, _⟩ := r.cells
  have h2 := (h1 0 (by omega)).1
  rw [show w'.cell? ⟨g, 0 * 2, none⟩ = some (.int .u32 z) from cell_of_obj hq rfl] at h2
  cases h2
theorem roomW_ne {w w' : World} {g q : Nat} {xs : List Wr} {z : Int} {b c d e f h i : Value} (r : RoomW w w' g xs) (hq : w'.heap[q]? = some (.cells #[.int .u32 z, b, c, d, e, f, h, i] 32)) (e : g = q) : False := by
  subst e
  obtain ⟨f, h1, _⟩ := r.cells
  have h2 := (h1 0 (by omega)).1
  rw [show w'.cell? ⟨g, 0 * 3, none⟩ = some (.int .u32 z) from cell_of_obj hq rfl] at h2
  cases h2

set_option maxHeartbeats 2000000 in
theorem copied_is {w : World} {v : Hv} (h : v.ok w) :
    Calls Tryz.prog 6 #[v.val] w fun e w' => ∃ g1 g2, e = .returned (v.roomy g1 g2).val ∧ Room2 w w' g1 v.h.rs ∧ RoomW w w' g2 v.h.ws := by
  obtain ⟨⟨⟨vc, vs⟩, home, vw, vl, vn, rs, ws⟩, ra, rc, wa, wk⟩ := v
  obtain ⟨hr, hw, hrl, hwl⟩ := h
  simp only at hr hw hrl hwl
  obtain ⟨wx, hwx⟩ : ∃ wx, wx = (w.alloc (.cells #[.int .u32 vc, .int .u32 vs, .int .u32 home, .int .u64 vw, .int .u32 vl, .int .u32 vn, .slice ra rs.length rc, .slice wa ws.length wk] 32)).alloc (.cells #[.int .u32 0, .int .u32 0, .int .u32 0, .int .u64 0, .int .u32 0, .int .u32 0, .slice none 0 0, .slice none 0 0] 32) := ⟨_, rfl⟩
  have hbx : Below w.heap.size w wx := by rw [hwx]; exact Below.al (Below.al (Below.refl _ _) _) _
  have hsz : w.heap.size + 1 < wx.heap.size := by rw [hwx]; simp
  have hb0 : wx.heap[w.heap.size]? = some (.cells #[.int .u32 vc, .int .u32 vs, .int .u32 home, .int .u64 vw, .int .u32 vl, .int .u32 vn, .slice ra rs.length rc, .slice wa ws.length wk] 32) := by
    rw [hwx, (MapKept.heap_alloc _ _).2 _ (by simp)]
    exact (MapKept.heap_alloc _ _).1
  have hz0 : wx.heap[w.heap.size + 1]? = some (.cells #[.int .u32 0, .int .u32 0, .int .u32 0, .int .u64 0, .int .u32 0, .int .u32 0, .slice none 0 0, .slice none 0 0] 32) := by
    rw [hwx, show w.heap.size + 1 = (w.alloc (.cells #[.int .u32 vc, .int .u32 vs, .int .u32 home, .int .u64 vw, .int .u32 vl, .int .u32 vn, .slice ra rs.length rc, .slice wa ws.length wk] 32)).heap.size by simp]
    exact (MapKept.heap_alloc _ _).1
  have x6 : wx.cell? ⟨w.heap.size, 6, none⟩ = some (.slice ra rs.length rc) := cell_of_obj hb0 rfl
  have RD := hid (roomReads_is (c := rc) (hr.later hbx) (by omega))
  have HB0 := hid hb0
  have HZ0 := hid hz0
  have HW := hid hw
  have HBX := hid hbx
  clear hb0 hz0 hr hw
  go_enter Tryz.func6, Tryz.ntmps6
  go_wp2_with fail
  rw [← hwx]
  clear hwx
  refine RD.out.mono ?_
  rintro e w1 ⟨g1, rfl, R1⟩
  have hb1 : w1.heap[w.heap.size]? = some (.cells #[.int .u32 vc, .int .u32 vs, .int .u32 home, .int .u64 vw, .int .u32 vl, .int .u32 vn, .slice ra rs.length rc, .slice wa ws.length wk] 32) := (R1.bl.block _ (by omega)).trans HB0.out
  have hz1 : w1.heap[w.heap.size + 1]? = some (.cells #[.int .u32 0, .int .u32 0, .int .u32 0, .int .u64 0, .int .u32 0, .int .u32 0, .slice none 0 0, .slice none 0 0] 32) := (R1.bl.block _ hsz).trans HZ0.out
  have y6 : w1.cell? ⟨w.heap.size, 6, none⟩ = some (.slice ra rs.length rc) := cell_of_obj hb1 rfl
  have y7 : w1.cell? ⟨w.heap.size, 7, none⟩ = some (.slice wa ws.length wk) := cell_of_obj hb1 rfl
  have f1 : ∀ o, w1.frozen? ⟨w.heap.size, o, none⟩ = false := fun o => by simp [World.frozen?, hb1]
  obtain ⟨w2, hw2⟩ : ∃ w2, w2 = w1.setCell ⟨w.heap.size, 6, none⟩ (.slice (some ⟨g1, 0, none⟩) rs.length (rs.length + 1)) := ⟨_, rfl⟩
  have o12 : Onl (fun b => b = w.heap.size) w1 w2 := by rw [hw2]; exact Onl.set (F := fun b => b = w.heap.size) (Onl.refl _ _) rfl _ _
  have hb2 : w2.heap[w.heap.size]? = some (.cells #[.int .u32 vc, .int .u32 vs, .int .u32 home, .int .u64 vw, .int .u32 vl, .int .u32 vn, .slice (some ⟨g1, 0, none⟩) rs.length (rs.length + 1), .slice wa ws.length wk] 32) := by rw [hw2]; exact heap_setCell_same _ _ _ _ _ _ hb1
  have hz2 : w2.heap[w.heap.size + 1]? = some (.cells #[.int .u32 0, .int .u32 0, .int .u32 0, .int .u64 0, .int .u32 0, .int .u32 0, .slice none 0 0, .slice none 0 0] 32) := (o12.block _ (by have := R1.bl.size; omega) (by omega)).trans hz1
  have hB2 : Below w.heap.size w w2 := by
    have := Below.on HBX.out R1.bl
    rw [hw2]; exact Below.setCell this (Nat.le_refl _) _
  have R2 : Room2 w w2 g1 rs := (R1.from HBX.out).onl o12 (by have := R1.low; omega) hB2
  have WD := hid (roomWrites_is (c := wk) (HW.out.later hB2) (by omega))
  have HR2 := hid R2
  have HB2 := hid hB2
  have HK2 := hid hb2
  have HZ2 := hid hz2
  have hs2 : w.heap.size + 1 < w2.heap.size := by have := R1.bl.size; have := o12.size; omega
  clear R1 R2 o12 hB2 hb2 hz2 hb1 hz1 x6 RD HB0 HZ0 HW
  go_wp2_with fail
  rw [← hw2]
  clear hw2 f1 y6 y7
  refine WD.out.mono ?_
  rintro e w3 ⟨g2, rfl, R3⟩
  have hb3 : w3.heap[w.heap.size]? = some (.cells #[.int .u32 vc, .int .u32 vs, .int .u32 home, .int .u64 vw, .int .u32 vl, .int .u32 vn, .slice (some ⟨g1, 0, none⟩) rs.length (rs.length + 1), .slice wa ws.length wk] 32) := (R3.bl.block _ (by omega)).trans HK2.out
  have hz3 : w3.heap[w.heap.size + 1]? = some (.cells #[.int .u32 0, .int .u32 0, .int .u32 0, .int .u64 0, .int .u32 0, .int .u32 0, .slice none 0 0, .slice none 0 0] 32) := (R3.bl.block _ hs2).trans HZ2.out
  obtain ⟨w4, hw4⟩ : ∃ w4, w4 = w3.setCell ⟨w.heap.size, 7, none⟩ (.slice (some ⟨g2, 0, none⟩) ws.length (ws.length + 1)) := ⟨_, rfl⟩
  have o34 : Onl (fun b => b = w.heap.size) w3 w4 := by rw [hw4]; exact Onl.set (F := fun b => b = w.heap.size) (Onl.refl _ _) rfl _ _
  have hb4 : w4.heap[w.heap.size]? = some (.cells #[.int .u32 vc, .int .u32 vs, .int .u32 home, .int .u64 vw, .int .u32 vl, .int .u32 vn, .slice (some ⟨g1, 0, none⟩) rs.length (rs.length + 1), .slice (some ⟨g2, 0, none⟩) ws.length (ws.length + 1)] 32) := by rw [hw4]; exact heap_setCell_same _ _ _ _ _ _ hb3
  have hs3 : w.heap.size + 1 < w3.heap.size := Nat.lt_of_lt_of_le hs2 R3.bl.size
  have hz4 : w4.heap[w.heap.size + 1]? = some (.cells #[.int .u32 0, .int .u32 0, .int .u32 0, .int .u64 0, .int .u32 0, .int .u32 0, .slice none 0 0, .slice none 0 0] 32) := (o34.block _ hs3 (by omega)).trans hz3
  have hB4 : Below w.heap.size w w4 := by rw [hw4]; exact Below.setCell (Below.on HB2.out R3.bl) (Nat.le_refl _) _
  have R4 : Room2 w w4 g1 rs := (HR2.out.later R3.bl).onl o34 (by have := HR2.out.low; have := HR2.out.lt; intro e; subst e; exact room2_ne HR2.out HK2.out rfl) hB4
  have W4 : RoomW w w4 g2 ws := (R3.from HB2.out).onl o34 (by have := R3.low; omega) hB4
  have y0 : w3.cell? ⟨w.heap.size, 0, none⟩ = some (.int .u32 vc) := cell_of_obj hb3 rfl
  have y1 : w3.cell? ⟨w.heap.size, 1, none⟩ = some (.int .u32 vs) := cell_of_obj hb3 rfl
  have y2 : w3.cell? ⟨w.heap.size, 2, none⟩ = some (.int .u32 home) := cell_of_obj hb3 rfl
  have y3 : w3.cell? ⟨w.heap.size, 3, none⟩ = some (.int .u64 vw) := cell_of_obj hb3 rfl
  have y4 : w3.cell? ⟨w.heap.size, 4, none⟩ = some (.int .u32 vl) := cell_of_obj hb3 rfl
  have y5 : w3.cell? ⟨w.heap.size, 5, none⟩ = some (.int .u32 vn) := cell_of_obj hb3 rfl
  have y6 : w3.cell? ⟨w.heap.size, 6, none⟩ = some (.slice (some ⟨g1, 0, none⟩) rs.length (rs.length + 1)) := cell_of_obj hb3 rfl
  have y7 : w3.cell? ⟨w.heap.size, 7, none⟩ = some (.slice wa ws.length wk) := cell_of_obj hb3 rfl
  have f3 : ∀ o, w3.frozen? ⟨w.heap.size, o, none⟩ = false := fun o => by simp [World.frozen?, hb3]
  have r0 : w3.cell? ⟨w.heap.size + 1, 0, none⟩ = some (.int .u32 0) := cell_of_obj hz3 rfl
  have r1 : w3.cell? ⟨w.heap.size + 1, 1, none⟩ = some (.int .u32 0) := cell_of_obj hz3 rfl
  have r2 : w3.cell? ⟨w.heap.size + 1, 2, none⟩ = some (.int .u32 0) := cell_of_obj hz3 rfl
  have r3 : w3.cell? ⟨w.heap.size + 1, 3, none⟩ = some (.int .u64 0) := cell_of_obj hz3 rfl
  have r4 : w3.cell? ⟨w.heap.size + 1, 4, none⟩ = some (.int .u32 0) := cell_of_obj hz3 rfl
  have r5 : w3.cell? ⟨w.heap.size + 1, 5, none⟩ = some (.int .u32 0) := cell_of_obj hz3 rfl
  have r6 : w3.cell? ⟨w.heap.size + 1, 6, none⟩ = some (.slice none 0 0) := cell_of_obj hz3 rfl
  have r7 : w3.cell? ⟨w.heap.size + 1, 7, none⟩ = some (.slice none 0 0) := cell_of_obj hz3 rfl
  have f4 : ∀ o, w3.frozen? ⟨w.heap.size + 1, o, none⟩ = false := fun o => by simp [World.frozen?, hz3]
  obtain ⟨w8, hw8⟩ : ∃ w8, w8 = ((((((((w4.setCell ⟨w.heap.size + 1, 0, none⟩ (.int .u32 vc)).setCell ⟨w.heap.size + 1, 1, none⟩ (.int .u32 vs)).setCell ⟨w.heap.size + 1, 2, none⟩ (.int .u32 home)).setCell ⟨w.heap.size + 1, 3, none⟩ (.int .u64 vw)).setCell ⟨w.heap.size + 1, 4, none⟩ (.int .u32 vl)).setCell ⟨w.heap.size + 1, 5, none⟩ (.int .u32 vn)).setCell ⟨w.heap.size + 1, 6, none⟩ (.slice (some ⟨g1, 0, none⟩) rs.length (rs.length + 1))).setCell ⟨w.heap.size + 1, 7, none⟩ (.slice (some ⟨g2, 0, none⟩) ws.length (ws.length + 1))) := ⟨_, rfl⟩
  have o48 : Onl (fun b => b = w.heap.size + 1) w4 w8 := by
    rw [hw8]
    repeat refine Onl.set (F := fun b => b = w.heap.size + 1) ?_ rfl _ _
    exact Onl.refl _ _
  have hblk8 : w8.heap[w.heap.size + 1]? = some (.cells #[.int .u32 vc, .int .u32 vs, .int .u32 home, .int .u64 vw, .int .u32 vl, .int .u32 vn, .slice (some ⟨g1, 0, none⟩) rs.length (rs.length + 1), .slice (some ⟨g2, 0, none⟩) ws.length (ws.length + 1)] 32) := by
    rw [hw8]
    exact (heap_setCell_same _ _ _ _ _ _ (heap_setCell_same _ _ _ _ _ _ (heap_setCell_same _ _ _ _ _ _ (heap_setCell_same _ _ _ _ _ _ (heap_setCell_same _ _ _ _ _ _ (heap_setCell_same _ _ _ _ _ _ (heap_setCell_same _ _ _ _ _ _ (heap_setCell_same _ _ _ _ _ _ hz4))))))))
  have hB8 : Below w.heap.size w w8 := by
    rw [hw8]
    repeat refine Below.setCell ?_ (by exact Nat.le_succ _) _
    exact hB4
  have R8 : Room2 w w8 g1 rs := R4.onl o48 (fun e => by subst e; exact room2_ne R4 hz4 rfl) hB8
  have W8 : RoomW w w8 g2 ws := W4.onl o48 (fun e => by subst e; exact roomW_ne W4 hz4 rfl) hB8
  have t0 : w8.cell? ⟨w.heap.size + 1, 0, none⟩ = some (.int .u32 vc) := cell_of_obj hblk8 rfl
  have t1 : w8.cell? ⟨w.heap.size + 1, 1, none⟩ = some (.int .u32 vs) := cell_of_obj hblk8 rfl
  have t2 : w8.cell? ⟨w.heap.size + 1, 2, none⟩ = some (.int .u32 home) := cell_of_obj hblk8 rfl
  have t3 : w8.cell? ⟨w.heap.size + 1, 3, none⟩ = some (.int .u64 vw) := cell_of_obj hblk8 rfl
  have t4 : w8.cell? ⟨w.heap.size + 1, 4, none⟩ = some (.int .u32 vl) := cell_of_obj hblk8 rfl
  have t5 : w8.cell? ⟨w.heap.size + 1, 5, none⟩ = some (.int .u32 vn) := cell_of_obj hblk8 rfl
  have t6 : w8.cell? ⟨w.heap.size + 1, 6, none⟩ = some (.slice (some ⟨g1, 0, none⟩) rs.length (rs.length + 1)) := cell_of_obj hblk8 rfl
  have t7 : w8.cell? ⟨w.heap.size + 1, 7, none⟩ = some (.slice (some ⟨g2, 0, none⟩) ws.length (ws.length + 1)) := cell_of_obj hblk8 rfl
  rw [hw4] at hw8
  have HR8 := hid R8
  have HW8 := hid W8
  clear R3 R4 W4 o34 o48 hb4 hz4 hB4 hblk8 hB8 R8 W8 hb3 hz3 hw4
  go_wp2_with fail
  rw [← hw8]
  clear hw8
  refine bodyPost_ret (v := .agg #[.int .u32 vc, .int .u32 vs, .int .u32 home, .int .u64 vw, .int .u32 vl, .int .u32 vn, .slice (some ⟨g1, 0, none⟩) rs.length (rs.length + 1), .slice (some ⟨g2, 0, none⟩) ws.length (ws.length + 1)]) (by simp [results, Tryz.results6, go_sem, t0, t1, t2, t3, t4, t5, t6, t7]) rfl ⟨g1, g2, rfl, HR8.out, HW8.out⟩
end Lk
end Go.Proofs.YtgplnbdankfobaaGreatDoor
