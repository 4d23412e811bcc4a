import Derived.Test.YtngnifemghahkaaGRoom
namespace Go.Proofs.Ytngnifemghahkaa
open Go.RowKit Go.Sort
set_option linter.unusedVariables false

theorem Room2.later {w wr w' : World} {g : Nat} {xs : List T2} (h : Room2 w wr g xs) (hb : Below wr.heap.size wr w') : Room2 w w' g xs := by
  obtain ⟨f, h1, h2, h3⟩ := h.cells
  exact ⟨⟨f, h1.later hb, h2, h3⟩, h.loose.later hb h.lt, h.low, Nat.lt_of_lt_of_le h.lt hb.size, Below.on h.bl hb⟩
theorem RoomW.later {w wr w' : World} {g : Nat} {xs : List Wr} (h : RoomW w wr g xs) (hb : Below wr.heap.size wr w') : RoomW w w' g xs := by
  obtain ⟨f, h1, h2, h3⟩ := h.cells
  exact ⟨⟨f, h1.later hb, h2, h3⟩, h.loose.later hb h.lt, h.low, Nat.lt_of_lt_of_le h.lt hb.size, Below.on h.bl hb⟩
theorem Room2.onl {w wr w' : World} {G : Nat → Prop} {g : Nat} {xs : List T2} (h : Room2 w wr g xs) (ho : Onl G wr w') (hg : ¬ G g) (hb : Below w.heap.size w w') : Room2 w w' g xs := by
  obtain ⟨f, h1, h2, h3⟩ := h.cells
  exact ⟨⟨f, h1.onl ho hg, h2, h3⟩, ho.loose hg h.lt h.loose, h.low, Nat.lt_of_lt_of_le h.lt ho.size, hb⟩
theorem RoomW.onl {w wr w' : World} {G : Nat → Prop} {g : Nat} {xs : List Wr} (h : RoomW w wr g xs) (ho : Onl G wr w') (hg : ¬ G g) (hb : Below w.heap.size w w') : RoomW w w' g xs := by
  obtain ⟨f, h1, h2, h3⟩ := h.cells
  exact ⟨⟨f, h1.onl ho hg, h2, h3⟩, ho.loose hg h.lt h.loose, h.low, Nat.lt_of_lt_of_le h.lt ho.size, hb⟩
theorem Room2.from {w w0 wr : World} {g : Nat} {xs : List T2} (h : Room2 w0 wr g xs) (hb : Below w.heap.size w w0) : Room2 w wr g xs := ⟨h.cells, h.loose, Nat.le_trans hb.size h.low, h.lt, Below.on hb h.bl⟩
theorem RoomW.from {w w0 wr : World} {g : Nat} {xs : List Wr} (h : RoomW w0 wr g xs) (hb : Below w.heap.size w w0) : RoomW w wr g xs := ⟨h.cells, h.loose, Nat.le_trans hb.size h.low, h.lt, Below.on hb h.bl⟩
theorem Room2.row {w wr : World} {g : Nat} {xs : List T2} (h : Room2 w wr g xs) : Row2 wr (some ⟨g, 0, none⟩) xs := by
  obtain ⟨f, h1, h2, h3⟩ := h.cells
  intro i hi
  refine ⟨g, 0, rfl, ?_, ?_⟩
  · rw [Nat.zero_add, (h1 i (by omega)).1, h2 i hi]
  · rw [Nat.zero_add, (h1 i (by omega)).2, h2 i hi]
theorem RoomW.row {w wr : World} {g : Nat} {xs : List Wr} (h : RoomW w wr g xs) : RowW wr (some ⟨g, 0, none⟩) xs := by
  obtain ⟨f, h1, h2, h3⟩ := h.cells
  intro i hi
  refine ⟨g, 0, rfl, ?_, ?_, ?_⟩
  · rw [Nat.zero_add, (h1 i (by omega)).1, h2 i hi]
  · rw [Nat.zero_add, (h1 i (by omega)).2.1, h2 i hi]
  · rw [Nat.zero_add, (h1 i (by omega)).2.2, h2 i hi]
/-- the record with lists of its own -/
def Rg.own (m : Rg) (g1 g2 : Nat) : Rg := { m with ra := some ⟨g1, 0, none⟩, rc := m.rs.length + 1, wa := some ⟨g2, 0, none⟩, wc := m.ws.length + 1 }

theorem BoxG.onl {w w' : World} {G : Nat → Prop} {q : Nat} {m : Rg} (h : BoxG w q m) (ho : Onl G w w') (hq : ¬ G q) : BoxG w' q m :=
  ⟨ho.cell hq h.c0, ho.cell hq h.c1, ho.cell hq h.c2, ho.cell hq h.c3, ho.cell hq h.c4, ho.cell hq h.c5, ho.cell hq h.c6, ho.cell hq h.c7, ho.cell hq h.c8, ho.cell hq h.c9, ho.cell hq h.c10, ho.cell hq h.c11⟩
/-- the box's list of reads is another one -/
theorem BoxG.reads {w : World} {q : Nat} {m : Rg} (h : BoxG w q m) (a : Option Addr) (c : Nat) : BoxG (w.setCell ⟨q, 9, none⟩ (.slice a m.rs.length c)) q { m with ra := a, rc := c } :=
  ⟨cell_setc (by simp) h.c0, cell_setc (by simp) h.c1, cell_setc (by simp) h.c2, cell_setc (by simp) h.c3, cell_setc (by simp) h.c4, cell_setc (by simp) h.c5, cell_setc (by simp) h.c6, cell_setc (by simp) h.c7, cell_setc (by simp) h.c8, World.cell?_setCell_same _ _ _ h.c9, cell_setc (by simp) h.c10, cell_setc (by simp) h.c11⟩

set_option maxHeartbeats 8000000 in
set_option maxRecDepth 4000 in
theorem copied_is {m : Rg} {w : World} (h : m.ok w) (hl : m.rs.length + 1 ≤ 8796093022208) (hl2 : m.ws.length + 1 ≤ 7036874417766) :
    Calls Try.prog 4 #[m.val] w fun e w' => ∃ g1 g2, e = .returned (m.own g1 g2).val ∧ Room2 w w' g1 m.rs ∧ RoomW w w' g2 m.ws ∧ g1 ≠ g2 := by
  obtain ⟨wa, hwa⟩ : ∃ wa, wa = (w.alloc (.cells m.cells 33)).alloc (.cells Rg.zero.cells 33) := ⟨_, rfl⟩
  have hba : Below w.heap.size w wa := by rw [hwa]; exact Below.al (Below.al (Below.refl _ _) _) _
  have hbx : BoxG wa w.heap.size m := by rw [hwa]; exact (boxG w m _).later (Below.al (Below.refl _ _) _)
  have hbz : BoxG wa (w.heap.size + 1) Rg.zero := by
    rw [hwa]
    have := boxG (w.alloc (.cells m.cells 33)) Rg.zero 33
    rwa [World.size_alloc] at this
  have hlo : Loose wa w.heap.size := by rw [hwa]; intro o; simp [go_sem]
  have hlz : Loose wa (w.heap.size + 1) := by rw [hwa]; intro o; simp [go_sem]
  have hsz : wa.heap.size = w.heap.size + 2 := by rw [hwa]; simp
  have HOK := hid (h.later hba)
  have HOW := hid h.w
  have HB := hid hbx
  have HZ := hid hbz
  have HBA := hid hba
  have HW := hid hwa
  have HLO := hid hlo
  have HLZ := hid hlz
  have HSZ := hid hsz
  clear h hba hbx hbz hwa hlo hlz hsz
  go_enter Try.func4, Try.ntmps4
  go_wp2_with fail
  have hwz : (w.alloc (.cells m.cells 33)).alloc (.cells #[.int .i64 0, .int .u64 0, .int .u32 0, .int .u32 0, .int .u32 0, .int .i64 0, .int .u64 0, .int .u32 0, .int .u32 0, .slice none 0 0, .slice none 0 0, .string ⟨#[]⟩] 33) = wa := HW.out.symm
  rw [hwz]
  clear hwz
  refine (roomReads_is HOK.out.r hl).mono ?_
  rintro e w1 ⟨g1, rfl, hr1⟩
  have hb1 := hr1.bl
  have H1 := hid hr1
  have hq : w.heap.size < wa.heap.size := by rw [HSZ.out]; omega
  have hqz : w.heap.size + 1 < wa.heap.size := by rw [HSZ.out]; omega
  have hg1 : ¬ g1 = w.heap.size := by have := hr1.low; omega
  have H0 : Hid (w.heap.size + 2 ≤ g1) := by have := hr1.low; have := HSZ.out; show _ ≤ _; omega
  have c9 := cell_later hb1 HB.out.c9
  have c10 := cell_later hb1 HB.out.c10
  have f9 : w1.frozen? ⟨w.heap.size, 9, none⟩ = false := (HLO.out.later hb1 hq) 9
  have HB1 := hid ((HB.out.later hb1).reads (some ⟨g1, 0, none⟩) (m.rs.length + 1))
  have o1 : Onl (fun k => k = w.heap.size) w1 (w1.setCell ⟨w.heap.size, 9, none⟩ (.slice (some ⟨g1, 0, none⟩) m.rs.length (m.rs.length + 1))) := (Onl.refl (fun k => k = w.heap.size) w1).set (p := w.heap.size) rfl _ _
  have hbb : Below w.heap.size w (w1.setCell ⟨w.heap.size, 9, none⟩ (.slice (some ⟨g1, 0, none⟩) m.rs.length (m.rs.length + 1))) := (Below.on HBA.out hb1).setCell (Nat.le_refl _) _
  have HR1 : Hid (Room2 w (w1.setCell ⟨w.heap.size, 9, none⟩ (.slice (some ⟨g1, 0, none⟩) m.rs.length (m.rs.length + 1))) g1 m.rs) := (hr1.from HBA.out).onl o1 hg1 hbb
  have HZ1 := hid ((HZ.out.later hb1).onl o1 (by omega))
  have HBB := hid hbb
  have HLO1 : Hid (Loose (w1.setCell ⟨w.heap.size, 9, none⟩ (.slice (some ⟨g1, 0, none⟩) m.rs.length (m.rs.length + 1))) w.heap.size ∧ Loose (w1.setCell ⟨w.heap.size, 9, none⟩ (.slice (some ⟨g1, 0, none⟩) m.rs.length (m.rs.length + 1))) (w.heap.size + 1)) := ⟨(HLO.out.later hb1 hq).setc _ _, (HLZ.out.later hb1 hqz).setc _ _⟩
  clear hr1 hb1 o1 hbb H1
  go_wp2_with fail
  obtain ⟨v2, hv2⟩ : ∃ v2, v2 = w1.setCell ⟨w.heap.size, 9, none⟩ (.slice (some ⟨g1, 0, none⟩) m.rs.length (m.rs.length + 1)) := ⟨_, rfl⟩
  rw [← hv2] at HB1 HR1 HZ1 HBB HLO1 ⊢
  clear hv2 c9 c10 f9
  refine (roomWrites_is (HOW.out.later HBB.out) hl2).mono ?_
  rintro e w2 ⟨g2, rfl, hr2⟩
  have hb2 := hr2.bl
  have hqv : w.heap.size < v2.heap.size := World.block_lt_of_cell? _ _ HB1.out.c0
  have hqz2 : w.heap.size + 1 < v2.heap.size := World.block_lt_of_cell? _ _ HZ1.out.c0
  have hb := HB1.out.later hb2
  have hz := HZ1.out.later hb2
  have c0 := hb.c0; have c1 := hb.c1; have c2 := hb.c2; have c3 := hb.c3; have c4 := hb.c4; have c5 := hb.c5; have c6 := hb.c6; have c7 := hb.c7; have c8 := hb.c8; have c9 := hb.c9; have c10 := hb.c10; have c11 := hb.c11
  have z0 := hz.c0; have z1 := hz.c1; have z2 := hz.c2; have z3 := hz.c3; have z4 := hz.c4; have z5 := hz.c5; have z6 := hz.c6; have z7 := hz.c7; have z8 := hz.c8; have z9 := hz.c9; have z10 := hz.c10; have z11 := hz.c11
  have ff : ∀ o, w2.frozen? ⟨w.heap.size, o, none⟩ = false := HLO1.out.1.later hb2 hqv
  have fz : ∀ o, w2.frozen? ⟨w.heap.size + 1, o, none⟩ = false := HLO1.out.2.later hb2 hqz2
  have hgg : g1 ≠ g2 := fun e => by have h1 := HR1.out.lt; have h2 := hr2.low; omega
  have hg2 : ¬ g2 = w.heap.size := by have := hr2.low; omega
  have hg2' : ¬ g2 = w.heap.size + 1 := by have := hr2.low; omega
  have hg1' : ¬ g1 = w.heap.size + 1 := by have h1 := HR1.out.low; have := H0.out; omega
  have HR2 := hid (hr2.from HBB.out)
  have HR1' := hid (HR1.out.later hb2)
  have HG := hid hgg
  clear hr2 hb2 hb hz hgg HB1 HZ1 HR1
  go_wp2_with fail
  have hset : ∀ {a wx : World} {q o : Nat} {v : Value}, Onl (fun k => k = w.heap.size ∨ k = w.heap.size + 1) a wx → (q = w.heap.size ∨ q = w.heap.size + 1) → Onl (fun k => k = w.heap.size ∨ k = w.heap.size + 1) a (wx.setCell ⟨q, o, none⟩ v) := fun h hq => h.set hq _ _
  obtain ⟨WF, hWF⟩ : ∃ WF, WF = (((((((((((((w2.setCell ⟨w.heap.size, 10, none⟩ (.slice (some ⟨g2, 0, none⟩) m.ws.length (m.ws.length + 1))).setCell ⟨w.heap.size + 1, 0, none⟩ (.int .i64 m.k)).setCell ⟨w.heap.size + 1, 1, none⟩ (.int .u64 m.x)).setCell ⟨w.heap.size + 1, 2, none⟩ (.int .u32 m.c)).setCell ⟨w.heap.size + 1, 3, none⟩ (.int .u32 m.s)).setCell ⟨w.heap.size + 1, 4, none⟩ (.int .u32 m.h)).setCell ⟨w.heap.size + 1, 5, none⟩ (.int .i64 m.oc)).setCell ⟨w.heap.size + 1, 6, none⟩ (.int .u64 m.w)).setCell ⟨w.heap.size + 1, 7, none⟩ (.int .u32 m.l)).setCell ⟨w.heap.size + 1, 8, none⟩ (.int .u32 m.n)).setCell ⟨w.heap.size + 1, 9, none⟩ (.slice (some ⟨g1, 0, none⟩) m.rs.length (m.rs.length + 1))).setCell ⟨w.heap.size + 1, 10, none⟩ (.slice (some ⟨g2, 0, none⟩) m.ws.length (m.ws.length + 1))).setCell ⟨w.heap.size + 1, 11, none⟩ (.string m.im)) := ⟨_, rfl⟩
  have ho : Onl (fun k => k = w.heap.size ∨ k = w.heap.size + 1) w2 WF := by
    rw [hWF]
    repeat (refine hset ?_ (by first | exact .inl rfl | exact .inr rfl))
    exact Onl.refl _ _
  have hbf : Below w.heap.size w WF := HR2.out.bl.trans (ho.below (fun k hk => by rcases hk with e | e <;> omega) HR2.out.bl.size)
  refine bodyPost_ret (v := (m.own g1 g2).val) (by simp [results, Try.results4, go_sem, z0, z1, z2, z3, z4, z5, z6, z7, z8, z9, z10, z11, Rg.own]) rfl ⟨g1, g2, rfl, ?_, ?_, HG.out⟩
  · rw [← hWF]; exact HR1'.out.onl ho (fun hk => by rcases hk with e | e; exact hg1 e; exact hg1' e) hbf
  · rw [← hWF]; exact HR2.out.onl ho (fun hk => by rcases hk with e | e; exact hg2 e; exact hg2' e) hbf

end Go.Proofs.Ytngnifemghahkaa
