import Derived.Test.YtfkiccdjffhhhaaGreatDoorRdAs
/- reason: a fault of the form. -/
namespace Go.Proofs.YtfkiccdjffhhhaaGreatDoor.Rt
open Go.RowKit Go.Extern.Stop Go.Stop Go.Extern Go.Sort
set_option linter.unusedVariables false

/-- the program's two words for what may be wrong -/
structure Errs (w : World) (a b : Addr) : Prop where
  form : w.cell? ⟨0, 0, none⟩ = some (errV a)
  limit : w.cell? ⟨1, 0, none⟩ = some (errV b)
  typ : w.cell? ⟨2, 0, none⟩ = some (typV 44)
  ne : a ≠ b
  rowA : ∃ ca ta, w.heap[a.block]? = some (.cells ca ta (0, 0))
  rowB : ∃ cb tb, w.heap[b.block]? = some (.cells cb tb (0, 0))
theorem Errs.later {w w' : World} {a b : Addr} (h : Errs w a b) (hb : Below w.heap.size w w') : Errs w' a b := by
  obtain ⟨ca, ta, ha⟩ := h.rowA
  obtain ⟨cb, tb, hB⟩ := h.rowB
  exact ⟨cell_later hb h.form, cell_later hb h.limit, cell_later hb h.typ, h.ne, ⟨ca, ta, (hb.block _ (cells_lt ha)).trans ha⟩, ⟨cb, tb, (hb.block _ (cells_lt hB)).trans hB⟩⟩
set_option maxRecDepth 16000 in
set_option maxHeartbeats 4000000 in
theorem reason_form (l : Int) {a b : Addr} {w : World} (h : Errs w a b) :
    Calls Tryz.prog 17 #[fltV l (errV a)] w fun e w' => e = .returned (.int .i64 120) ∧ Below w.heap.size w w' := by
  obtain ⟨wA, hwA⟩ : ∃ wA, wA = w.alloc (.cells #[.int .i64 0, .nilIface] 60) := ⟨_, rfl⟩
  have hbA : Below w.heap.size w wA := by rw [hwA]; (repeat (first | with_reducible exact Below.refl _ _ | with_reducible assumption | with_reducible refine Below.drew ?_ | with_reducible refine Below.al ?_ _ | with_reducible refine Below.setCell ?_ (by first | exact Nat.le_refl _ | (simp; omega) | (simp; done)) _ | with_reducible refine Below.on ?_ (by assumption)))
  have HA := hid (as_flt w.heap.size l (errV a) (.int .i64 0) .nilIface wA rfl (h.later hbA).typ (by rw [hwA]; simp) (by rw [hwA]; simp) (fun o => by rw [hwA]; simp [go_sem]))
  have HE := hid h
  have HBA := hid hbA
  have hsA : Hid (wA.heap.size = w.heap.size + 1) := hid (by rw [hwA]; simp)
  have HC : Hid (wA.cell? ⟨w.heap.size, 0, none⟩ = some (.int .i64 0) ∧ wA.cell? ⟨w.heap.size, 1, none⟩ = some .nilIface) := hid ⟨by rw [hwA]; simp, by rw [hwA]; simp⟩
  clear h hbA
  go_enter Tryz.func17, Tryz.ntmps17
  go_wp2_with fail
  rw [← hwA]
  clear hwA
  refine HA.out.mono ?_
  rintro e w1 ⟨rfl, w2, hb2, rfl⟩
  have HB2 := hid (HBA.out.trans (hb2.mono (by rw [hsA.out]; omega)))
  have k0 : ((w2.setCell ⟨w.heap.size, 0, none⟩ (.int .i64 l)).setCell ⟨w.heap.size, 1, none⟩ (errV a)).cell? ⟨w.heap.size, 0, none⟩ = some (.int .i64 l) := by
    rw [World.cell?_setCell_other (h := fun e => by have := congrArg Addr.off e; simp at this)]
    exact World.cell?_setCell_same _ _ _ (cell_later hb2 HC.out.1)
  have k1 : ((w2.setCell ⟨w.heap.size, 0, none⟩ (.int .i64 l)).setCell ⟨w.heap.size, 1, none⟩ (errV a)).cell? ⟨w.heap.size, 1, none⟩ = some (errV a) := by
    have h1 : (w2.setCell ⟨w.heap.size, 0, none⟩ (.int .i64 l)).cell? ⟨w.heap.size, 1, none⟩ = some .nilIface := by
      rw [World.cell?_setCell_other (h := fun e => by have := congrArg Addr.off e; simp at this)]
      exact cell_later hb2 HC.out.2
    exact World.cell?_setCell_same _ _ _ h1
  obtain ⟨w3, hw3⟩ : ∃ w3, w3 = (w2.setCell ⟨w.heap.size, 0, none⟩ (.int .i64 l)).setCell ⟨w.heap.size, 1, none⟩ (errV a) := ⟨_, rfl⟩
  have hb3 : Below w.heap.size w w3 := by rw [hw3]; exact Below.setCell (Below.setCell HB2.out (p := ⟨w.heap.size, 0, none⟩) (Nat.le_refl _) _) (p := ⟨w.heap.size, 1, none⟩) (Nat.le_refl _) _
  rw [← hw3] at k0 k1 ⊢
  have hE3 := HE.out.later hb3
  have g1 := hE3.limit
  obtain ⟨ca, ta, ha⟩ := hE3.rowA
  obtain ⟨cb, tb, hB⟩ := hE3.rowB
  have HI := hid (is_flt_other l a b ca cb ta tb w3 hE3.ne ha hB)
  have HB3 := hid hb3
  clear hw3 hE3 ha hB hb3 hb2
  go_wp2_with fail
  refine HI.out.mono ?_
  rintro e w4 ⟨rfl, hb4⟩
  go_wp2_with fail
  go_ret
  exact ⟨rfl, Below.on HB3.out hb4⟩
end Go.Proofs.YtfkiccdjffhhhaaGreatDoor.Rt
