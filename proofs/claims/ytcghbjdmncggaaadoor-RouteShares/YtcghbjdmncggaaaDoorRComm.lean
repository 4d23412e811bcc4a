import Derived.Test.YtcghbjdmncggaaaDoorRCut
/- The common part of two spans. -/
namespace Go.Proofs.YtcghbjdmncggaaaDoor.Rt
open Go.RowKit Go.Sort
set_option linter.unusedVariables false

theorem run_maxT (a b : ByteArray) (ts : Array TypeId) (ty : TypeId) (w : World) : (Builtin.max_ ts ty #[.string a, .string b]).run Tryd.prog w = .ok (.string (maxT a b)) w := by
  cases h : Op.bytesLess a.toList b.toList <;> simp [Builtin.max_, Builtin.max2, Op.stringOp, maxT, ltS, asBool, h]
/-- what common answers -/
def commA (a b : T2) : T2 × Bool := match comm a b with
  | none => ((mt, mt), false)
  | some s => (s, true)

set_option maxHeartbeats 4000000 in
theorem common_is (a b : T2) (w : World) :
    Calls Tryd.prog 27 #[spv a, spv b] w fun e w' => e = .returned (.tuple #[spv (commA a b).1, .bool (commA a b).2]) ∧ Below w.heap.size w w' := by
  obtain ⟨alo, ahi⟩ := a
  obtain ⟨blo, bhi⟩ := b
  obtain ⟨w0, hw0⟩ : ∃ w0, w0 = ((w.alloc (.cells #[.string alo, .string ahi] 37)).alloc (.cells #[.string blo, .string bhi] 37)).alloc (.cells #[.string ⟨#[]⟩, .string ⟨#[]⟩] 37) := ⟨_, rfl⟩
  have hb0 : Below w.heap.size w w0 := by rw [hw0]; (repeat (first | exact Below.refl _ _ | assumption | refine Below.drew ?_ | refine Below.al ?_ _ | refine Below.setCell ?_ (by first | exact Nat.le_refl _ | (simp; omega) | (simp; done)) _ | refine Below.on ?_ (by assumption)))
  have a0 : w0.cell? ⟨w.heap.size, 0, none⟩ = some (.string alo) := by rw [hw0]; simp [go_sem]
  have a1 : w0.cell? ⟨w.heap.size, 1, none⟩ = some (.string ahi) := by rw [hw0]; simp [go_sem]
  have b0 : w0.cell? ⟨w.heap.size + 1, 0, none⟩ = some (.string blo) := by rw [hw0]; simp [go_sem]
  have b1 : w0.cell? ⟨w.heap.size + 1, 1, none⟩ = some (.string bhi) := by rw [hw0]; simp [go_sem]
  have r0 : w0.cell? ⟨w.heap.size + 1 + 1, 0, none⟩ = some (.string ⟨#[]⟩) := by rw [hw0]; simp [go_sem]
  have r1 : w0.cell? ⟨w.heap.size + 1 + 1, 1, none⟩ = some (.string ⟨#[]⟩) := by rw [hw0]; simp [go_sem]
  have rf : ∀ o, w0.frozen? ⟨w.heap.size + 1 + 1, o, none⟩ = false := fun o => by rw [hw0]; simp [go_sem]
  have hz : w.heap.size + 1 + 1 < w0.heap.size := by rw [hw0]; simp
  obtain ⟨m, hm⟩ : ∃ m, m = maxT alo blo := ⟨_, rfl⟩
  obtain ⟨h, hh⟩ : ∃ h, h = lesH ahi bhi := ⟨_, rfl⟩
  have hr : ∀ (ts : Array TypeId) (ty : TypeId) (w : World), (Builtin.max_ ts ty #[.string alo, .string blo]).run Tryd.prog w = .ok (.string m) w := fun ts ty w => by rw [run_maxT, hm]
  have HL : Hid (∀ w, Calls Tryd.prog 30 #[.string ahi, .string bhi] w fun e w' => e = .returned (.string h) ∧ Below w.heap.size w w') := hid (by rw [hh]; exact lesser_is _ _)
  have HJ : Hid (commA (alo, ahi) (blo, bhi) = if void (m, h) then ((mt, mt), false) else ((m, h), true)) := hid (by
    rw [commA, comm, join, ← hm, ← hh]
    cases hv : void (m, h) <;> rfl)
  have HB0 := hid hb0
  clear hm hh hb0
  go_enter Tryd.func27, Tryd.ntmps27
  go_wp2_with fail
  rw [← hw0]
  clear hw0
  go_cut [6] (fun s6 wx => ∃ q : Nat, s6 = .pointer (some ⟨q, 0, none⟩) ∧ wx.cell? ⟨q, 0, none⟩ = some (.string m) ∧ wx.cell? ⟨q, 1, none⟩ = some (.string h) ∧ w0.heap.size ≤ q ∧ Below w0.heap.size w0 wx)
  case first =>
    go_region_held3 (fun w' => w'.cell? ⟨w.heap.size, 0, none⟩ = some (.string alo) ∧ w'.cell? ⟨w.heap.size, 1, none⟩ = some (.string ahi) ∧ w'.cell? ⟨w.heap.size + 1, 0, none⟩ = some (.string blo) ∧ w'.cell? ⟨w.heap.size + 1, 1, none⟩ = some (.string bhi) ∧ Below w0.heap.size w0 w')
      ((refine (fun (hB : Below w0.heap.size w0 _) => ⟨cell_later hB a0, cell_later hB a1, cell_later hB b0, cell_later hB b1, hB⟩) ?_; (repeat (first | with_reducible exact Below.refl _ _ | with_reducible assumption | with_reducible refine Below.drew ?_ | with_reducible refine Below.al ?_ _ | with_reducible refine Below.setCell ?_ (by first | exact Nat.le_refl _ | (simp; omega) | (simp; done)) _ | with_reducible refine Below.on ?_ (by assumption)))))
      (first | (go_at_call 30; refine (HL.out _).mono ?_; rintro e w1 ⟨rfl, hb1⟩; obtain ⟨hc1, hf1⟩ := bcell hb1; have hz1 := hb1.size))
    all_goals (try go_wp2_with fail)
    all_goals go_meet
    all_goals (refine ⟨_, rfl, ?_, ?_, ?_, ?_⟩)
    all_goals (first | (simp [go_sem, hc1]; done) | (simp at *; omega) | (repeat (first | exact Below.refl _ _ | assumption | refine Below.drew ?_ | refine Below.al ?_ _ | refine Below.setCell ?_ (by first | exact Nat.le_refl _ | (simp; omega) | (simp; done)) _ | refine Below.on ?_ (by assumption))))
  case rest =>
    obtain ⟨q, rfl, q0, q1, hq, hbx⟩ := hcut
    have r0 := cell_later hbx r0
    have r1 := cell_later hbx r1
    have rf : ∀ o, wc.frozen? ⟨w.heap.size + 1 + 1, o, none⟩ = false := fun o => (hbx.frozen (p := ⟨w.heap.size + 1 + 1, o, none⟩) hz).trans (rf o)
    have HBX := hid (Below.on HB0.out hbx)
    have hle : (Op.bytesLess h.toList m.toList || h.toList == m.toList) = !ltS m h := leq_less _ _
    clear HL hr hbx a0 a1 b0 b1
    cases h1 : emS h
    · have h1' : h.toList.isEmpty = false := h1
      cases h2 : ltS m h
      · have hv : void (m, h) = true := by simp [void, h1, h2]
        rw [h2, Bool.not_false] at hle
        go_wp2_with fail
        refine bodyPost_ret (v := .tuple #[spv (mt, mt), .bool false]) (by simp [results, Tryd.results27, go_sem, r0, r1]) rfl ⟨by rw [HJ.out, hv]; rfl, ?_⟩
        have hB := HBX.out
        (repeat (first | exact Below.refl _ _ | assumption | refine Below.drew ?_ | refine Below.al ?_ _ | refine Below.setCell ?_ (by first | exact Nat.le_refl _ | (simp; omega) | (simp; done)) _ | refine Below.on ?_ (by assumption)))
      · have hv : void (m, h) = false := by simp [void, h1, h2]
        rw [h2, Bool.not_true] at hle
        go_wp2_with fail
        refine bodyPost_ret (v := .tuple #[spv (m, h), .bool true]) (by simp [results, Tryd.results27, go_sem, r0, r1]) rfl ⟨by rw [HJ.out, hv]; rfl, ?_⟩
        have hB := HBX.out
        (repeat (first | exact Below.refl _ _ | assumption | refine Below.drew ?_ | refine Below.al ?_ _ | refine Below.setCell ?_ (by first | exact Nat.le_refl _ | (simp; omega) | (simp; done)) _ | refine Below.on ?_ (by assumption)))
    · have h1' : h.toList.isEmpty = true := h1
      have hv : void (m, h) = false := by simp [void, h1]
      go_wp2_with fail
      refine bodyPost_ret (v := .tuple #[spv (m, h), .bool true]) (by simp [results, Tryd.results27, go_sem, r0, r1]) rfl ⟨by rw [HJ.out, hv]; rfl, ?_⟩
      have hB := HBX.out
      (repeat (first | exact Below.refl _ _ | assumption | refine Below.drew ?_ | refine Below.al ?_ _ | refine Below.setCell ?_ (by first | exact Nat.le_refl _ | (simp; omega) | (simp; done)) _ | refine Below.on ?_ (by assumption)))

end Go.Proofs.YtcghbjdmncggaaaDoor.Rt
