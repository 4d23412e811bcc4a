import Derived.Test.YtoejdjiclgjgkaaDoorMMake2
namespace Go.Proofs.YtoejdjiclgjgkaaDoor
open Go.RowKit Go.Sort
set_option linter.unusedVariables false

theorem put7 {w w1 : World} {q : Nat} {v0 v1 v2 v3 v4 v5 v6 : Value} (hw : Below w.heap.size w w1) (hq : w.heap.size ≤ q) (z0 : ∃ v, w1.cell? ⟨q, 0, none⟩ = some v) (z1 : ∃ v, w1.cell? ⟨q, 1, none⟩ = some v)
    (z2 : ∃ v, w1.cell? ⟨q, 2, none⟩ = some v) (z3 : ∃ v, w1.cell? ⟨q, 3, none⟩ = some v) (z4 : ∃ v, w1.cell? ⟨q, 4, none⟩ = some v) (z5 : ∃ v, w1.cell? ⟨q, 5, none⟩ = some v) (z6 : ∃ v, w1.cell? ⟨q, 6, none⟩ = some v) :
    At (((((((w1.setCell ⟨q, 0, none⟩ v0).setCell ⟨q, 1, none⟩ v1).setCell ⟨q, 2, none⟩ v2).setCell ⟨q, 3, none⟩ v3).setCell ⟨q, 4, none⟩ v4).setCell ⟨q, 5, none⟩ v5).setCell ⟨q, 6, none⟩ v6) q 0 [v0, v1, v2, v3, v4, v5, v6]
      ∧ Below w.heap.size w (((((((w1.setCell ⟨q, 0, none⟩ v0).setCell ⟨q, 1, none⟩ v1).setCell ⟨q, 2, none⟩ v2).setCell ⟨q, 3, none⟩ v3).setCell ⟨q, 4, none⟩ v4).setCell ⟨q, 5, none⟩ v5).setCell ⟨q, 6, none⟩ v6) := by
  obtain ⟨_, z0⟩ := z0
  obtain ⟨_, z1⟩ := z1
  obtain ⟨_, z2⟩ := z2
  obtain ⟨_, z3⟩ := z3
  obtain ⟨_, z4⟩ := z4
  obtain ⟨_, z5⟩ := z5
  obtain ⟨_, z6⟩ := z6
  exact ⟨⟨by simp [go_sem, z0], by simp [go_sem, z1], by simp [go_sem, z2], by simp [go_sem, z3], by simp [go_sem, z4], by simp [go_sem, z5], by simp [go_sem, z6], trivial⟩, ((((((hw.setCell hq _).setCell hq _).setCell hq _).setCell hq _).setCell hq _).setCell hq _).setCell hq _⟩
set_option maxHeartbeats 2000000 in
theorem verdictOf_is (m : Mg) (w : World) :
    Calls Tryd.prog 28 #[m.val] w fun e w' => e = .returned (.agg #[.int .u32 m.c, .int .u32 m.s, .int .u32 m.h, .int .i64 m.oc, .int .u64 m.w, .int .u32 m.l, .int .u32 m.n]) ∧ Below w.heap.size w w' := by
  go_enter Tryd.func28, Tryd.ntmps28
  go_wp2_with fail
  have hB := boxM w m 35
  have hb0 : Below w.heap.size w (w.alloc (.cells m.cells 35)) := Below.al (Below.refl _ _) _
  have hsz : (w.alloc (.cells m.cells 35)).heap.size = w.heap.size + 1 := by simp
  obtain ⟨wa, hwa⟩ : ∃ wa, wa = w.alloc (.cells m.cells 35) := ⟨_, rfl⟩
  rw [← hwa] at hB hb0 hsz ⊢
  rw [← hsz]
  clear hwa
  obtain ⟨wz, hwz⟩ : ∃ wz, wz = wa.alloc (.cells #[.int .u32 0, .int .u32 0, .int .u32 0, .int .i64 0, .int .u64 0, .int .u32 0, .int .u32 0] 79) := ⟨_, rfl⟩
  have hb1 : Below wa.heap.size wa wz := by rw [hwz]; exact Below.al (Below.refl _ _) _
  have z0 : wz.cell? ⟨wa.heap.size, 0, none⟩ = some (.int .u32 0) := by rw [hwz]; simp [go_sem]
  have z1 : wz.cell? ⟨wa.heap.size, 1, none⟩ = some (.int .u32 0) := by rw [hwz]; simp [go_sem]
  have z2 : wz.cell? ⟨wa.heap.size, 2, none⟩ = some (.int .u32 0) := by rw [hwz]; simp [go_sem]
  have z3 : wz.cell? ⟨wa.heap.size, 3, none⟩ = some (.int .i64 0) := by rw [hwz]; simp [go_sem]
  have z4 : wz.cell? ⟨wa.heap.size, 4, none⟩ = some (.int .u64 0) := by rw [hwz]; simp [go_sem]
  have z5 : wz.cell? ⟨wa.heap.size, 5, none⟩ = some (.int .u32 0) := by rw [hwz]; simp [go_sem]
  have z6 : wz.cell? ⟨wa.heap.size, 6, none⟩ = some (.int .u32 0) := by rw [hwz]; simp [go_sem]
  have kf : ∀ o, wz.frozen? ⟨wa.heap.size, o, none⟩ = false := fun o => by rw [hwz]; simp [go_sem]
  have hqz : wa.heap.size < wz.heap.size := World.block_lt_of_cell? _ _ z0
  rw [← hwz]
  replace hB := hB.later hb1
  have HB0 := hid (Below.on hb0 hb1)
  have HLE : Hid (w.heap.size ≤ wa.heap.size) := by show w.heap.size ≤ wa.heap.size; omega
  have ⟨c0, c1, c2, c3, c4, c5, c6, c7, c8, c9, c10, c11, c12, c13, c14⟩ := hB
  clear hB hb0 hsz hb1 hwz
  go_cut [] (fun wx => At wx wa.heap.size 0 (vVerd m) ∧ Below w.heap.size w wx)
  case first =>
    go_region_with (first | (go_at_call 24; refine (transactionOf_is m _).mono ?_; rintro e w1 ⟨rfl, hb1⟩; have hB1 : Below wz.heap.size wz w1 := (by refine Below.on ?_ hb1; (repeat (first | exact Below.refl _ _ | assumption | refine Below.drew ?_ | refine Below.al ?_ _ | refine Below.setCell ?_ (by first | exact Nat.le_refl _ | (simp; omega) | (simp; done)) _ | refine Below.on ?_ (by assumption)))); have c7 := cell_later hB1 c7; have c8 := cell_later hB1 c8; have c9 := cell_later hB1 c9; have c11 := cell_later hB1 c11; have z0 := cell_later hB1 z0; have z1 := cell_later hB1 z1; have z2 := cell_later hB1 z2; have z3 := cell_later hB1 z3; have z4 := cell_later hB1 z4; have z5 := cell_later hB1 z5; have z6 := cell_later hB1 z6; have kf : ∀ o, w1.frozen? ⟨wa.heap.size, o, none⟩ = false := (fun o => (hB1.frozen (p := ⟨wa.heap.size, o, none⟩) hqz).trans (kf o)); clear hb1))
    all_goals (try go_wp2_with fail)
    all_goals go_meet
    all_goals exact put7 (Below.on HB0.out hB1) HLE.out ⟨_, z0⟩ ⟨_, z1⟩ ⟨_, z2⟩ ⟨_, z3⟩ ⟨_, z4⟩ ⟨_, z5⟩ ⟨_, z6⟩
  case rest =>
    obtain ⟨⟨a0, a1, a2, a3, a4, a5, a6, -⟩, hb⟩ := hcut
    go_wp2_with fail
    refine bodyPost_ret (v := .agg #[.int .u32 m.c, .int .u32 m.s, .int .u32 m.h, .int .i64 m.oc, .int .u64 m.w, .int .u32 m.l, .int .u32 m.n]) (by simp [results, Tryd.results28, go_sem, a0, a1, a2, a3, a4, a5, a6]) rfl ⟨rfl, ?_⟩
    exact hb

end Go.Proofs.YtoejdjiclgjgkaaDoor
