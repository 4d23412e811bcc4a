import Derived.Test.YtoejdjiclgjgkaaDoorMMake
namespace Go.Proofs.YtoejdjiclgjgkaaDoor
open Go.RowKit Go.Sort
set_option linter.unusedVariables false

set_option maxHeartbeats 2000000 in
theorem make5 (m : Mg) (w : World) :
    Calls Tryd.prog 26 #[m.val] w fun e w' => ∃ q, e = .returned (.iface 74 (.pointer (some ⟨q, 0, none⟩))) ∧ At w' q 0 (vCommit m) ∧ Below w.heap.size w w' := by
  go_enter Tryd.func26, Tryd.ntmps26
  go_wp2_with fail
  have hB := boxM w m 35
  have hb0 : Below w.heap.size w (w.alloc (.cells m.cells 35)) := Below.al (Below.refl _ _) _
  obtain ⟨wa, hwa⟩ : ∃ wa, wa = w.alloc (.cells m.cells 35) := ⟨_, rfl⟩
  rw [← hwa] at hB hb0 ⊢
  clear hwa
  have HB0 := hid hb0
  have ⟨c0, c1, c2, c3, c4, c5, c6, c7, c8, c9, c10, c11, c12, c13, c14⟩ := hB
  clear hB hb0
  go_cut [2] (fun s2 wx => ∃ q : Nat, s2 = .iface 74 (.pointer (some ⟨q, 0, none⟩)) ∧ At wx q 0 (vCommit m) ∧ Below wa.heap.size wa wx)
  case first =>
    go_region_held3 (fun w' => w'.cell? ⟨w.heap.size, 0, none⟩ = some (.int .i64 m.k) ∧ w'.cell? ⟨w.heap.size, 1, none⟩ = some (.int .u32 m.f) ∧ w'.cell? ⟨w.heap.size, 2, none⟩ = some (.int .u32 m.t) ∧ w'.cell? ⟨w.heap.size, 3, none⟩ = some (.int .u32 m.c) ∧ w'.cell? ⟨w.heap.size, 4, none⟩ = some (.int .u32 m.s) ∧ w'.cell? ⟨w.heap.size, 5, none⟩ = some (.int .u32 m.h) ∧ w'.cell? ⟨w.heap.size, 6, none⟩ = some (.int .u32 m.o) ∧ w'.cell? ⟨w.heap.size, 7, none⟩ = some (.int .u64 m.w) ∧ w'.cell? ⟨w.heap.size, 8, none⟩ = some (.int .u32 m.l) ∧ w'.cell? ⟨w.heap.size, 9, none⟩ = some (.int .u32 m.n) ∧ w'.cell? ⟨w.heap.size, 10, none⟩ = some (.int .i64 m.st) ∧ w'.cell? ⟨w.heap.size, 11, none⟩ = some (.int .i64 m.oc) ∧ w'.cell? ⟨w.heap.size, 12, none⟩ = some (.slice m.ra m.rs.length m.rc) ∧ w'.cell? ⟨w.heap.size, 13, none⟩ = some (.slice m.wa m.ws.length m.wc) ∧ w'.cell? ⟨w.heap.size, 14, none⟩ = some (.slice m.pa m.ps.length m.pc) ∧ Below wa.heap.size wa w')
      ((refine (fun (hB : Below wa.heap.size wa _) => ⟨cell_later hB c0, cell_later hB c1, cell_later hB c2, cell_later hB c3, cell_later hB c4, cell_later hB c5, cell_later hB c6, cell_later hB c7, cell_later hB c8, cell_later hB c9, cell_later hB c10, cell_later hB c11, cell_later hB c12, cell_later hB c13, cell_later hB c14, hB⟩) ?_; (repeat (first | exact Below.refl _ _ | assumption | refine Below.drew ?_ | refine Below.al ?_ _ | refine Below.setCell ?_ (by first | exact Nat.le_refl _ | (simp; omega) | (simp; done)) _ | refine Below.on ?_ (by assumption)))))
      (first | (go_at_call 24; refine (transactionOf_is m _).mono ?_; rintro e w1 ⟨rfl, hb1⟩; obtain ⟨hc1, hf1⟩ := bcell hb1; have hz1 := hb1.size))
    all_goals (try go_wp2_with fail)
    all_goals go_meet
    all_goals (refine ⟨_, rfl, ⟨?_, ?_, ?_, ?_, ?_, ?_, trivial⟩, by (repeat (first | exact Below.refl _ _ | assumption | refine Below.drew ?_ | refine Below.al ?_ _ | refine Below.setCell ?_ (by first | exact Nat.le_refl _ | (simp; omega) | (simp; done)) _ | refine Below.on ?_ (by assumption)))⟩)
    all_goals (simp [go_sem]; done)
  case rest =>
    obtain ⟨q, rfl, hA, hb⟩ := hcut
    go_wp2_with fail
    go_ret
    exact ⟨_, rfl, hA, Below.on HB0.out hb⟩

set_option maxHeartbeats 2000000 in
theorem make4 (m : Mg) (w : World) :
    Calls Tryd.prog 25 #[m.val] w fun e w' => ∃ q, e = .returned (.iface 71 (.pointer (some ⟨q, 0, none⟩))) ∧ At w' q 0 (vVote m) ∧ Below w.heap.size w w' := by
  go_enter Tryd.func25, Tryd.ntmps25
  go_wp2_with fail
  have hB := boxM w m 35
  have hb0 : Below w.heap.size w (w.alloc (.cells m.cells 35)) := Below.al (Below.refl _ _) _
  obtain ⟨wa, hwa⟩ : ∃ wa, wa = w.alloc (.cells m.cells 35) := ⟨_, rfl⟩
  rw [← hwa] at hB hb0 ⊢
  clear hwa
  have HB0 := hid hb0
  have ⟨c0, c1, c2, c3, c4, c5, c6, c7, c8, c9, c10, c11, c12, c13, c14⟩ := hB
  clear hB hb0
  go_cut [2] (fun s2 wx => ∃ q : Nat, s2 = .iface 71 (.pointer (some ⟨q, 0, none⟩)) ∧ At wx q 0 (vVote m) ∧ Below wa.heap.size wa wx)
  case first =>
    go_region_held3 (fun w' => w'.cell? ⟨w.heap.size, 0, none⟩ = some (.int .i64 m.k) ∧ w'.cell? ⟨w.heap.size, 1, none⟩ = some (.int .u32 m.f) ∧ w'.cell? ⟨w.heap.size, 2, none⟩ = some (.int .u32 m.t) ∧ w'.cell? ⟨w.heap.size, 3, none⟩ = some (.int .u32 m.c) ∧ w'.cell? ⟨w.heap.size, 4, none⟩ = some (.int .u32 m.s) ∧ w'.cell? ⟨w.heap.size, 5, none⟩ = some (.int .u32 m.h) ∧ w'.cell? ⟨w.heap.size, 6, none⟩ = some (.int .u32 m.o) ∧ w'.cell? ⟨w.heap.size, 7, none⟩ = some (.int .u64 m.w) ∧ w'.cell? ⟨w.heap.size, 8, none⟩ = some (.int .u32 m.l) ∧ w'.cell? ⟨w.heap.size, 9, none⟩ = some (.int .u32 m.n) ∧ w'.cell? ⟨w.heap.size, 10, none⟩ = some (.int .i64 m.st) ∧ w'.cell? ⟨w.heap.size, 11, none⟩ = some (.int .i64 m.oc) ∧ w'.cell? ⟨w.heap.size, 12, none⟩ = some (.slice m.ra m.rs.length m.rc) ∧ w'.cell? ⟨w.heap.size, 13, none⟩ = some (.slice m.wa m.ws.length m.wc) ∧ w'.cell? ⟨w.heap.size, 14, none⟩ = some (.slice m.pa m.ps.length m.pc) ∧ Below wa.heap.size wa w')
      ((refine (fun (hB : Below wa.heap.size wa _) => ⟨cell_later hB c0, cell_later hB c1, cell_later hB c2, cell_later hB c3, cell_later hB c4, cell_later hB c5, cell_later hB c6, cell_later hB c7, cell_later hB c8, cell_later hB c9, cell_later hB c10, cell_later hB c11, cell_later hB c12, cell_later hB c13, cell_later hB c14, hB⟩) ?_; (repeat (first | exact Below.refl _ _ | assumption | refine Below.drew ?_ | refine Below.al ?_ _ | refine Below.setCell ?_ (by first | exact Nat.le_refl _ | (simp; omega) | (simp; done)) _ | refine Below.on ?_ (by assumption)))))
      (first | (go_at_call 24; refine (transactionOf_is m _).mono ?_; rintro e w1 ⟨rfl, hb1⟩; obtain ⟨hc1, hf1⟩ := bcell hb1; have hz1 := hb1.size))
    all_goals (try go_wp2_with fail)
    all_goals go_meet
    all_goals (refine ⟨_, rfl, ⟨?_, ?_, ?_, ?_, ?_, ?_, ?_, trivial⟩, by (repeat (first | exact Below.refl _ _ | assumption | refine Below.drew ?_ | refine Below.al ?_ _ | refine Below.setCell ?_ (by first | exact Nat.le_refl _ | (simp; omega) | (simp; done)) _ | refine Below.on ?_ (by assumption)))⟩)
    all_goals (simp [go_sem]; done)
  case rest =>
    obtain ⟨q, rfl, hA, hb⟩ := hcut
    go_wp2_with fail
    go_ret
    exact ⟨_, rfl, hA, Below.on HB0.out hb⟩

set_option maxHeartbeats 2000000 in
theorem make3 (m : Mg) (w : World) :
    Calls Tryd.prog 23 #[m.val] w fun e w' => ∃ q, e = .returned (.iface 65 (.pointer (some ⟨q, 0, none⟩))) ∧ At w' q 0 (vPrep m) ∧ Below w.heap.size w w' := by
  go_enter Tryd.func23, Tryd.ntmps23
  go_wp2_with fail
  have hB := boxM w m 35
  have hb0 : Below w.heap.size w (w.alloc (.cells m.cells 35)) := Below.al (Below.refl _ _) _
  obtain ⟨wa, hwa⟩ : ∃ wa, wa = w.alloc (.cells m.cells 35) := ⟨_, rfl⟩
  rw [← hwa] at hB hb0 ⊢
  clear hwa
  have HB0 := hid hb0
  have ⟨c0, c1, c2, c3, c4, c5, c6, c7, c8, c9, c10, c11, c12, c13, c14⟩ := hB
  clear hB hb0
  go_cut [2] (fun s2 wx => ∃ q : Nat, s2 = .iface 65 (.pointer (some ⟨q, 0, none⟩)) ∧ At wx q 0 (vPrep m) ∧ Below wa.heap.size wa wx)
  case first =>
    go_region_held3 (fun w' => w'.cell? ⟨w.heap.size, 0, none⟩ = some (.int .i64 m.k) ∧ w'.cell? ⟨w.heap.size, 1, none⟩ = some (.int .u32 m.f) ∧ w'.cell? ⟨w.heap.size, 2, none⟩ = some (.int .u32 m.t) ∧ w'.cell? ⟨w.heap.size, 3, none⟩ = some (.int .u32 m.c) ∧ w'.cell? ⟨w.heap.size, 4, none⟩ = some (.int .u32 m.s) ∧ w'.cell? ⟨w.heap.size, 5, none⟩ = some (.int .u32 m.h) ∧ w'.cell? ⟨w.heap.size, 6, none⟩ = some (.int .u32 m.o) ∧ w'.cell? ⟨w.heap.size, 7, none⟩ = some (.int .u64 m.w) ∧ w'.cell? ⟨w.heap.size, 8, none⟩ = some (.int .u32 m.l) ∧ w'.cell? ⟨w.heap.size, 9, none⟩ = some (.int .u32 m.n) ∧ w'.cell? ⟨w.heap.size, 10, none⟩ = some (.int .i64 m.st) ∧ w'.cell? ⟨w.heap.size, 11, none⟩ = some (.int .i64 m.oc) ∧ w'.cell? ⟨w.heap.size, 12, none⟩ = some (.slice m.ra m.rs.length m.rc) ∧ w'.cell? ⟨w.heap.size, 13, none⟩ = some (.slice m.wa m.ws.length m.wc) ∧ w'.cell? ⟨w.heap.size, 14, none⟩ = some (.slice m.pa m.ps.length m.pc) ∧ Below wa.heap.size wa w')
      ((refine (fun (hB : Below wa.heap.size wa _) => ⟨cell_later hB c0, cell_later hB c1, cell_later hB c2, cell_later hB c3, cell_later hB c4, cell_later hB c5, cell_later hB c6, cell_later hB c7, cell_later hB c8, cell_later hB c9, cell_later hB c10, cell_later hB c11, cell_later hB c12, cell_later hB c13, cell_later hB c14, hB⟩) ?_; (repeat (first | exact Below.refl _ _ | assumption | refine Below.drew ?_ | refine Below.al ?_ _ | refine Below.setCell ?_ (by first | exact Nat.le_refl _ | (simp; omega) | (simp; done)) _ | refine Below.on ?_ (by assumption)))))
      (first | (go_at_call 24; refine (transactionOf_is m _).mono ?_; rintro e w1 ⟨rfl, hb1⟩; obtain ⟨hc1, hf1⟩ := bcell hb1; have hz1 := hb1.size))
    all_goals (try go_wp2_with fail)
    all_goals go_meet
    all_goals (refine ⟨_, rfl, ⟨?_, ?_, ?_, ?_, ?_, ?_, ?_, ?_, trivial⟩, by (repeat (first | exact Below.refl _ _ | assumption | refine Below.drew ?_ | refine Below.al ?_ _ | refine Below.setCell ?_ (by first | exact Nat.le_refl _ | (simp; omega) | (simp; done)) _ | refine Below.on ?_ (by assumption)))⟩)
    all_goals (simp [go_sem]; done)
  case rest =>
    obtain ⟨q, rfl, hA, hb⟩ := hcut
    go_wp2_with fail
    go_ret
    exact ⟨_, rfl, hA, Below.on HB0.out hb⟩

end Go.Proofs.YtoejdjiclgjgkaaDoor
