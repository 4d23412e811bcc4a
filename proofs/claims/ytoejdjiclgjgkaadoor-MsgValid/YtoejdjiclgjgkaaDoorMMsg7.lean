import Derived.Test.YtoejdjiclgjgkaaDoorMMsg0
namespace Go.Proofs.YtoejdjiclgjgkaaDoor
open Go.RowKit Go.Sort
set_option linter.unusedVariables false

set_option maxHeartbeats 8000000 in
set_option maxRecDepth 16000 in
theorem message7 {m : Mg} {w : World} {q : Nat} (hA : At w q 0 (vVerd m)) :
    Calls Tryd.prog 16 #[.int .u32 m.f, .int .u32 m.t, .iface 83 (.pointer (some ⟨q, 0, none⟩))] w fun e w' => e = .returned (pVerd 7 m).val ∧ Below w.heap.size w w' := by
  have a0 : w.cell? ⟨q, 0, none⟩ = some (.int .u32 m.c) := hA.1
  have a1 : w.cell? ⟨q, 1, none⟩ = some (.int .u32 m.s) := hA.2.1
  have a2 : w.cell? ⟨q, 2, none⟩ = some (.int .u32 m.h) := hA.2.2.1
  have a3 : w.cell? ⟨q, 3, none⟩ = some (.int .i64 m.oc) := hA.2.2.2.1
  have a4 : w.cell? ⟨q, 4, none⟩ = some (.int .u64 m.w) := hA.2.2.2.2.1
  have a5 : w.cell? ⟨q, 5, none⟩ = some (.int .u32 m.l) := hA.2.2.2.2.2.1
  have a6 : w.cell? ⟨q, 6, none⟩ = some (.int .u32 m.n) := hA.2.2.2.2.2.2.1
  have hq : q < w.heap.size := World.block_lt_of_cell? _ _ a0
  clear hA
  have s1 : ∀ w, (Instr.typeAssert (.iface 83 (.pointer (some ⟨q, 0, none⟩))) 39 58 true).run Tryd.prog w = .ok (.tuple #[.pointer none, .bool false]) w := fun w => by kernel_rfl
  have s2 : ∀ w, (Instr.typeAssert (.iface 83 (.pointer (some ⟨q, 0, none⟩))) 39 62 true).run Tryd.prog w = .ok (.tuple #[.pointer none, .bool false]) w := fun w => by kernel_rfl
  have s3 : ∀ w, (Instr.typeAssert (.iface 83 (.pointer (some ⟨q, 0, none⟩))) 39 65 true).run Tryd.prog w = .ok (.tuple #[.pointer none, .bool false]) w := fun w => by kernel_rfl
  have s4 : ∀ w, (Instr.typeAssert (.iface 83 (.pointer (some ⟨q, 0, none⟩))) 39 71 true).run Tryd.prog w = .ok (.tuple #[.pointer none, .bool false]) w := fun w => by kernel_rfl
  have s5 : ∀ w, (Instr.typeAssert (.iface 83 (.pointer (some ⟨q, 0, none⟩))) 39 74 true).run Tryd.prog w = .ok (.tuple #[.pointer none, .bool false]) w := fun w => by kernel_rfl
  have s6 : ∀ w, (Instr.typeAssert (.iface 83 (.pointer (some ⟨q, 0, none⟩))) 39 77 true).run Tryd.prog w = .ok (.tuple #[.pointer none, .bool false]) w := fun w => by kernel_rfl
  have s7 : ∀ w, (Instr.typeAssert (.iface 83 (.pointer (some ⟨q, 0, none⟩))) 39 83 true).run Tryd.prog w = .ok (.tuple #[.pointer (some ⟨q, 0, none⟩), .bool true]) w := fun w => by kernel_rfl
  go_enter Tryd.func16, Tryd.ntmps16
  go_wp2_with fail
  go_region
  all_goals (try go_wp2_with fail)
  all_goals (refine bodyPost_ret (v := (pVerd 7 m).val) (by simp [results, Tryd.results16, go_sem]) rfl ⟨rfl, ?_⟩)
  all_goals (repeat (first | exact Below.refl _ _ | assumption | refine Below.drew ?_ | refine Below.al ?_ _ | refine Below.setCell ?_ (by first | exact Nat.le_refl _ | (simp; omega) | (simp; done)) _ | refine Below.on ?_ (by assumption)))
end Go.Proofs.YtoejdjiclgjgkaaDoor
