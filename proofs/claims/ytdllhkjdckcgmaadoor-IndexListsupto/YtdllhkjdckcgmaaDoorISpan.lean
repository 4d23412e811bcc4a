import Derived.Test.YtdllhkjdckcgmaaDoorIState
namespace Go.Proofs.YtdllhkjdckcgmaaDoor
open Go.RowKit Go.Sort
set_option linter.unusedVariables false

set_option maxHeartbeats 2000000 in
theorem span_is (w : World) (op : Ao) : Calls Tryd.prog 10 #[opV op] w fun e w' => e = .returned (.agg #[.string op.key, .string op.hi]) ∧ Below w.heap.size w w' := by
  go_enter Tryd.func10, Tryd.ntmps10
  go_wp2_with fail
  refine bodyPost_ret (v := .agg #[.string op.key, .string op.hi]) ?_ rfl ⟨rfl, Below.al (Below.al (Below.refl _ _) _) _⟩
  have h := World.alloc_heap_new (w.alloc (.cells (opC op) 33)) (.cells #[.string op.key, .string op.hi] 39)
  rw [World.size_alloc] at h
  have c0 : ((w.alloc (.cells (opC op) 33)).alloc (.cells #[.string op.key, .string op.hi] 39)).cell? ⟨w.heap.size + 1, 0, none⟩ = some (.string op.key) := by simp only [World.cell?, h]; rfl
  have c1 : ((w.alloc (.cells (opC op) 33)).alloc (.cells #[.string op.key, .string op.hi] 39)).cell? ⟨w.heap.size + 1, 1, none⟩ = some (.string op.hi) := by simp only [World.cell?, h]; rfl
  simp [results, Tryd.results10, go_sem, c0, c1]

end Go.Proofs.YtdllhkjdckcgmaaDoor
