import Derived.Test.YtaknkodjganacaaDoorVInstall
/- New, Watermark. -/
namespace Go.Proofs.YtaknkodjganacaaDoor.Vs
open Go.RowKit Go.Sort
set_option linter.unusedVariables false

theorem stonew_is (w : World) : Calls Tryd.prog 17 #[] w fun e w' => ∃ p F, e = .returned (pt p) ∧ Sto F w' p [] ⟨0, 0, 0⟩ ∧ (∀ b, F b → w.heap.size ≤ b) ∧ Below w.heap.size w w' := by
  go_enter Tryd.func17, Tryd.ntmps17
  go_wp2_with fail
  go_ret
  obtain ⟨W, hW⟩ : ∃ W, W = w.alloc (.cells #[.pointer none, .int .u64 0, .int .u32 0, .int .u32 0] 87) := ⟨_, rfl⟩
  have hb2 : Below w.heap.size w W := by rw [hW]; exact Below.al (Below.refl _ _) _
  have kb : W.heap[w.heap.size]? = some (.cells #[.pointer none, .int .u64 0, .int .u32 0, .int .u32 0] 87 (0, 0)) := by rw [hW]; exact World.alloc_heap_new _ _
  refine ⟨w.heap.size, fun b => b = w.heap.size, rfl, ⟨[], ?_, rfl⟩, ?_, by rw [← hW]; exact hb2⟩
  · rw [← hW]
    refine ⟨⟨_, kb, rfl, rfl, rfl⟩, stT_store, ⟨.nil, _, _, kb, stT_store.1, rfl, trivial, rfl, List.Pairwise.nil⟩, fun e he => (by cases he), List.Pairwise.nil, Good.nil, rfl, fun e he => (by cases he), ?_⟩
    rintro b rfl
    exact ⟨_, _, _, kb, .inl rfl⟩
  · rintro b rfl
    exact Nat.le_refl _
end Go.Proofs.YtaknkodjganacaaDoor.Vs
