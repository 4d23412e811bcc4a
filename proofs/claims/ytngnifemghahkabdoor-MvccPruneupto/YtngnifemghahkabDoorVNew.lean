import Derived.Test.YtngnifemghahkabDoorVInstall
/- New, Watermark. -/
namespace Go.Proofs.YtngnifemghahkabDoor.Vs
open Go.RowKit Go.Sort
set_option linter.unusedVariables false

theorem stonew_is (w : World) : Calls Tryd.prog 14 #[] w fun e w' => ∃ p F, e = .returned (pt p) ∧ Sto F w' p [] ⟨0, 0, 0⟩ ∧ (∀ b, F b → w.heap.size ≤ b) ∧ Below w.heap.size w w' := by
  have N := hid (new_is w)
  go_enter Tryd.func14, Tryd.ntmps14
  go_wp2_with (go_at_call 25; refine N.out.mono ?_; rintro e w1 ⟨rfl, hx, hb⟩)
  go_ret
  obtain ⟨W, hW⟩ : ∃ W, W = w1.alloc (.cells #[.pointer (some ⟨w.heap.size, 0, none⟩), .int .u64 0, .int .u32 0, .int .u32 0] 61) := ⟨_, rfl⟩
  have hb2 : Below w1.heap.size w1 W := by rw [hW]; exact Below.al (Below.refl _ _) _
  have kb : W.heap[w1.heap.size]? = some (.cells #[.pointer (some ⟨w.heap.size, 0, none⟩), .int .u64 0, .int .u32 0, .int .u32 0] 61 (0, 0)) := by rw [hW]; exact World.alloc_heap_new _ _
  have hx2 := hx.later hb2
  obtain ⟨u, bx⟩ := hx2.box
  refine ⟨w1.heap.size, fun b => b = w1.heap.size ∨ b = w.heap.size, rfl, ⟨w.heap.size, [], ?_, rfl⟩, ?_, by rw [← hW]; exact Below.on hb hb2⟩
  · rw [← hW]
    refine ⟨kb, hx2, fun e he => (by cases he), List.Pairwise.nil, Good.nil, .inl rfl, .inr rfl, fun e he => (by cases he), ?_⟩
    rintro b (rfl | rfl)
    · exact ⟨_, _, _, kb, .inl rfl⟩
    · exact ⟨_, _, _, bx, .inr (.inl rfl)⟩
  · rintro b (rfl | rfl)
    · exact hb.size
    · exact Nat.le_refl _
end Go.Proofs.YtngnifemghahkabDoor.Vs
