import Derived.Test.YtfafkohghgliaaaDoorTuLTp
import Derived.Test.YtfafkohghgliaaaDoorTuOwn
import Derived.Test.YtfafkohghgliaaaDoorTuRefEn
/- One value; bytes of what is valid and what is not. -/
namespace Go.Proofs.YtfafkohghgliaaaDoor.Tu
open Go.RowKit Go.Sort Go.Proofs.YtfafkohghgliaaaDoor
set_option linter.unusedVariables false
set_option linter.unusedSectionVars false
variable [DecidableEq Vl]

theorem okT_app (a b : List Vl) : okT (a ++ b) = (okT a && okT b) := by simp [okT]
theorem one_row (w : World) : RowV (w.alloc (.cells #[.int .i64 0, .bool false, .int .i64 0, .string ⟨#[]⟩] 32)) (some ⟨w.heap.size, 0, none⟩) [vNull] := fun i hi => by
  obtain rfl : i = 0 := by simp at hi; exact hi
  have h := newV w vNull 32
  exact ⟨w.heap.size, 0, rfl, h.1, h.2.1, h.2.2.1, h.2.2.2⟩
theorem one_tp : Tp [vNull] := ⟨fun v hv => by simp at hv; subst hv; exact ok_null', by simp, fun v hv => by simp at hv; subst hv; simp [vNull], by show (codeV vNull ++ []).length ≤ _; rw [code_null]; simp⟩
theorem one_enc : encS [vNull] = ⟨#[1]⟩ := rfl
theorem encS_yes {t : List Vl} (h : okT t = true) : encS t = ofNats (encL t) := by unfold encS; rw [h]; rfl
theorem encS_no {t : List Vl} (h : okT t = false) : encS t = ⟨#[]⟩ := by unfold encS; rw [h]; rfl
end Go.Proofs.YtfafkohghgliaaaDoor.Tu
