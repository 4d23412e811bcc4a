import Derived.Test.YtfafkohghgliaabDoorTuTp
/- Sizes of tuples laid together. -/
namespace Go.Proofs.YtfafkohghgliaabDoor.Tu
open Go.RowKit Go.Sort Go.Proofs.YtfafkohghgliaabDoor
set_option linter.unusedVariables false
set_option linter.unusedSectionVars false
variable [DecidableEq Vl]

theorem ok_null' : vNull.ok := ⟨by simp [vNull, In64], B8.nil⟩
theorem tp_more {xs : List Vl} (h : Tp xs) (hl : xs.length ≤ 1048576) (he : (encL xs).length ≤ 33554432) : Tp (xs ++ [vNull]) := by
  refine ⟨h.ok.append (fun v hv => by simp at hv; subst hv; exact ok_null'), by simp; omega, fun v hv => ?_, ?_⟩
  · rcases List.mem_append.1 hv with hv | hv
    · exact h.sh v hv
    · simp at hv; subst hv; simp [vNull]
  · rw [encL_snoc, List.length_append, code_null]; simp; omega
theorem tp_join {xs ys : List Vl} (h : Tp xs) (k : Tp ys) (hl : xs.length ≤ 1048576) (hl2 : ys.length ≤ 1048576) (he : (encL xs).length ≤ 2097152) (he2 : (encL ys).length ≤ 2097152) : Tp (xs ++ ys) := by
  refine ⟨h.ok.append k.ok, by simp; omega, fun v hv => ?_, by rw [encL_append, List.length_append]; omega⟩
  rcases List.mem_append.1 hv with hv | hv
  · exact h.sh v hv
  · exact k.sh v hv
end Go.Proofs.YtfafkohghgliaabDoor.Tu
