import Derived.Test.YtggmhodogfngdaaDoorGtOpA
import Derived.Laws.StructEq
/- Two operations held against each other. -/
namespace Go.Proofs.YtggmhodogfngdaaDoor.Gt
open Go.Proofs.YtggmhodogfngdaaDoor Go.Proofs.YtggmhodogfngdaaDoor.Rt Go.RowKit Go.Sort
set_option linter.unusedVariables false
set_option linter.unusedSimpArgs false

theorem str_ne {a b : ByteArray} (h : a ≠ b) : (a.toList == b.toList) = false := by
  rw [beq_eq_false_iff_ne]
  intro e
  rw [ByteArray.toList_eq, ByteArray.toList_eq] at e
  exact h (nums_inj (by unfold nums; rw [e]))
set_option maxHeartbeats 2000000 in
set_option maxRecDepth 100000 in
theorem run_ne_same (k l : Int) (b1 b2 b3 : Bool) (s1 s2 s3 s4 : ByteArray) (w : World) :
    (binOp .neq 27 (.agg #[.int .i64 k, .bool b1, .bool b2, .bool b3, .string s1, .string s2, .string s3, .string s4, .int .i64 l]) (.agg #[.int .i64 k, .bool b1, .bool b2, .bool b3, .string s1, .string s2, .string s3, .string s4, .int .i64 l])).run Tryd.prog w = .ok (.bool false) w := by
  simp [go_sem, Tryd.underlying27]
set_option maxHeartbeats 4000000 in
set_option maxRecDepth 100000 in
theorem run_ne_other (k l k' l' : Int) (b1 b2 b3 b1' b2' b3' : Bool) (s1 s2 s3 s4 s1' s2' s3' s4' : ByteArray) (w : World)
    (h : ¬ (k = k' ∧ b1 = b1' ∧ b2 = b2' ∧ b3 = b3' ∧ s1 = s1' ∧ s2 = s2' ∧ s3 = s3' ∧ s4 = s4' ∧ l = l')) :
    (binOp .neq 27 (.agg #[.int .i64 k, .bool b1, .bool b2, .bool b3, .string s1, .string s2, .string s3, .string s4, .int .i64 l]) (.agg #[.int .i64 k', .bool b1', .bool b2', .bool b3', .string s1', .string s2', .string s3', .string s4', .int .i64 l'])).run Tryd.prog w = .ok (.bool true) w := by
  by_cases e1 : k = k'
  · subst e1
    by_cases e2 : b1 = b1'
    · subst e2
      by_cases e3 : b2 = b2'
      · subst e3
        by_cases e4 : b3 = b3'
        · subst e4
          by_cases e5 : s1 = s1'
          · subst e5
            by_cases e6 : s2 = s2'
            · subst e6
              by_cases e7 : s3 = s3'
              · subst e7
                by_cases e8 : s4 = s4'
                · subst e8
                  by_cases e9 : l = l'
                  · subst e9; simp at h
                  · simp [go_sem, Tryd.underlying27, e9]
                · have := str_ne e8; simp [go_sem, Tryd.underlying27, this]
              · have := str_ne e7; simp [go_sem, Tryd.underlying27, this]
            · have := str_ne e6; simp [go_sem, Tryd.underlying27, this]
          · have := str_ne e5; simp [go_sem, Tryd.underlying27, this]
        · simp [go_sem, Tryd.underlying27, e4]
      · simp [go_sem, Tryd.underlying27, e3]
    · simp [go_sem, Tryd.underlying27, e2]
  · simp [go_sem, Tryd.underlying27, e1]
end Go.Proofs.YtggmhodogfngdaaDoor.Gt
