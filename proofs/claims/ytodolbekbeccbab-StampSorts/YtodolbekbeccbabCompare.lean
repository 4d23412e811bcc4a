import Derived.Test.YtodolbekbeccbabLess
import Derived.Test.YtodolbekbeccbabEqs
namespace Go.Proofs.Ytodolbekbeccbab
open Go.RowKit

set_option maxHeartbeats 400000 in
theorem compare_any (a b c x y z : Int) (w : World) :
    Calls Try.prog 25 #[stv a b c, stv x y z] w fun e w' => e = .returned (.int .i64 (cmpI a b c x y z)) ∧ Below w.heap.size w w' := by
  by_cases h : a = x ∧ b = y ∧ c = z
  · obtain ⟨rfl, rfl, rfl⟩ := h
    go_enter Try.func25, Try.ntmps25
    go_wp2
    go_ret
    exact ⟨by simp [cmpI, sameB], ((Below.refl _ _).alloc (Nat.le_refl _) _).alloc (by simp) _⟩
  · have hs := sameB_no h
    have hq : ∀ w, (binOp .eql 25 (stv a b c) (stv x y z)).run Try.prog w = .ok (.bool false) w := fun w => by rw [run_eq, hs]
    cases hl : lessB a b c x y z
    all_goals
      go_enter Try.func25, Try.ntmps25
      go_wp2_with (go_at_call 21; refine (less_any _ _ _ _ _ _ _).mono ?_; rintro e w' ⟨rfl, hb⟩)
      go_ret
      exact ⟨by simp [cmpI, hs, hl], (((Below.refl _ _).alloc (Nat.le_refl _) _).alloc (by simp) _).trans (hb.mono (by simp; omega))⟩

theorem compare_is {a b c x y z v : Int} (h : cmpI a b c x y z = v) (w : World) :
    Calls Try.prog 25 #[stv a b c, stv x y z] w fun e w' => e = .returned (.int .i64 v) ∧ Below w.heap.size w w' := h ▸ compare_any a b c x y z w

end Go.Proofs.Ytodolbekbeccbab
