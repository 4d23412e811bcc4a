import Derived.Test.YtaknkodjganacaaDoorVRoom
/- The laws' own small calls: in, below, samePairs. -/
namespace Go.Proofs.YtaknkodjganacaaDoor.Vs
open Go.RowKit Go.Sort
set_option linter.unusedVariables false

set_option maxHeartbeats 400000 in
theorem below_any (a b c x y z : Int) (w : World) :
    Calls Tryd.prog 14 #[stv a b c, stv x y z] w fun e w' => e = .returned (.bool (lessB a b c x y z)) ∧ Below w.heap.size w w' := by
  by_cases h1 : a = x
  · by_cases h2 : b = y
    · subst h1 h2
      go_enter Tryd.func14, Tryd.ntmps14
      go_wp2
      go_ret
      exact ⟨by simp [lessB], ((Below.refl _ _).alloc (Nat.le_refl _) _).alloc (by simp) _⟩
    · subst h1
      have h2' : (b != y) = true := by simpa using h2
      go_enter Tryd.func14, Tryd.ntmps14
      go_wp2
      go_ret
      exact ⟨by simp [lessB, h2], ((Below.refl _ _).alloc (Nat.le_refl _) _).alloc (by simp) _⟩
  · have h1' : (a != x) = true := by simpa using h1
    go_enter Tryd.func14, Tryd.ntmps14
    go_wp2
    go_ret
    exact ⟨by simp [lessB, h1], ((Below.refl _ _).alloc (Nat.le_refl _) _).alloc (by simp) _⟩

theorem below_is {s t : Sp} {u : Bool} (h : s.lt t = u) (w : World) : Calls Tryd.prog 14 #[sv s, sv t] w fun e w' => e = .returned (.bool u) ∧ Below w.heap.size w w' := by
  have := below_any s.a s.b s.c t.a t.b t.c w
  unfold Sp.lt at h; rw [h] at this; exact this
end Go.Proofs.YtaknkodjganacaaDoor.Vs
