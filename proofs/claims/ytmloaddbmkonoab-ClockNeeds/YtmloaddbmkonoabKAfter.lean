import Derived.Test.YtmloaddbmkonoabKStamps
namespace Go.Proofs.Ytmloaddbmkonoab
open Go.RowKit

set_option maxHeartbeats 400000 in
theorem after_any (a b c x y z : Int) (w : World) :
    Calls Try.prog 27 #[stv a b c, stv x y z] w fun e w' => e = .returned (.bool (lessB x y z a b c)) ∧ Below w.heap.size w w' := by
  by_cases h1 : a = x
  · by_cases h2 : b = y
    · subst h1 h2
      go_enter Try.func27, Try.ntmps27
      go_wp2
      go_ret
      exact ⟨by simp [lessB], ((Below.refl _ _).alloc (Nat.le_refl _) _).alloc (by simp) _⟩
    · subst h1
      have h2' : (b != y) = true := by simpa using h2
      have h3 : ¬ y = b := fun e => h2 e.symm
      go_enter Try.func27, Try.ntmps27
      go_wp2
      go_ret
      exact ⟨by simp [lessB, h3], ((Below.refl _ _).alloc (Nat.le_refl _) _).alloc (by simp) _⟩
  · have h1' : (a != x) = true := by simpa using h1
    have h3 : ¬ x = a := fun e => h1 e.symm
    go_enter Try.func27, Try.ntmps27
    go_wp2
    go_ret
    exact ⟨by simp [lessB, h3], ((Below.refl _ _).alloc (Nat.le_refl _) _).alloc (by simp) _⟩

theorem after_is {a b c x y z : Int} {v : Bool} (h : lessB x y z a b c = v) (w : World) :
    Calls Try.prog 27 #[stv a b c, stv x y z] w fun e w' => e = .returned (.bool v) ∧ Below w.heap.size w w' := h ▸ after_any a b c x y z w

end Go.Proofs.Ytmloaddbmkonoab
