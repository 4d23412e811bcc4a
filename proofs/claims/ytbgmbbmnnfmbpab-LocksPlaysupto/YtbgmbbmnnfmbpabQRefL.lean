import Derived.Test.YtbgmbbmnnfmbpabLess
namespace Go.Proofs.Ytbgmbbmnnfmbpab
open Go.RowKit Go.Sort

set_option maxHeartbeats 400000 in
theorem refless_any (a b c x y z : Int) (w : World) :
    Calls Try.prog 42 #[stv a b c, stv x y z] w fun e w' => e = .returned (.bool (lessB a b c x y z)) ∧ Below w.heap.size w w' := by
  have hB : Below w.heap.size w ((w.alloc (.cells #[.int .u64 a, .int .u32 b, .int .u32 c] 32)).alloc (.cells #[.int .u64 x, .int .u32 y, .int .u32 z] 32)) :=
    ((Below.refl _ _).alloc (Nat.le_refl _) _).alloc (by simp) _
  by_cases h1 : a < x
  · have hv : lessB a b c x y z = true := lessB_iff.2 (by omega)
    rw [hv]
    go_enter Try.func42, Try.ntmps42
    go_wp2
    go_ret
    exact ⟨rfl, hB⟩
  · by_cases h2 : a = x
    · subst h2
      by_cases h3 : b < y
      · have hv : lessB a b c a y z = true := lessB_iff.2 (by omega)
        rw [hv]
        go_enter Try.func42, Try.ntmps42
        go_wp2
        go_ret
        exact ⟨rfl, hB⟩
      · by_cases h4 : b = y
        · subst h4
          have hv : lessB a b c a b z = decide (c < z) := by simp [lessB]
          rw [hv]
          go_enter Try.func42, Try.ntmps42
          go_wp2
          go_ret
          exact ⟨rfl, hB⟩
        · have hv : lessB a b c a y z = false := lessB_iff_false.2 (by omega)
          have h4' : (b == y) = false := by simpa using h4
          rw [hv]
          go_enter Try.func42, Try.ntmps42
          go_wp2
          go_ret
          exact ⟨rfl, hB⟩
    · have hv : lessB a b c x y z = false := lessB_iff_false.2 (by omega)
      have h2' : (a == x) = false := by simpa using h2
      rw [hv]
      go_enter Try.func42, Try.ntmps42
      go_wp2
      go_ret
      exact ⟨rfl, hB⟩

theorem refless_is {a b c x y z : Int} {v : Bool} (h : lessB a b c x y z = v) (w : World) :
    Calls Try.prog 42 #[stv a b c, stv x y z] w fun e w' => e = .returned (.bool v) ∧ Below w.heap.size w w' := h ▸ refless_any a b c x y z w

end Go.Proofs.Ytbgmbbmnnfmbpab
