import Derived.Test.YtodolbekbeccbaaRefLess
namespace Go.Proofs.Ytodolbekbeccbaa
open Go.RowKit Go.Sort

theorem refcmp_val (a b c x y z : Int) : cmpI a b c x y z = if lessB a b c x y z then -1 else if lessB x y z a b c then 1 else 0 := by
  by_cases h : a = x ∧ b = y ∧ c = z
  · obtain ⟨rfl, rfl, rfl⟩ := h
    simp [cmpI_self, less_irr]
  · rw [less_anti h]
    cases k : lessB a b c x y z
    · simp [cmpI_gt (sameB_no h) k]
    · simp [cmpI_lt (sameB_no h) k]

set_option maxHeartbeats 400000 in
theorem refcompare_any (a b c x y z : Int) (w : World) :
    Calls Try.prog 14 #[stv a b c, stv x y z] w fun e w' => e = .returned (.int .i64 (cmpI a b c x y z)) ∧ Below w.heap.size w w' := by
  have hB : Below w.heap.size w ((w.alloc (.cells #[.int .u64 a, .int .u32 b, .int .u32 c] 25)).alloc (.cells #[.int .u64 x, .int .u32 y, .int .u32 z] 25)) :=
    ((Below.refl _ _).alloc (Nat.le_refl _) _).alloc (by simp) _
  have A : StampAt ((w.alloc (.cells #[.int .u64 a, .int .u32 b, .int .u32 c] 25)).alloc (.cells #[.int .u64 x, .int .u32 y, .int .u32 z] 25)) w.heap.size a b c := by
    refine ⟨?_, ?_, ?_⟩ <;> (simp [go_sem]; done)
  have B : StampAt ((w.alloc (.cells #[.int .u64 a, .int .u32 b, .int .u32 c] 25)).alloc (.cells #[.int .u64 x, .int .u32 y, .int .u32 z] 25)) (w.heap.size + 1) x y z := by
    refine ⟨?_, ?_, ?_⟩ <;> (simp [go_sem]; done)
  have hval := refcmp_val a b c x y z
  cases hl : lessB a b c x y z <;> cases hk : lessB x y z a b c <;> rw [hl, hk] at hval
  all_goals
    rw [hval]
    clear hval
    go_enter Try.func14, Try.ntmps14
    go_wp2_with fail
    refine (refless_is hl _).mono ?_
    rintro e w1 ⟨rfl, hw⟩
    have ⟨a0, a1, a2⟩ := A.later hw
    have ⟨b0, b1, b2⟩ := B.later hw
    replace hB := Below.on hB hw
    clear A B hw
    go_wp2_with fail
    refine (refless_is hk _).mono ?_
    rintro e w2 ⟨rfl, hw⟩
    replace hB := Below.on hB hw
    clear hw a0 a1 a2 b0 b1 b2
    go_wp2_with fail
    go_ret
    exact ⟨rfl, hB⟩

theorem refcompare_is {a b c x y z v : Int} (h : cmpI a b c x y z = v) (w : World) :
    Calls Try.prog 14 #[stv a b c, stv x y z] w fun e w' => e = .returned (.int .i64 v) ∧ Below w.heap.size w w' := h ▸ refcompare_any a b c x y z w

end Go.Proofs.Ytodolbekbeccbaa
