import Derived.Test.YtodolbekbeccbabTab
namespace Go.Proofs.Ytodolbekbeccbab
open Go.RowKit Go.Sort

set_option maxHeartbeats 1000000 in
theorem same_any (a a' : Option Addr) (c c' : Nat) (xs : List St) (w : World) (h : Row w a xs) (h' : Row w a' xs) (hl : xs.length ≤ 9223372036854775807) :
    Calls Try.prog 16 #[.slice a xs.length c, .slice a' xs.length c'] w fun e w' => e = .returned (.bool true) ∧ Below w.heap.size w w' := by
  have hn : ((xs.length : Int) != (xs.length : Int)) = false := by simp
  go_enter Try.func16, Try.ntmps16
  go_wp2_with fail
  go_loopg [5] xs.length (fun g s5 wr => ∃ k : Nat, k ≤ xs.length ∧ g = xs.length - k ∧ s5 = .int .i64 k ∧ Below w.heap.size w wr)
  case atStart => exact ⟨0, by omega, by omega, rfl, Below.refl _ _⟩
  case round =>
    obtain ⟨k, hk, rfl, rfl, hb⟩ := hrel
    by_cases hlt : k < xs.length
    · obtain ⟨b, off, rfl, c0, c1, c2⟩ := (h.later hb) k hlt
      obtain ⟨b', off', rfl, d0, d1, d2⟩ := (h'.later hb) k hlt
      obtain ⟨x, hx⟩ : ∃ x, x = nth xs k := ⟨_, rfl⟩
      rw [← hx] at c0 c1 c2 d0 d1 d2
      have kc0 := cell_regrown c0; have kc1 := cell_regrown c1; have kc2 := cell_regrown c2
      have kd0 := cell_regrown d0; have kd1 := cell_regrown d1; have kd2 := cell_regrown d2
      have hne : ∀ w, (binOp .neq 25 (stv x.w x.l x.n) (stv x.w x.l x.n)).run Try.prog w = .ok (.bool false) w := fun w => by rw [run_ne, sameB_self]; rfl
      clear hx h h'
      go_wp2_with fail
      refine wp_region_quiet_below (by kernel_rfl) (by kernel_rfl) ?_
      repeat (go_big_quiet_step (fail))
      refine wpQuiet_nil ?_
      intro w1 hw
      replace hw := below_of_regrown hw
      replace hb := Below.on hb hw
      clear hw kc0 kc1 kc2 kd0 kd1 kd2
      go_wp2_with fail
      go_roundg (xs.length - (k + 1))
      case measure => omega
      case rel => exact ⟨k + 1, by omega, rfl, by go_num, hb⟩
    · obtain rfl : k = xs.length := by omega
      go_wp2_with fail
      go_ret
      exact ⟨rfl, hb⟩

end Go.Proofs.Ytodolbekbeccbab
